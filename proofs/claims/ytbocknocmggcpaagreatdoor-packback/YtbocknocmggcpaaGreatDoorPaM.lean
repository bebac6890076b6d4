/- Packs in plain mathematics: the texts ahead, bases, entries; what becomes of an entry when it is read. -/
import Derived.Test.YtbocknocmggcpaaGreatDoorPkD
namespace Go.Proofs.YtbocknocmggcpaaGreatDoor.Pk
open Go Cal

/-- the last text that has a block, behind j blocks of text n -/
def updK (f : List UInt8 → Option Nat) (s : List UInt8) (n j : Nat) (key : List UInt8) : Option Nat := if ((List.range j).any fun i => bk s (8 * i) == key) then some n else f key
theorem updK_zero (f : List UInt8 → Option Nat) (s : List UInt8) (n : Nat) : updK f s n 0 = f := rfl
theorem updK_succ (f : List UInt8 → Option Nat) (s : List UInt8) (n j : Nat) (key : List UInt8) : updK f s n (j + 1) key = if key = bk s (8 * j) then some n else updK f s n j key := by
  unfold updK
  rw [List.range_succ, List.any_append]
  by_cases h : key = bk s (8 * j)
  · rw [if_pos h, if_pos]
    simp [h]
  · rw [if_neg h]
    have e : ([j].any fun i => bk s (8 * i) == key) = false := by
      simp
      exact fun e => h e.symm
    rw [e, Bool.or_false]
def lf : Nat → (List UInt8 → Option Nat) → List (List UInt8) → List UInt8 → Option Nat
  | _, f, [] => f
  | n, f, s :: r => lf (n + 1) (updK f s n (s.length / 8)) r
theorem lf_append (l : List (List UInt8)) : ∀ (n : Nat) (f : List UInt8 → Option Nat) (s : List UInt8), lf n f (l ++ [s]) = updK (lf n f l) s (n + l.length) (s.length / 8) := by
  induction l with
  | nil => intro n f s; rfl
  | cons x l ih =>
    intro n f s
    show lf (n + 1) _ (l ++ [s]) = _
    rw [ih, List.length_cons, show n + 1 + l.length = n + (l.length + 1) by omega]
    rfl
/-- the last text that has a block -/
def lastF (ts : List (List UInt8)) : List UInt8 → Option Nat := lf 0 (fun _ => none) ts
theorem lastF_snoc (ts : List (List UInt8)) (s : List UInt8) : lastF (ts ++ [s]) = updK (lastF ts) s ts.length (s.length / 8) := by
  unfold lastF
  rw [lf_append, Nat.zero_add]
theorem lf_lt (l : List (List UInt8)) : ∀ (n : Nat) (f : List UInt8 → Option Nat), (∀ k m, f k = some m → m < n) → ∀ k m, lf n f l k = some m → m < n + l.length := by
  induction l with
  | nil => intro n f hf k m h; exact hf k m h
  | cons x l ih =>
    intro n f hf k m h
    have := ih (n + 1) (updK f x n (x.length / 8)) (fun k m q => by
      unfold updK at q
      split at q
      · cases q; omega
      · have := hf k m q; omega) k m h
    rw [List.length_cons]
    omega
theorem lastF_lt {ts : List (List UInt8)} {k : List UInt8} {m : Nat} (h : lastF ts k = some m) : m < ts.length := by
  have := lf_lt ts 0 (fun _ => none) (fun k m h => by cases h) k m h
  omega
/-- the texts that have a text's blocks, place by place -/
def nsF (f : List UInt8 → Option Nat) (s : List UInt8) (i : Nat) : List Nat := (List.range i).filterMap fun j => f (bk s j)
theorem nsF_some {f : List UInt8 → Option Nat} {s : List UInt8} {i n : Nat} (h : f (bk s i) = some n) : nsF f s (i + 1) = nsF f s i ++ [n] := by
  unfold nsF
  rw [List.range_succ, List.filterMap_append]
  simp [h]
theorem nsF_none {f : List UInt8 → Option Nat} {s : List UInt8} {i : Nat} (h : f (bk s i) = none) : nsF f s (i + 1) = nsF f s i := by
  unfold nsF
  rw [List.range_succ, List.filterMap_append]
  simp [h]
theorem nsF_lt {ts : List (List UInt8)} {s : List UInt8} {i n : Nat} (h : n ∈ nsF (lastF ts) s i) : n < ts.length := by
  unfold nsF at h
  obtain ⟨j, _, hj⟩ := List.mem_filterMap.1 h
  exact lastF_lt hj
/-- each once, as they come first -/
def fnd (l : List Nat) : List Nat := l.foldl (fun acc n => if acc.contains n then acc else acc ++ [n]) []
theorem fnd_snoc (l : List Nat) (n : Nat) : fnd (l ++ [n]) = if (fnd l).contains n then fnd l else fnd l ++ [n] := by
  unfold fnd
  rw [List.foldl_append]
  rfl
theorem mem_fnd (l : List Nat) (n : Nat) : n ∈ fnd l ↔ n ∈ l := by
  rw [← List.reverse_reverse l]
  induction l.reverse with
  | nil => simp [fnd]
  | cons x r ih =>
    rw [List.reverse_cons, fnd_snoc]
    split
    · rename_i h
      rw [List.contains_iff_mem] at h
      rw [ih, List.mem_append, List.mem_singleton]
      constructor
      · exact .inl
      · rintro (q | rfl)
        · exact q
        · exact ih.1 h |> fun z => by
            rcases List.mem_append.1 (List.mem_append_left [] z) with w | w
            · exact w
            · cases w
    · rw [List.mem_append, List.mem_append, ih]
theorem fnd_len (l : List Nat) : (fnd l).length ≤ l.length := by
  rw [← List.reverse_reverse l]
  induction l.reverse with
  | nil => simp [fnd]
  | cons x r ih =>
    rw [List.reverse_cons, fnd_snoc]
    split
    · rw [List.length_append]; omega
    · rw [List.length_append, List.length_append]; simp; simpa using ih
/-- less, same, greater -/
def cmpI (a b : Int) : Int := if a < b then -1 else if b < a then 1 else 0
/-- which of two bases comes first -/
def cfN (c : Nat → Nat) (x y : Nat) : Int := if cmpI (c y) (c x) ≠ 0 then cmpI (c y) (c x) else cmpI y x
theorem cmpI_lt {a b : Int} : cmpI a b < 0 ↔ a < b := by unfold cmpI; split <;> (try split) <;> omega
theorem cmpI_zero {a b : Int} : cmpI a b = 0 ↔ a = b := by unfold cmpI; split <;> (try split) <;> omega
theorem cfN_lt (c : Nat → Nat) (x y : Nat) : cfN c x y < 0 ↔ (c y < c x ∨ (c y = c x ∧ y < x)) := by
  unfold cfN
  split
  · rename_i h
    rw [cmpI_lt]
    have : ¬ ((c y : Int) = c x) := fun e => h (cmpI_zero.2 e)
    omega
  · rename_i h
    have h' : cmpI (c y) (c x) = 0 := Classical.byContradiction h
    have := cmpI_zero.1 h'
    rw [cmpI_lt]
    omega
/-- the bases that are tried -/
def basF (f : List UInt8 → Option Nat) (s : List UInt8) : List Nat := ((fnd (nsF f s (s.length - 7))).mergeSort fun x y => !decide (cfN (fun n => (nsF f s (s.length - 7)).count n) y x < 0)).take 4
theorem basF_lt {ts : List (List UInt8)} {s : List UInt8} {n : Nat} (h : n ∈ basF (lastF ts) s) : n < ts.length := by
  unfold basF at h
  exact nsF_lt ((mem_fnd _ _).1 (List.mem_mergeSort.1 (List.mem_of_mem_take h)))
/-- a text with its size ahead, and a sign -/
noncomputable def szX (s : List UInt8) (en : UInt8) : List UInt8 := Lib.itoa s.length ++ 58 :: (s ++ [en])
/-- a delta as an entry -/
noncomputable def dlE (n : Nat) (d : List UInt8) : List UInt8 := 126 :: (Lib.itoa n ++ 58 :: szX d 10)
/-- the shorter one -/
def shr (x y : List UInt8) : List UInt8 := if y.length < x.length then y else x
/-- an entry -/
noncomputable def entE (ts : List (List UInt8)) (s : List UInt8) : List UInt8 := (basF (lastF ts) s).foldl (fun x n => shr x (dlE n (dl (ts.getD n []) s))) (61 :: szX s 10)
theorem fold_form (ts : List (List UInt8)) (s : List UInt8) (l : List Nat) (hl : ∀ n ∈ l, n < ts.length) (x : List UInt8) (hx : x.length ≤ (61 :: szX s 10).length) (h : x = 61 :: szX s 10 ∨ ∃ n, n < ts.length ∧ x = dlE n (dl (ts.getD n []) s)) :
    let y := l.foldl (fun x n => shr x (dlE n (dl (ts.getD n []) s))) x
    y.length ≤ (61 :: szX s 10).length ∧ (y = 61 :: szX s 10 ∨ ∃ n, n < ts.length ∧ y = dlE n (dl (ts.getD n []) s)) := by
  induction l generalizing x with
  | nil => exact ⟨hx, h⟩
  | cons n l ih =>
    rw [List.foldl_cons]
    refine ih (fun m hm => hl m (List.mem_cons_of_mem _ hm)) _ ?_ ?_
    · unfold shr; split <;> omega
    · unfold shr
      split
      · exact .inr ⟨n, hl n List.mem_cons_self, rfl⟩
      · exact h
theorem entE_form (ts : List (List UInt8)) (s : List UInt8) : (entE ts s).length ≤ (61 :: szX s 10).length ∧ (entE ts s = 61 :: szX s 10 ∨ ∃ n, n < ts.length ∧ entE ts s = dlE n (dl (ts.getD n []) s)) :=
  fold_form ts s _ (fun _ h => basF_lt h) _ (Nat.le_refl _) (.inl rfl)
/-- a pack, from there on -/
noncomputable def pkE : List (List UInt8) → List (List UInt8) → List UInt8
  | _, [] => []
  | pre, s :: r => entE pre s ++ pkE (pre ++ [s]) r
theorem pkE_snoc (r : List (List UInt8)) : ∀ (pre : List (List UInt8)) (s : List UInt8), pkE pre (r ++ [s]) = pkE pre r ++ entE (pre ++ r) s := by
  induction r with
  | nil => intro pre s; simp [pkE]
  | cons x r ih =>
    intro pre s
    show entE pre x ++ pkE (pre ++ [x]) (r ++ [s]) = entE pre x ++ pkE (pre ++ [x]) r ++ _
    rw [ih, List.append_assoc, List.append_assoc]
    rfl
theorem szX_len (s : List UInt8) (en : UInt8) (h : s.length ≤ 999999) : (szX s en).length ≤ s.length + 8 := by
  have := itoa_len (s.length : Int) (by omega) (by omega)
  unfold szX
  simp only [List.length_append, List.length_cons, List.length_nil]
  omega
theorem pkE_len (r : List (List UInt8)) : ∀ (pre : List (List UInt8)) (B : Nat), B ≤ 999999 → (∀ s ∈ r, s.length ≤ B) → (pkE pre r).length ≤ r.length * (B + 9) := by
  induction r with
  | nil => intro pre B _ _; simp [pkE]
  | cons x r ih =>
    intro pre B hB h
    have h1 := (entE_form pre x).1
    have h2 := szX_len x 10 (by have := h x List.mem_cons_self; omega)
    have h3 := ih (pre ++ [x]) B hB (fun s hs => h s (List.mem_cons_of_mem _ hs))
    have h4 := h x List.mem_cons_self
    unfold pkE
    rw [List.length_append, List.length_cons, Nat.add_mul]
    rw [List.length_cons] at h1
    omega
end Go.Proofs.YtbocknocmggcpaaGreatDoor.Pk
