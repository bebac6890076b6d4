/- Package pool's Read, of any text. -/
import Derived.Test.YtbocknocmggcpaaGreatDoorPlC
import Derived.Test.YtbocknocmggcpaaGreatDoorPlT
namespace Go.Proofs.YtbocknocmggcpaaGreatDoor
open Go Go.RowKit Go.Maps Cal
attribute [local go_sem] Oper.semAt_some

/-- is a text one of these? -/
def memB (x : ByteArray) (ts : List ByteArray) : Bool := ts.any fun t => t.data.toList == x.data.toList
theorem memB_iff (x : ByteArray) (ts : List ByteArray) : memB x ts = true ↔ x ∈ ts := by
  unfold memB
  rw [List.any_eq_true]
  constructor
  · rintro ⟨t, ht, q⟩
    rw [← pl_ext (beq_iff_eq.1 q)]; exact ht
  · intro h; exact ⟨x, h, beq_iff_eq.2 rfl⟩
/-- what is read of a text: the texts; or which error, and where (fuel: the text's length) -/
def rdF : Nat → List ByteArray → List UInt8 → Option (List ByteArray) × Nat × Nat
  | 0, ts, _ => (some ts, 0, 0)
  | f + 1, ts, l =>
    if l = [] then (some ts, 0, 0) else
    if (cutK l).1 ≠ 0 then (none, (cutK l).1, ts.length) else
    if memB (bs (cutK l).2.1) ts = true then (none, 3, ts.length) else
    if 1000 ≤ ts.length then (none, 4, ts.length) else rdF f (ts ++ [bs (cutK l).2.1]) (cutK l).2.2
theorem cutK_ok {l : List UInt8} (h : (cutK l).1 = 0) : (cutK l).2.2.length < l.length ∧ (cutK l).2.1.length ≤ 10000 := by
  unfold cutK at h ⊢
  split at h
  · cases h
  · rename_i hi
    split at h
    · cases h
    · rename_i n hn
      obtain ⟨_, _, hn0, _⟩ := numOf_some hn
      split at h
      · cases h
      · rename_i h1
        split at h
        · cases h
        · rename_i h2
          split at h
          · rename_i h3
            rw [if_neg hi, if_neg h1, if_neg h2, if_pos h3]
            have hl := (List.getElem?_eq_some_iff.1 h3).1
            simp only [List.length_take, List.length_drop] at hl ⊢
            omega
          · cases h
theorem cutK_code (l : List UInt8) : (cutK l).1 = 0 ∨ (cutK l).1 = 1 ∨ (cutK l).1 = 2 := by
  unfold cutK
  split
  · simp
  · split
    · simp
    · split
      · simp
      · split
        · simp
        · split <;> simp
theorem rdF_fuel : ∀ (f : Nat) (ts : List ByteArray) (l : List UInt8) (k : Nat), l.length ≤ f → l.length ≤ k → rdF f ts l = rdF k ts l
  | 0, ts, l, k, h, _ => by
    have : l = [] := List.length_eq_zero_iff.1 (by omega)
    subst this
    cases k <;> simp [rdF]
  | f + 1, ts, l, 0, _, h => by
    have : l = [] := List.length_eq_zero_iff.1 (by omega)
    subst this
    simp [rdF]
  | f + 1, ts, l, k + 1, h1, h2 => by
    unfold rdF
    by_cases h0 : l = []
    · rw [if_pos h0, if_pos h0]
    · rw [if_neg h0, if_neg h0]
      by_cases hc : (cutK l).1 = 0
      · have hcc : ¬ ((cutK l).1 ≠ 0) := fun q => q hc
        rw [if_neg hcc, if_neg hcc]
        have := (cutK_ok hc).1
        rw [rdF_fuel f (ts ++ [bs (cutK l).2.1]) (cutK l).2.2 k (by omega) (by omega)]
      · rw [if_pos hc, if_pos hc]
def rd (ts : List ByteArray) (l : List UInt8) : Option (List ByteArray) × Nat × Nat := rdF l.length ts l
theorem rd_nil (ts : List ByteArray) : rd ts [] = (some ts, 0, 0) := rfl
theorem rd_step (ts : List ByteArray) {l : List UInt8} (h : l ≠ []) : rd ts l =
    if (cutK l).1 ≠ 0 then (none, (cutK l).1, ts.length) else
    if memB (bs (cutK l).2.1) ts = true then (none, 3, ts.length) else
    if 1000 ≤ ts.length then (none, 4, ts.length) else rd (ts ++ [bs (cutK l).2.1]) (cutK l).2.2 := by
  unfold rd
  cases l with
  | nil => exact absurd rfl h
  | cons a r =>
    show rdF (r.length + 1) ts (a :: r) = _
    conv => lhs; unfold rdF
    rw [if_neg h]
    by_cases hc : (cutK (a :: r)).1 = 0
    · have hcc : ¬ ((cutK (a :: r)).1 ≠ 0) := fun q => q hc
      rw [if_neg hcc, if_neg hcc]
      have := (cutK_ok hc).1
      rw [rdF_fuel r.length (ts ++ [bs (cutK (a :: r)).2.1]) (cutK (a :: r)).2.2 _ (by simp at this; omega) (Nat.le_refl _)]
    · rw [if_pos hc, if_pos hc]

theorem index_after {a r : List UInt8} {c : UInt8} (h : c ∉ a) : Lib.indexByte (a ++ c :: r) c = a.length := by
  induction a with
  | nil => simp [Lib.indexByte]
  | cons x a ih =>
    have h1 : x ≠ c := fun e => h (by rw [e]; exact List.mem_cons_self)
    have h2 := ih (fun q => h (List.mem_cons_of_mem _ q))
    show (if x == c then (0 : Int) else if Lib.indexByte (a ++ c :: r) c == -1 then -1 else Lib.indexByte (a ++ c :: r) c + 1) = _
    rw [h2, if_neg (by simpa using h1), if_neg (by simp)]
    simp
theorem cutK_text (t : ByteArray) (r : List UInt8) (h : t.size ≤ 10000) : cutK (Lib.itoa t.size ++ [58] ++ t.data.toList ++ [10] ++ r) = (0, t.data.toList, r) := by
  have e : Lib.itoa (t.size : Int) ++ [58] ++ t.data.toList ++ [10] ++ r = Lib.itoa (t.size : Int) ++ 58 :: (t.data.toList ++ 10 :: r) := by simp
  have hno : (58 : UInt8) ∉ Lib.itoa (t.size : Int) := fun q => by have := itoa_digs (t.size : Int) (by omega) _ q; revert this; decide
  have hi := index_after (r := t.data.toList ++ 10 :: r) hno
  have hl : t.data.toList.length = t.size := (Lib.size_eq t).symm
  unfold cutK
  rw [e, hi, if_neg (by omega), Int.toNat_natCast, List.take_left, numOf_itoa _ (by omega) (by omega)]
  dsimp only
  have hd : (Lib.itoa (t.size : Int) ++ 58 :: (t.data.toList ++ 10 :: r)).drop ((Lib.itoa (t.size : Int)).length + 1) = t.data.toList ++ 10 :: r := by
    rw [← List.drop_drop, List.drop_left]
    rfl
  rw [hd, if_neg (by omega), if_neg (by rw [List.length_append]; omega), Int.toNat_natCast, if_pos]
  · rw [← hl, List.take_left, ← List.drop_drop, List.drop_left]
    rfl
  · rw [← hl, List.getElem?_append_right (Nat.le_refl _), Nat.sub_self]
    rfl
theorem rd_text : ∀ (ts ss : List ByteArray), (∀ t ∈ ts, t.size ≤ 10000) → ts.Nodup → (∀ t ∈ ts, t ∉ ss) → ss.length + ts.length ≤ 1000 → rd ss (plT ts) = (some (ss ++ ts), 0, 0)
  | [], ss, _, _, _, _ => by rw [List.append_nil]; rfl
  | t :: ts, ss, hz, hn, hd, hl => by
    have hne : plT (t :: ts) ≠ [] := by rw [plT_cons]; simp
    have hc := cutK_text t (plT ts) (hz t List.mem_cons_self)
    have hbt : bs t.data.toList = t := pl_ext (bs_data _)
    obtain ⟨hn1, hn2⟩ := List.nodup_cons.1 hn
    rw [rd_step _ hne, plT_cons, hc, if_neg (fun q => q rfl), hbt, if_neg (fun q => hd t List.mem_cons_self ((memB_iff _ _).1 q)), if_neg (by simp at hl; omega), rd_text ts (ss ++ [t]) (fun x hx => hz x (List.mem_cons_of_mem _ hx)) hn2 ?_ (by simp at hl ⊢; omega), List.append_assoc]
    · rfl
    · intro x hx q
      rcases List.mem_append.1 q with q | q
      · exact hd x (List.mem_cons_of_mem _ hx) q
      · rw [List.mem_singleton.1 q] at hx; exact hn1 hx

def strLen : Value → Nat
  | .string s => s.size
  | _ => 0
theorem pempty {s : ByteArray} (h : s ≠ ⟨#[]⟩) : s.toList.isEmpty = false ∧ s.data.toList ≠ [] := by
  have : s.data.toList ≠ [] := fun q => h (pl_ext q)
  refine ⟨?_, this⟩
  rw [ByteArray.toList_eq]
  cases h2 : s.data.toList with
  | nil => exact absurd h2 this
  | cons _ _ => rfl
theorem PKept.below {w0 w w' : World} {lo pb mb : Nat} {tv : Value} {ts : List ByteArray} (h : PKept w w' pb mb tv) (hp : PoolAt lo w pb mb tv ts) (hb : Below w0.heap.size w0 w) (h1 : w0.heap.size ≤ pb) (h2 : w0.heap.size ≤ mb) (h3 : w0.heap.size ≤ lo) : Below w0.heap.size w0 w' :=
  ⟨h.os.trans hb.os, h.tape.trans hb.tape, h.output.trans hb.output, Nat.le_trans hb.size h.size, fun k hk => (h.block k (Nat.lt_of_lt_of_le hk hb.size) (by omega) (by omega) (fun q => by have := (World.ownsRow.lt hp.row k q).1; omega)).trans (hb.block k hk)⟩

/-- what Read answers -/
def ReadIs (sn : Nat → Addr) (w : World) (s : ByteArray) (r : Ending) (w' : World) : Prop :=
  (∃ ts lo pb mb tv, rd [] s.data.toList = (some ts, 0, 0) ∧ r = .returned (.tuple #[.pointer (some ⟨pb, 0, none⟩), .nilIface]) ∧ PoolAt lo w' pb mb tv ts ∧ w.heap.size ≤ pb ∧ (∀ t ∈ ts, t.size ≤ 10000) ∧ ts.length ≤ 1000) ∨
  (∃ k n fb, rd [] s.data.toList = (none, k, n) ∧ 1 ≤ k ∧ k ≤ 4 ∧ n ≤ 1000 ∧ r = .returned (.tuple #[.pointer none, .iface 108 (.pointer (some ⟨fb, 0, none⟩))]) ∧ w.heap.size ≤ fb ∧ w'.heap[fb]? = some (.cells #[.int .i64 n, perr sn k] 110 (0, 0)))

theorem readBy_long (s : ByteArray) (f : Value) (sn : Nat → Addr) (w : World) (g : GlobP sn w) (hl : 1048576 < s.size) :
    Calls Tryz.prog 38 #[.string s, f] w fun r w' => r = .returned (.tuple #[.pointer none, perr sn 2]) ∧ Below w.heap.size w w' := by
  have hB := g.bound
  have hl' : (1048576 : Int) < (s.size : Int) := by omega
  clear g
  go_enter Tryz.func38, Tryz.ntmps38
  go_wp2
  go_quiet (fail)
  go_wp2
  go_ret2
  exact ⟨rfl, pl_drew _ _⟩
end Go.Proofs.YtbocknocmggcpaaGreatDoor
