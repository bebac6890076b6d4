/- Contracts of package day's twoDigits and Text: a day's text is the date's ten signs; no day has the empty one. -/
import Derived.Test.YtkjfbeempmfipaaGreatDoorJtAA
import Derived.Lib.SmallJoins
import Derived.RangeFuncNested
import Derived.RangeFuncBound
import Derived.RangeFuncCalls
import Derived.RangeFuncLeaves
import Derived.Laws.OwnMore
namespace Go.Proofs.YtkjfbeempmfipaaGreatDoor
open Go.RowKit Cal

theorem grow_below (w : World) (q : Nat) (os : Array Obj) : Below w.heap.size w (Sort.grow (w.drewN q) os) :=
  ⟨rfl, rfl, rfl, by simp [Sort.grow], fun k hk => by
    show (w.heap ++ os)[k]? = w.heap[k]?
    rw [Array.getElem?_append_left hk]⟩
theorem ret_str {a b : ByteArray} (h : a = b) : Ending.returned (.string a) = .returned (.string b) := by rw [h]
theorem gPow : Tryz.prog.globalNamed "internal/strconv.uint64pow10" = some 12 := by kernel_rfl
/-- the library's table of powers of ten -/
def Tab (w : World) : Prop := Lib.TabIs Tryz.prog w "internal/strconv.uint64pow10" .u64 Lib.pow10Tab
theorem Tab.step {w w' : World} (h : Tab w) (hb : Below w.heap.size w w') : Tab w' := Joins.tab_stays gPow h hb (Nat.le_refl _)

theorem itoa_year (y : Int) (w : World) (h0 : 1000 ≤ y) (h1 : y ≤ 9999) (ht : Tab w) :
    Calls Tryz.prog 14 #[.int .i64 y] w fun e w' => e = .returned (.string ⟨(four y).toArray⟩) ∧ Below w.heap.size w w' := by
  refine (Tryz.strconv_Itoa y (by omega) (by omega) w ht).mono ?_
  rintro e w' ⟨rfl, k, os, rfl⟩
  exact ⟨by rw [itoa_four y h0 h1], grow_below _ _ _⟩

theorem twoDigits_any (k : Int) (w : World) (h0 : 0 ≤ k) (h1 : k < 100) :
    Calls Tryz.prog 130 #[.int .i64 k] w fun e w' => e = .returned (.string ⟨(two k).toArray⟩) ∧ w' = w := by
  obtain ⟨u, rfl⟩ : ∃ u : Nat, k = u := ⟨k.toNat, by omega⟩
  by_cases hu : u < 10
  · have ht := dec_low u hu
    have hl : (Lib.decDigits u).length = 1 := by rw [Lib.decDigits_one hu]; rfl
    have HT : Hid (_) := ht
    clear ht
    go_enter Tryz.func130, Tryz.ntmps130
    go_wp2_with (go_at_call 14; refine (Tryz.strconv_Itoa_small u (by omega) _).mono ?_; rintro e w' ⟨rfl, rfl⟩)
    go_ret
    exact ⟨ret_str (by rw [← HT.out]; exact ByteArray.mk_append_mk [48] _), rfl⟩
  · have ht := dec_two u hu (by omega)
    have HT : Hid (_) := ht
    clear ht
    go_enter Tryz.func130, Tryz.ntmps130
    go_wp2_with (go_at_call 14; refine (Tryz.strconv_Itoa_small u (by omega) _).mono ?_; rintro e w' ⟨rfl, rfl⟩)
    go_ret
    exact ⟨ret_str (by rw [← HT.out]), rfl⟩

theorem text_no (n : Int) (ev : Addr) (w : World) (h : n < 0 ∨ 73048 < n) (hB : w.cell? ⟨1, 0, none⟩ = some (.iface 221 (.pointer (some ev)))) :
    Calls Tryz.prog 92 #[.int .i64 n] w fun e w' => e = .returned (.string ⟨#[]⟩) ∧ Below w.heap.size w w' := by
  go_enter Tryz.func92, Tryz.ntmps92
  go_wp2_with (go_at_call 129; refine (date_no n ev _ h hB).mono ?_; rintro e w' ⟨rfl, hb⟩)
  go_ret
  exact ⟨rfl, hb⟩

theorem text_ok (n y m d : Int) (w : World) (h : vld y m d) (hn : num y m d = n) (ht : Tab w) :
    Calls Tryz.prog 92 #[.int .i64 n] w fun e w' => e = .returned (.string ⟨(txt y m d).toArray⟩) ∧ Below w.heap.size w w' := by
  have hh := h
  obtain ⟨hy0, hy1, hm0, hm1, hd0, hd1⟩ := hh
  have hd31 := (dim_bd y m).2
  have hl4 := four_length y
  have hl2 := two_length m
  have hl3 := two_length d
  go_enter Tryz.func92, Tryz.ntmps92
  go_wp2_with (first
    | (go_at_call 129; refine (date_ok n y m d _ h hn).mono ?_; rintro e w' ⟨rfl, rfl⟩)
    | (go_at_call 14; refine (itoa_year y _ (by omega) (by omega) ht).mono ?_; rintro e w' ⟨rfl, hb⟩)
    | (go_at_call_of 130 (Value.int .i64 m); refine (twoDigits_any m _ (by omega) (by omega)).mono ?_; rintro e w' ⟨rfl, rfl⟩)
    | (go_at_call_of 130 (Value.int .i64 d); refine (twoDigits_any d _ (by omega) (by omega)).mono ?_; rintro e w' ⟨rfl, rfl⟩))
  go_ret
  exact ⟨ret_str (by unfold txt; simp [ByteArray.mk_append_mk]), hb⟩
end Go.Proofs.YtkjfbeempmfipaaGreatDoor

/- Contracts of package day's Add: months more and less; what is returned is the day of the same number in the month that many months on, where there is one, else nought and false. -/
namespace Go.Proofs.YtkjfbeempmfipaaGreatDoor
open Go.RowKit Cal

/-- months from the first one on -/
def atM (y m : Int) : Int := (y - 2000) * 12 + m - 1
/-- the year and the month of a count of months -/
def yM (s : Int) : Int := 2000 + s / 12
def mM (s : Int) : Int := s % 12 + 1

theorem atM_bd {y m d : Int} (h : vld y m d) : 0 ≤ atM y m ∧ atM y m < 2400 := by
  obtain ⟨a, b, c, e, _, _⟩ := h; unfold atM; omega
theorem yM_atM {y m d : Int} (h : vld y m d) : yM (atM y m) = y ∧ mM (atM y m) = m := by
  obtain ⟨a, b, c, e, _, _⟩ := h; unfold atM yM mM; omega
theorem atM_yM (s : Int) : atM (yM s) (mM s) = s := by unfold atM yM mM; omega
theorem yM_in (s : Int) (h0 : 0 ≤ s) (h1 : s < 2400) : 2000 ≤ yM s ∧ yM s ≤ 2199 ∧ 1 ≤ mM s ∧ mM s ≤ 12 := by unfold yM mM; omega

end Go.Proofs.YtkjfbeempmfipaaGreatDoor

/- A range over a function whose iterator may write cells of its own, at the widest fence: one round out of its body's walk, and the statement out of the iterator's contract. Conditions: the assignment to the loop's variable leaves the world; a round ends normally or returns. -/
namespace Go.Proofs.YtkjfbeempmfipaaGreatDoor
open Go Go.RowKit

/-- how a round's body may be left -/
def rnd (l : Nat) (r : Loop) (R : Ending → World → Prop) : Exit → Act → World → Prop
  | .normal, _, W => W.heap[l]? = some (.loop { r with state := .busy }) ∧ R (.returned (.bool true)) (W.putObj l (.loop { r with state := .ready, pending := none }))
  | .ret, _, W => W.heap[l]? = some (.loop { r with state := .busy }) ∧ R (.returned (.bool false)) (W.putObj l (.loop { r with state := .done, pending := some .ret }))
  | _, _, _ => False

/-- the record of a loop that is ready -/
structure IsRec (r : Loop) (tmps : Array Value) (ps : Array Tmp) (assign body : Code) : Prop where
  state : r.state = .ready
  pending : r.pending = none
  tmps : r.tmps = tmps
  params : r.params = ps
  assign : r.assign = assign
  body : r.body = body
theorem IsRec.again {r : Loop} {tmps : Array Value} {ps : Array Tmp} {assign body : Code} (h : IsRec r tmps ps assign body) : { r with state := .ready, pending := none } = r := by
  obtain ⟨h1, h2, _, _, _, _⟩ := h
  cases r
  simp only at h1 h2
  subst h1 h2
  rfl

theorem yieldAt_of {P : Program} {n l : Nat} {r : Loop} {x : Array Value} {W : World} {R : Ending → World → Prop} {tmps : Array Value} {ps : Array Tmp} {assign body : Code} (hR : IsRec r tmps ps assign body) (a₁ : Act)
    (hl : W.heap[l]? = some (.loop r)) (hs : x.size = ps.size)
    (hassign : ∀ K : Act → World → Prop, K a₁ W → assign.wpIn (Fence.wide.inRound l) n P (Exit.then K (fun _ _ _ => False)) { tmps := (ps.zip x).foldl (fun t (p, v) => t.setIfInBounds p v) tmps, defers := [] } W)
    (hbody : body.wpIn (Fence.wide.inRound l) n P (rnd l r R) a₁ (W.putObj l (.loop { r with state := .busy }))) :
    YieldAt Fence.wide n P l x W R := by
  obtain ⟨hr, _, rfl, rfl, rfl, rfl⟩ := hR
  refine ⟨r.fn, _, r.assign, r.body, run_yield hl hs, roundIn_of_wpIn trivial (hassign _ ⟨_, run_beginRound hl hr, wpIn_mono hbody ?_⟩)⟩
  intro e a W3 h
  cases e with
  | normal => exact ⟨_, _, run_endRound none h.1, h.2⟩
  | ret => exact ⟨_, _, run_endRound (some .ret) h.1, h.2⟩
  | exit id => exact h.elim
  | goto t => exact h.elim
  | panic ch => exact h.elim
  | outgrown => exact h.elim

theorem rangeFunc_of {P : Program} {n : Nat} {g : Operand} {ps : Array Tmp} {assign body : Code} {Q : Exit → Act → World → Prop} {a : Act} {w : World} {gf : Nat} {lb : Array Value}
    (hg : a.eval g = .func (.func gf) #[] lb) (eg : ∀ args w, (callFunc gf args).run P w = .ok (.enter gf args) w)
    (h : ∀ r0, IsRec r0 a.tmps ps assign body → CallsIn Fence.wide (n - 1) P gf (#[.func (.yield (w.heap.size + 1)) #[] #[]] ++ lb) ((w.alloc (.deferred (some []))).alloc (.loop r0)) fun e W2 =>
      (∃ v, e = .returned v) ∧ ∃ r, W2.heap[w.heap.size + 1]? = some (.loop r) ∧ r.state ≠ .busy ∧
        ((r.pending = none ∧ Q .normal { a with defers := { target := .collected w.heap.size, args := #[] } :: a.defers } (W2.putObj (w.heap.size + 1) (.loop { r with state := .exhausted }))) ∨
         (∃ c, r.pending = some c ∧ c.wpIn Fence.wide n P Q { a with defers := { target := .collected w.heap.size, args := #[] } :: a.defers } (W2.putObj (w.heap.size + 1) (.loop { r with state := .exhausted }))))) :
    (Code.rangeFunc g ps assign body).wpIn Fence.wide n P Q a w := by
  refine wpIn_rangeFunc ?_
  intro fn hfn
  have hc := h { state := .ready, pending := none, fn, tmps := a.tmps, params := ps, assign, body, defers := w.heap.size } ⟨rfl, rfl, rfl, rfl, rfl, rfl⟩
  obtain ⟨W1, hW1⟩ : ∃ W1, (w.alloc (.deferred (some []))).alloc (.loop { state := .ready, pending := none, fn, tmps := a.tmps, params := ps, assign, body, defers := w.heap.size }) = W1 := ⟨_, rfl⟩
  rw [hW1] at hc
  refine ⟨w.heap.size + 1, [{ target := .collected w.heap.size, args := #[] }], W1, { target := .fn (.func gf) lb, args := #[.func (.yield (w.heap.size + 1)) #[] #[]] }, W1, gf, #[.func (.yield (w.heap.size + 1)) #[] #[]] ++ lb, W1, ?_, ?_, fun _ _ => trivial, ?_, fun e => absurd e (by simp [Fence.wide]), ?_⟩
  · rw [← hW1]; exact run_enterLoop_outer fn a.tmps ps assign body
  · simp only [resolve, hg]
    simp [go_sem]
  · simp [invoke, go_sem, eg]
  refine hc.mono ?_
  · rintro e W2 ⟨⟨v, rfl⟩, r, hr, hb, hq⟩
    rcases hq with ⟨hp, hq⟩ | ⟨c, hp, hq⟩
    · exact ⟨none, _, (run_endLoop (P := P) hr hb).trans (by rw [hp]), hq⟩
    · exact ⟨some c, _, (run_endLoop (P := P) hr hb).trans (by rw [hp]), hq⟩
end Go.Proofs.YtkjfbeempmfipaaGreatDoor

/- Small lemmas on worlds: blocks, boxes, what a store and a new block leave. -/
namespace Go.Proofs.YtkjfbeempmfipaaGreatDoor
open Go.RowKit Cal

theorem below_then {a b c : World} (h : Below a.heap.size a b) (k : Below b.heap.size b c) : Below a.heap.size a c := h.trans (k.mono h.size)
theorem lt_of_cell {w : World} {b o : Nat} {v : Value} (h : w.cell? ⟨b, o, none⟩ = some v) : b < w.heap.size := by
  rcases Nat.lt_or_ge b w.heap.size with hl | hl
  · exact hl
  · simp [World.cell?, Array.getElem?_eq_none hl] at h
theorem cell_step {w w' : World} {b o : Nat} {v : Value} (h : w.cell? ⟨b, o, none⟩ = some v) (hb : Below w.heap.size w w') : w'.cell? ⟨b, o, none⟩ = some v :=
  (hb.cell (p := ⟨b, o, none⟩) (lt_of_cell h)).trans h
theorem below_alloc (w : World) (o : Obj) : Below w.heap.size w (w.alloc o) := (Below.refl _ w).alloc (Nat.le_refl _) _
theorem cell_alloc {w : World} {b o : Nat} {v : Value} (x : Obj) (h : w.cell? ⟨b, o, none⟩ = some v) : (w.alloc x).cell? ⟨b, o, none⟩ = some v := cell_step h (below_alloc w x)
theorem below_box2 (w : World) (o o' : Obj) : Below w.heap.size w ((w.alloc o).alloc o') := below_then (below_alloc w o) (below_alloc _ o')
theorem set_block {W : World} {B i : Nat} {cs : Array Value} {t : TypeId} {fr : Nat × Nat} (v : Value) (h : W.heap[B]? = some (.cells cs t fr)) : (W.setCell ⟨B, i, none⟩ v).heap[B]? = some (.cells (cs.setIfInBounds i v) t fr) := by
  obtain ⟨hlt, hk⟩ := Array.getElem?_eq_some_iff.1 h
  show (W.heap.modify B _)[B]? = _
  rw [Array.getElem?_eq_getElem (by rw [Array.size_modify]; exact hlt), Array.getElem_modify_self, hk]
  rfl
theorem grown_set (W : World) (a : Addr) (v : Value) : W.grownBy (W.setCell a v) (some a.block) :=
  ⟨rfl, rfl, rfl, (KeepsWalks.setCell W a v).size, fun k _ hk => Below.heap_setCell _ _ _ k (fun e => hk (by rw [e]))⟩
theorem grown_then {A B C : World} {r : Option Nat} (h : A.grownBy B r) (k : B.grownBy C r) : A.grownBy C r :=
  ⟨k.os.trans h.os, k.tape.trans h.tape, k.output.trans h.output, Nat.le_trans h.size k.size, fun i hi hr => (k.block i (Nat.lt_of_lt_of_le hi h.size) hr).trans (h.block i hi hr)⟩
theorem grown_below {A B : World} (h : Below A.heap.size A B) (r : Option Nat) : A.grownBy B r := ⟨h.os, h.tape, h.output, h.size, fun i hi _ => h.block i hi⟩
/-- what lies elsewhere -/
theorem grown_cell {A B : World} {r b o : Nat} {v : Value} (h : A.grownBy B (some r)) (hc : A.cell? ⟨b, o, none⟩ = some v) (hne : b ≠ r) : B.cell? ⟨b, o, none⟩ = some v :=
  (World.cell?_of_block (a := ⟨b, o, none⟩) (h.block b (lt_of_cell hc) (fun e => hne (by cases e; rfl)))).trans hc
theorem block_at {W : World} {n : Nat} (o : Obj) (h : W.heap.size = n) : (W.alloc o).heap[n]? = some o := by
  subst h; exact World.alloc_heap_new W o
theorem block_alloc {W : World} {n : Nat} {o : Obj} (o' : Obj) (h : W.heap[n]? = some o) : (W.alloc o').heap[n]? = some o :=
  ((below_alloc W o').block n (Array.getElem?_eq_some_iff.1 h).1).trans h
theorem blk5 {W : World} {n : Nat} {v0 v1 v2 v3 v4 : Value} {t : TypeId} (h : W.heap[n]? = some (.cells #[v0, v1, v2, v3, v4] t (0, 0))) :
    W.cell? ⟨n, 0, none⟩ = some v0 ∧ W.cell? ⟨n, 1, none⟩ = some v1 ∧ W.cell? ⟨n, 2, none⟩ = some v2 ∧ W.cell? ⟨n, 3, none⟩ = some v3 ∧ W.cell? ⟨n, 4, none⟩ = some v4 := by
  refine ⟨?_, ?_, ?_, ?_, ?_⟩ <;> simp [World.cell?, h]
theorem blk5_frozen {W : World} {n : Nat} {cs : Array Value} {t : TypeId} (h : W.heap[n]? = some (.cells cs t (0, 0))) (i : Nat) : W.frozen? ⟨n, i, none⟩ = false := by
  simp [World.frozen?, h]
/-- the box of a rule's value, behind a call -/
theorem box5 {w w1 : World} {v0 v1 v2 v3 v4 : Value} {t : TypeId} (hb : Below (w.alloc (.cells #[v0, v1, v2, v3, v4] t)).heap.size (w.alloc (.cells #[v0, v1, v2, v3, v4] t)) w1) :
    w1.cell? ⟨w.heap.size, 0, none⟩ = some v0 ∧ w1.cell? ⟨w.heap.size, 1, none⟩ = some v1 ∧ w1.cell? ⟨w.heap.size, 2, none⟩ = some v2 ∧ w1.cell? ⟨w.heap.size, 3, none⟩ = some v3 ∧ w1.cell? ⟨w.heap.size, 4, none⟩ = some v4 := by
  have key : ∀ (i : Nat) (v : Value), #[v0, v1, v2, v3, v4][i]? = some v → w1.cell? ⟨w.heap.size, i, none⟩ = some v := fun i v hv => by
    rw [hb.cell (p := ⟨w.heap.size, i, none⟩) (by simp)]
    have hn : (w.alloc (.cells #[v0, v1, v2, v3, v4] t)).heap[w.heap.size]? = some (.cells #[v0, v1, v2, v3, v4] t) := by
      show (w.heap.push _)[w.heap.size]? = _
      simp
    simp only [World.cell?, hn]
    exact hv
  exact ⟨key 0 _ rfl, key 1 _ rfl, key 2 _ rfl, key 3 _ rfl, key 4 _ rfl⟩
theorem set_size (W : World) (a : Addr) (v : Value) : (W.setCell a v).heap.size = W.heap.size := by
  show (W.heap.modify _ _).size = _
  rw [Array.size_modify]
theorem boxed_at {W : World} {n : Nat} (v : Value) (t : TypeId) (h : W.heap.size = n) : Boxed (W.alloc (.cells #[v] t)) n t v := by
  subst h; exact Boxed.new W t v
theorem rec_start (W5 : World) (o : Obj) : ((W5.alloc (.deferred (some []))).alloc o).heap[W5.heap.size + 1]? = some o := by
  have := World.alloc_heap_new (W5.alloc (.deferred (some []))) o
  rwa [World.size_alloc] at this
theorem own_put {w : World} {base l : Nat} {e : TypeId} {size : Nat} {v : Value} {n : Nat} {xs : List Value} (h : w.ownsRow base e size v n xs) (o : Obj) (hne : v.ownBlock ≠ some l) : (w.putObj l o).ownsRow base e size v n xs :=
  h.kept (grownBy_putObj' w l o) (.inr hne)
theorem own_base {w : World} {b b' : Nat} {e : TypeId} {size : Nat} {v : Value} {n : Nat} {xs : List Value} (h : w.ownsRow b' e size v n xs) (hb : b ≤ b') : w.ownsRow b e size v n xs := by
  refine ⟨h.1, ?_⟩
  rcases h.2 with h2 | ⟨g, cap, cur, hv, hg, r⟩
  · exact Or.inl h2
  · exact Or.inr ⟨g, cap, cur, hv, Nat.le_trans hb hg, r⟩
theorem info_int : (Tryz.prog.info? 3).map (fun i => (i.zero, i.size, i.bytes)) = some (some (.int .i64 0), 1, 8) := by kernel_rfl
/-- the days that have been read -/
def Ow (base : Nat) (W : World) (sl : Value) (ds : List Int) : Prop := W.ownsRow base 3 1 sl ds.length (ds.map (Value.int .i64))
theorem Ow.nil (base : Nat) (W : World) : Ow base W (.slice none 0 0) [] := World.ownsRow_nil _ _ _ _
theorem Ow.grown {base B : Nat} {W W' : World} {sl : Value} {ds : List Int} (h : Ow base W sl ds) (hg : W.grownBy W' (some B)) (hB : B < base) : Ow base W' sl ds :=
  World.ownsRow.kept h hg (.inr (fun he => by have := (World.ownsRow.lt h _ he).1; omega))
end Go.Proofs.YtkjfbeempmfipaaGreatDoor
