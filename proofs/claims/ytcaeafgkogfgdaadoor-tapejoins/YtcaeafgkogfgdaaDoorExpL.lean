/- Small lemmas on worlds: blocks, boxes, what a store and a new block leave. -/
import Derived.Test.YtcaeafgkogfgdaaDoorDay3
import Derived.Test.YtcaeafgkogfgdaaDoorRF
import Derived.Laws.OwnMore
namespace Go.Proofs.YtcaeafgkogfgdaaDoor
open Go.RowKit Cal

theorem below_then {a b c : World} (h : Below a.heap.size a b) (k : Below b.heap.size b c) : Below a.heap.size a c := h.trans (k.mono h.size)
theorem lt_of_cell {w : World} {b o : Nat} {v : Value} (h : w.cell? ⟨b, o, none⟩ = some v) : b < w.heap.size := by
  rcases Nat.lt_or_ge b w.heap.size with hl | hl
  · exact hl
  · simp [World.cell?, Array.getElem?_eq_none hl] at h
theorem cell_step {w w' : World} {b o : Nat} {v : Value} (h : w.cell? ⟨b, o, none⟩ = some v) (hb : Below w.heap.size w w') : w'.cell? ⟨b, o, none⟩ = some v :=
  (hb.cell (p := ⟨b, o, none⟩) (lt_of_cell h)).trans h
theorem below_alloc (w : World) (o : Obj) : Below w.heap.size w (w.alloc o) := (Below.refl _ w).alloc (Nat.le_refl _) _
theorem cell_alloc {w : World} {b o : Nat} {v : Value} (x : Obj) (h : w.cell? ⟨b, o, none⟩ = some v) : (w.alloc x).cell? ⟨b, o, none⟩ = some v := cell_step h (below_alloc w x)
theorem below_box2 (w : World) (o o' : Obj) : Below w.heap.size w ((w.alloc o).alloc o') := below_then (below_alloc w o) (below_alloc _ o')
theorem set_block {W : World} {B i : Nat} {cs : Array Value} {t : TypeId} {fr : Nat × Nat} (v : Value) (h : W.heap[B]? = some (.cells cs t fr)) : (W.setCell ⟨B, i, none⟩ v).heap[B]? = some (.cells (cs.setIfInBounds i v) t fr) := by
  obtain ⟨hlt, hk⟩ := Array.getElem?_eq_some_iff.1 h
  show (W.heap.modify B _)[B]? = _
  rw [Array.getElem?_eq_getElem (by rw [Array.size_modify]; exact hlt), Array.getElem_modify_self, hk]
  rfl
theorem grown_set (W : World) (a : Addr) (v : Value) : W.grownBy (W.setCell a v) (some a.block) :=
  ⟨rfl, rfl, rfl, (KeepsWalks.setCell W a v).size, fun k _ hk => Below.heap_setCell _ _ _ k (fun e => hk (by rw [e]))⟩
theorem grown_then {A B C : World} {r : Option Nat} (h : A.grownBy B r) (k : B.grownBy C r) : A.grownBy C r :=
  ⟨k.os.trans h.os, k.tape.trans h.tape, k.output.trans h.output, Nat.le_trans h.size k.size, fun i hi hr => (k.block i (Nat.lt_of_lt_of_le hi h.size) hr).trans (h.block i hi hr)⟩
theorem grown_below {A B : World} (h : Below A.heap.size A B) (r : Option Nat) : A.grownBy B r := ⟨h.os, h.tape, h.output, h.size, fun i hi _ => h.block i hi⟩
/-- what lies elsewhere -/
theorem grown_cell {A B : World} {r b o : Nat} {v : Value} (h : A.grownBy B (some r)) (hc : A.cell? ⟨b, o, none⟩ = some v) (hne : b ≠ r) : B.cell? ⟨b, o, none⟩ = some v :=
  (World.cell?_of_block (a := ⟨b, o, none⟩) (h.block b (lt_of_cell hc) (fun e => hne (by cases e; rfl)))).trans hc
theorem block_at {W : World} {n : Nat} (o : Obj) (h : W.heap.size = n) : (W.alloc o).heap[n]? = some o := by
  subst h; exact World.alloc_heap_new W o
theorem block_alloc {W : World} {n : Nat} {o : Obj} (o' : Obj) (h : W.heap[n]? = some o) : (W.alloc o').heap[n]? = some o :=
  ((below_alloc W o').block n (Array.getElem?_eq_some_iff.1 h).1).trans h
theorem blk5 {W : World} {n : Nat} {v0 v1 v2 v3 v4 : Value} {t : TypeId} (h : W.heap[n]? = some (.cells #[v0, v1, v2, v3, v4] t (0, 0))) :
    W.cell? ⟨n, 0, none⟩ = some v0 ∧ W.cell? ⟨n, 1, none⟩ = some v1 ∧ W.cell? ⟨n, 2, none⟩ = some v2 ∧ W.cell? ⟨n, 3, none⟩ = some v3 ∧ W.cell? ⟨n, 4, none⟩ = some v4 := by
  refine ⟨?_, ?_, ?_, ?_, ?_⟩ <;> simp [World.cell?, h]
theorem blk5_frozen {W : World} {n : Nat} {cs : Array Value} {t : TypeId} (h : W.heap[n]? = some (.cells cs t (0, 0))) (i : Nat) : W.frozen? ⟨n, i, none⟩ = false := by
  simp [World.frozen?, h]
/-- the box of a rule's value, behind a call -/
theorem box5 {w w1 : World} {v0 v1 v2 v3 v4 : Value} {t : TypeId} (hb : Below (w.alloc (.cells #[v0, v1, v2, v3, v4] t)).heap.size (w.alloc (.cells #[v0, v1, v2, v3, v4] t)) w1) :
    w1.cell? ⟨w.heap.size, 0, none⟩ = some v0 ∧ w1.cell? ⟨w.heap.size, 1, none⟩ = some v1 ∧ w1.cell? ⟨w.heap.size, 2, none⟩ = some v2 ∧ w1.cell? ⟨w.heap.size, 3, none⟩ = some v3 ∧ w1.cell? ⟨w.heap.size, 4, none⟩ = some v4 := by
  have key : ∀ (i : Nat) (v : Value), #[v0, v1, v2, v3, v4][i]? = some v → w1.cell? ⟨w.heap.size, i, none⟩ = some v := fun i v hv => by
    rw [hb.cell (p := ⟨w.heap.size, i, none⟩) (by simp)]
    have hn : (w.alloc (.cells #[v0, v1, v2, v3, v4] t)).heap[w.heap.size]? = some (.cells #[v0, v1, v2, v3, v4] t) := by
      show (w.heap.push _)[w.heap.size]? = _
      simp
    simp only [World.cell?, hn]
    exact hv
  exact ⟨key 0 _ rfl, key 1 _ rfl, key 2 _ rfl, key 3 _ rfl, key 4 _ rfl⟩
theorem set_size (W : World) (a : Addr) (v : Value) : (W.setCell a v).heap.size = W.heap.size := by
  show (W.heap.modify _ _).size = _
  rw [Array.size_modify]
theorem boxed_at {W : World} {n : Nat} (v : Value) (t : TypeId) (h : W.heap.size = n) : Boxed (W.alloc (.cells #[v] t)) n t v := by
  subst h; exact Boxed.new W t v
theorem rec_start (W5 : World) (o : Obj) : ((W5.alloc (.deferred (some []))).alloc o).heap[W5.heap.size + 1]? = some o := by
  have := World.alloc_heap_new (W5.alloc (.deferred (some []))) o
  rwa [World.size_alloc] at this
theorem own_put {w : World} {base l : Nat} {e : TypeId} {size : Nat} {v : Value} {n : Nat} {xs : List Value} (h : w.ownsRow base e size v n xs) (o : Obj) (hne : v.ownBlock ≠ some l) : (w.putObj l o).ownsRow base e size v n xs :=
  h.kept (grownBy_putObj' w l o) (.inr hne)
theorem own_base {w : World} {b b' : Nat} {e : TypeId} {size : Nat} {v : Value} {n : Nat} {xs : List Value} (h : w.ownsRow b' e size v n xs) (hb : b ≤ b') : w.ownsRow b e size v n xs := by
  refine ⟨h.1, ?_⟩
  rcases h.2 with h2 | ⟨g, cap, cur, hv, hg, r⟩
  · exact Or.inl h2
  · exact Or.inr ⟨g, cap, cur, hv, Nat.le_trans hb hg, r⟩
theorem info_int : (Tryd.prog.info? 3).map (fun i => (i.zero, i.size, i.bytes)) = some (some (.int .i64 0), 1, 8) := by kernel_rfl
/-- the days that have been read -/
def Ow (base : Nat) (W : World) (sl : Value) (ds : List Int) : Prop := W.ownsRow base 3 1 sl ds.length (ds.map (Value.int .i64))
theorem Ow.nil (base : Nat) (W : World) : Ow base W (.slice none 0 0) [] := World.ownsRow_nil _ _ _ _
theorem Ow.grown {base B : Nat} {W W' : World} {sl : Value} {ds : List Int} (h : Ow base W sl ds) (hg : W.grownBy W' (some B)) (hB : B < base) : Ow base W' sl ds :=
  World.ownsRow.kept h hg (.inr (fun he => by have := (World.ownsRow.lt h _ he).1; omega))
end Go.Proofs.YtcaeafgkogfgdaaDoor
