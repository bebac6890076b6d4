/- Package diff's changesOf: the iterator of one event's changes. -/
import Derived.Test.YtjhlbkjcchejjaaGreatDoorYaY
import Derived.Test.YtjhlbkjcchejjaaGreatDoorDfPW
import Derived.Test.YtjhlbkjcchejjaaGreatDoorYaT
import Derived.Deep.RegionHeld3
namespace Go.Proofs.YtjhlbkjcchejjaaGreatDoor
open Go Go.RowKit Go.Shelf Cal
attribute [local go_sem] Oper.semAt_some

theorem changesOf_any (id : ByteArray) (pa pb : Option Addr) (w : World) : Calls Tryz.prog 50 #[.string id, .pointer pa, .pointer pb] w fun r w' => r = .returned (.func (.func 93) #[] #[.pointer (some ⟨w.heap.size + 1, 0, none⟩), .pointer (some ⟨w.heap.size, 0, none⟩), .pointer (some ⟨w.heap.size + 1 + 1, 0, none⟩)]) ∧ w' = ((w.alloc (.cells #[.string id] 9)).alloc (.cells #[.pointer pa] 44)).alloc (.cells #[.pointer pb] 44) := by
  go_enter Tryz.func50, Tryz.ntmps50
  go_wp2
  go_ret
  exact ⟨rfl, rfl⟩

/-- a block that a round may write: it begins with a text, and is a row of changes -/
def MayW (W : World) (b : Nat) : Prop := (∃ cur f, W.heap[b]? = some (.cells cur 82 f)) ∧ ∃ x, W.cell? ⟨b, 0, none⟩ = some (.string x)
/-- all but the list's cell, the loop's record and rows of changes stays -/
def RKeep (Bl l : Nat) (W W' : World) : Prop := W.heap.size ≤ W'.heap.size ∧ ∀ b, b < W.heap.size → b ≠ Bl → b ≠ l → ¬ MayW W b → W'.heap[b]? = W.heap[b]?
theorem RKeep.cells {Bl l b : Nat} {W W' : World} {cs : Array Value} {T : TypeId} (h : RKeep Bl l W W') (hb : W.heap[b]? = some (.cells cs T (0, 0))) (h1 : b ≠ Bl) (h2 : b ≠ l) (hT : T ≠ 82) : W'.heap[b]? = some (.cells cs T (0, 0)) := by
  refine (h.2 b (Array.getElem?_eq_some_iff.1 hb).1 h1 h2 ?_).trans hb
  rintro ⟨⟨cur, f, q⟩, _⟩
  rw [hb] at q
  injection q with q
  injection q with _ q _
  exact hT q
theorem RKeep.int {Bl l b o : Nat} {W W' : World} {z z0 : Int} {k k0 : IntKind} (h : RKeep Bl l W W') (h0 : W.cell? ⟨b, 0, none⟩ = some (.int k0 z0)) (hb : W.cell? ⟨b, o, none⟩ = some (.int k z)) (h1 : b ≠ Bl) (h2 : b ≠ l) : W'.cell? ⟨b, o, none⟩ = some (.int k z) := by
  refine (World.cell?_of_block (a := ⟨b, o, none⟩) (h.2 b (lt_of_cell hb) h1 h2 ?_)).trans hb
  rintro ⟨_, x, q⟩
  rw [h0] at q
  cases q
/-- where an event's lists lie, if they have any -/
theorem RKeep.ints {Bl l : Nat} {W W' : World} {v : Value} {xs : List Int} (h : RKeep Bl l W W') (hi : Ints W v xs) (hl : ∀ b z k, W.cell? ⟨b, 0, none⟩ = some (.int k z) → b ≠ Bl ∧ b ≠ l) : Ints W' v xs := by
  obtain ⟨a, c, h1, h2, h3, h4⟩ := hi
  refine ⟨a, c, h1, h2, h3, fun j hj => ?_⟩
  obtain ⟨b, e, hb, hc⟩ := h4 j hj
  obtain ⟨b', e', _, hc'⟩ := h4 0 (by omega)
  have eb : b' = b := by rw [e] at e'; cases e'; rfl
  subst eb
  obtain ⟨n1, n2⟩ := hl b' _ _ hc'
  exact ⟨b', e, Nat.lt_of_lt_of_le hb h.1, h.int hc' hc n1 n2⟩
theorem RKeep.movs {Bl l : Nat} {W W' : World} {v : Value} {xs : List (Int × Int)} (h : RKeep Bl l W W') (hi : Movs W v xs) (hl : ∀ b z k, W.cell? ⟨b, 0, none⟩ = some (.int k z) → b ≠ Bl ∧ b ≠ l) : Movs W' v xs := by
  obtain ⟨a, c, h1, h2, h3, h4⟩ := hi
  refine ⟨a, c, h1, h2, h3, fun j hj => ?_⟩
  obtain ⟨b, e, hb, hc, hd⟩ := h4 j hj
  obtain ⟨b', e', _, hc', _⟩ := h4 0 (by omega)
  have eb : b' = b := by rw [e] at e'; cases e'; rfl
  subst eb
  rw [Nat.zero_mul] at hc'
  obtain ⟨n1, n2⟩ := hl b' _ _ hc'
  exact ⟨b', e, Nat.lt_of_lt_of_le hb h.1, h.int hc' hc n1 n2, h.int hc' hd n1 n2⟩
theorem RKeep.ls {Bl l : Nat} {W W' : World} {E : EV} {sl skv mvv : Value} (h : RKeep Bl l W W') (hi : Ls W E sl skv mvv) (hl : ∀ b z k, W.cell? ⟨b, 0, none⟩ = some (.int k z) → b ≠ Bl ∧ b ≠ l) : Ls W' E sl skv mvv := by
  have h20 : E.ds.length ≤ 20 := by obtain ⟨_, _, _, q, _⟩ := hi.d; exact q
  exact ⟨ints_days (h.ints (days_ints hi.d) hl) h20, h.ints hi.s hl, h.movs hi.m hl⟩
/-- Get of an ID, whether it is there or not: the event, or none -/
theorem get_O (lo bb n : Nat) (mo : Option Nat) (C : List EV) (id : ByteArray) (hid : id.size ≤ 1000) (w : World) (h : BookAt lo w bb mo n C) :
    Calls Tryz.prog 94 #[.pointer (some ⟨bb, 0, none⟩), .string id] w fun r w' => ∃ E sl skv mvv, r = .returned (.tuple #[ev E sl skv mvv, .bool (evOf id C).isSome]) ∧ Ls w' E sl skv mvv ∧ ((evOf id C = some E) ∨ (evOf id C = none ∧ E = zE)) ∧ Below w.heap.size w w' := by
  cases hq : evOf id C with
  | some E =>
    obtain ⟨hE, he⟩ := evOf_some hq
    subst he
    refine Calls.mono (get_C lo bb n mo C E hE w h) ?_
    rintro r w' ⟨sl, skv, mvv, rfl, hL, hb⟩
    exact ⟨E, sl, skv, mvv, rfl, hL, .inl rfl, hb⟩
  | none =>
    refine Calls.mono (get_no lo bb n mo C id hid (evOf_none.1 hq) w h) ?_
    rintro r w' ⟨sl, skv, mvv, rfl, hL, hb⟩
    exact ⟨zE, sl, skv, mvv, rfl, hL, .inr ⟨rfl, rfl⟩, hb⟩

/-- the fields that are looked at -/
def kl : Option EV → Option EV → List Nat
  | some _, some _ => [0, 1, 2, 3, 4, 5]
  | _, _ => [6]
open Classical in
theorem dl_kl {id : ByteArray} (p q : Option EV) : dl id p q = ((kl p q).filter fun k => decide (oT k p ≠ oT k q)).map fun k => ⟨id, k, p, q⟩ := by
  match p, q with
  | some F, some G =>
    have e : parts F G = (kl (some F) (some G)).filter fun k => decide (oT k (some F) ≠ oT k (some G)) := by
      show (List.range 6).filter _ = (List.range 6).filter _
      refine List.filter_congr (fun k hk => ?_)
      have hk6 : k < 6 := List.mem_range.1 hk
      have e1 : oT k (some F) = fT F k := cT_lt hk6 F
      have e2 : oT k (some G) = fT G k := cT_lt hk6 G
      rw [e1, e2]
    show (parts F G).map _ = _
    rw [e]
  | some F, none =>
    have h : decide (oT 6 (some F) ≠ oT 6 (none : Option EV)) = true := decide_eq_true eT_ne
    simp only [dl, kl, List.filter_cons, List.filter_nil, h, if_true, List.map_cons, List.map_nil]
  | none, some G =>
    have h : decide (oT 6 (none : Option EV) ≠ oT 6 (some G)) = true := decide_eq_true (fun z => eT_ne z.symm)
    simp only [dl, kl, List.filter_cons, List.filter_nil, h, if_true, List.map_cons, List.map_nil]
  | none, none =>
    have h : decide (oT 6 (none : Option EV) ≠ oT 6 (none : Option EV)) = false := decide_eq_false (fun z => z rfl)
    simp [dl, kl]


/-- four cells stored at once -/
def put4 (W : World) (B : Nat) (v0 v1 v2 v3 : Value) : World := (((W.setCell ⟨B, 0, none⟩ v0).setCell ⟨B, 1, none⟩ v1).setCell ⟨B, 2, none⟩ v2).setCell ⟨B, 3, none⟩ v3
theorem put4_fold (W : World) (B : Nat) (v0 v1 v2 v3 : Value) : (((W.setCell ⟨B, 0, none⟩ v0).setCell ⟨B, 1, none⟩ v1).setCell ⟨B, 2, none⟩ v2).setCell ⟨B, 3, none⟩ v3 = put4 W B v0 v1 v2 v3 := rfl
theorem put4_blk {W : World} {B : Nat} {a0 a1 a2 a3 : Value} {T : TypeId} {fr : Nat × Nat} (v0 v1 v2 v3 : Value) (h : W.heap[B]? = some (.cells #[a0, a1, a2, a3] T fr)) : (put4 W B v0 v1 v2 v3).heap[B]? = some (.cells #[v0, v1, v2, v3] T fr) :=
  set_block (i := 3) v3 (set_block (i := 2) v2 (set_block (i := 1) v1 (set_block (i := 0) v0 h)))
theorem put4_grown (W : World) (B : Nat) (v0 v1 v2 v3 : Value) : W.grownBy (put4 W B v0 v1 v2 v3) (some B) := grown_then (grown_then (grown_then (grown_set _ ⟨B, 0, none⟩ _) (grown_set _ ⟨B, 1, none⟩ _)) (grown_set _ ⟨B, 2, none⟩ _)) (grown_set _ ⟨B, 3, none⟩ _)

theorem put4_below {w W : World} {B : Nat} {v0 v1 v2 v3 : Value} (h : Below w.heap.size w W) (hB : w.heap.size ≤ B) : Below w.heap.size w (put4 W B v0 v1 v2 v3) := h.grown (put4_grown W B v0 v1 v2 v3) h.size (fun k q => by cases q; exact hB)
/-- what the iterator of changes has of its own -/
structure IO (W : World) (be1 be2 nf Bi : Nat) (e1 e2 fo : Array Value) (E1 E2 : EV) (a1 a2 a3 b1 b2 b3 : Value) (id : ByteArray) : Prop where
  k1 : W.heap[be1]? = some (.cells e1 27 (0, 0))
  k2 : W.heap[be2]? = some (.cells e2 27 (0, 0))
  kf : W.heap[nf]? = some (.cells fo 9 (0, 0))
  ki : W.heap[Bi]? = some (.cells #[.string id] 9 (0, 0))
  l1 : Ls W E1 a1 a2 a3
  l2 : Ls W E2 b1 b2 b3
theorem IO.step {W W' : World} {be1 be2 nf Bi : Nat} {e1 e2 fo : Array Value} {E1 E2 : EV} {a1 a2 a3 b1 b2 b3 : Value} {id : ByteArray} (h : IO W be1 be2 nf Bi e1 e2 fo E1 E2 a1 a2 a3 b1 b2 b3 id) (hb : Below W.heap.size W W') : IO W' be1 be2 nf Bi e1 e2 fo E1 E2 a1 a2 a3 b1 b2 b3 id :=
  ⟨(hb.block _ (Array.getElem?_eq_some_iff.1 h.k1).1).trans h.k1, (hb.block _ (Array.getElem?_eq_some_iff.1 h.k2).1).trans h.k2, (hb.block _ (Array.getElem?_eq_some_iff.1 h.kf).1).trans h.kf, (hb.block _ (Array.getElem?_eq_some_iff.1 h.ki).1).trans h.ki, h.l1.step hb, h.l2.step hb⟩
theorem ty_ev : (27 : Nat) ≠ 82 := by decide
theorem ty_str : (9 : Nat) ≠ 82 := by decide
theorem IO.keep {W W' : World} {Bl l be1 be2 nf Bi : Nat} {e1 e2 fo : Array Value} {E1 E2 : EV} {a1 a2 a3 b1 b2 b3 : Value} {id : ByteArray} (h : IO W be1 be2 nf Bi e1 e2 fo E1 E2 a1 a2 a3 b1 b2 b3 id) (hk : RKeep Bl l W W') (h1 : be1 ≠ Bl ∧ be1 ≠ l) (h2 : be2 ≠ Bl ∧ be2 ≠ l) (h3 : nf ≠ Bl ∧ nf ≠ l) (h4 : Bi ≠ Bl ∧ Bi ≠ l) (hl : ∀ b z k, W.cell? ⟨b, 0, none⟩ = some (.int k z) → b ≠ Bl ∧ b ≠ l) : IO W' be1 be2 nf Bi e1 e2 fo E1 E2 a1 a2 a3 b1 b2 b3 id :=
  ⟨hk.cells h.k1 h1.1 h1.2 ty_ev, hk.cells h.k2 h2.1 h2.2 ty_ev, hk.cells h.kf h3.1 h3.2 ty_str, hk.cells h.ki h4.1 h4.2 ty_str, hk.ls h.l1 hl, hk.ls h.l2 hl⟩
end Go.Proofs.YtjhlbkjcchejjaaGreatDoor

/- What Diff's rounds leave: the list so far in its cell, the marks of the ranges over functions, all else as it was. -/
namespace Go.Proofs.YtjhlbkjcchejjaaGreatDoor
open Go Go.RowKit Go.Shelf Cal
attribute [local go_sem] Oper.semAt_some

/-- the marks of the ranges over functions that were run -/
def mks (ds : List Nat) : List Deferred := ds.map fun d => { target := .collected d, args := #[] }
structure Shut (ds : List Nat) (w w' : World) : Prop where
  os : w'.os = w.os
  tape : w'.tape = w.tape
  output : w'.output = w.output
  size : w.heap.size ≤ w'.heap.size
  block : ∀ k, k ∉ ds → w'.heap[k]? = w.heap[k]?
theorem leaves_marks {P : Program} {n : Nat} {fn : Func} {tmps : Array Value} {R : Ending → World → Prop} : ∀ (ds : List Nat) (w : World), ds.Nodup → (∀ d ∈ ds, w.heap[d]? = some (.deferred (some []))) → (∀ w', Shut ds w w' → LeavesInM Fence.wide n P fn tmps R [] .returning w') → LeavesInM Fence.wide n P fn tmps R (mks ds) .returning w
  | [], w, _, _, h => h w ⟨rfl, rfl, rfl, Nat.le_refl _, fun _ _ => rfl⟩
  | d :: ds, w, hn, hd, h => by
    refine ⟨by simp, .inl ⟨d, _, rfl, run_takeDeferred (hd d List.mem_cons_self), ?_⟩⟩
    obtain ⟨hn1, hn2⟩ := List.nodup_cons.1 hn
    have g := grownBy_putObj' w d (.deferred none)
    refine leaves_marks ds _ hn2 (fun x hx => ?_) (fun w' hs => h w' ?_)
    · have hxd : x ≠ d := fun e => hn1 (by rw [← e]; exact hx)
      exact (World.putObj_heap_other hxd).trans (hd x (List.mem_cons_of_mem _ hx))
    · exact ⟨hs.os.trans g.os, hs.tape.trans g.tape, hs.output.trans g.output, Nat.le_trans g.size hs.size, fun k hk => (hs.block k (fun z => hk (List.mem_cons_of_mem _ z))).trans (World.putObj_heap_other (show k ≠ d from fun e => hk (by rw [e]; exact List.mem_cons_self)))⟩

theorem ChR.at {base : Nat} {W W' : World} {v : Value} {o : List DC} (h : ChR base W v o) (hk : ∀ g, v.ownBlock = some g → W'.heap[g]? = W.heap[g]?) : ChR base W' v o := by
  refine ⟨h.1, ?_⟩
  rcases h.2 with h2 | ⟨g, cap, cur, hv, hb, hg, r⟩
  · exact .inl h2
  · exact .inr ⟨g, cap, cur, hv, hb, (hk g (by rw [hv]; rfl)).trans hg, r⟩

structure OJ (w w2 : World) (ds : List Nat) (v : Value) (o : List DC) (W : World) : Prop where
  b0 : Boxed W w.heap.size 49 v
  row : ChR w2.heap.size W v o
  z : o = [] → v = .slice none 0 0
  dd : ∀ d ∈ ds, W.heap[d]? = some (.deferred (some []))
  ge : ∀ d ∈ ds, w2.heap.size ≤ d
  nd : ds.Nodup
  ks : ∀ k, k < w2.heap.size → k ≠ w.heap.size → W.heap[k]? = w2.heap[k]?
  sz : w2.heap.size ≤ W.heap.size
  os : W.os = w.os
  tp : W.tape = w.tape
  ou : W.output = w.output
  lo : w.heap.size < w2.heap.size
  b2 : ∀ k, k < w.heap.size → w2.heap[k]? = w.heap[k]?
section
variable {w w2 W W' : World} {ds : List Nat} {v : Value} {o : List DC}
theorem lt_of_heap {W : World} {k : Nat} {x : Obj} (h : W.heap[k]? = some x) : k < W.heap.size := (Array.getElem?_eq_some_iff.1 h).1
theorem OJ.below (q : OJ w w2 ds v o W) : Below w.heap.size w W := by
  have h1 := q.lo
  have h2 := q.sz
  exact ⟨q.os, q.tp, q.ou, by omega, fun k hk => (q.ks k (by omega) (by omega)).trans (q.b2 k hk)⟩
theorem OJ.own (q : OJ w w2 ds v o W) (g : Nat) (h : v.ownBlock = some g) : w2.heap.size ≤ g ∧ (∃ cur f, W.heap[g]? = some (.cells cur 82 f)) ∧ ∃ x, W.cell? ⟨g, 0, none⟩ = some (.string x) := by
  rcases q.row.2 with ⟨hv, _⟩ | ⟨g', cap, cur, hv, hb, hg, _⟩
  · rw [hv] at h; cases h
  · have e : g' = g := by rw [hv] at h; injection h
    subst e
    refine ⟨hb, ⟨_, _, hg⟩, ?_⟩
    have hne : o ≠ [] := fun hz => by have := q.z hz; rw [hv] at this; cases this
    obtain ⟨a, cap2, hv2, _, hc⟩ := q.row.form
    obtain ⟨b, ha, _, hcb, _⟩ := hc 0 (List.length_pos_iff.2 hne)
    rw [hv] at hv2
    have hab : b = g' := by injection hv2 with e1 _ _; rw [ha] at e1; injection e1 with e1; injection e1 with e1 _ _; exact e1.symm
    subst hab
    rw [Nat.zero_mul] at hcb
    exact ⟨_, hcb⟩
theorem OJ.off {l : Nat} {r : Loop} (q : OJ w w2 ds v o W) (hl : W.heap[l]? = some (.loop r)) (h2 : w2.heap.size ≤ l) (hos : W'.os = W.os) (htp : W'.tape = W.tape) (hou : W'.output = W.output) (hs : W.heap.size ≤ W'.heap.size) (hk : ∀ k, k < W.heap.size → k ≠ l → W'.heap[k]? = W.heap[k]?) : OJ w w2 ds v o W' := by
  have h3 := q.lo
  have h4 := q.sz
  refine ⟨(hk _ (by omega) (by omega)).trans q.b0, q.row.at (fun g hg => ?_), q.z, fun d hd => ?_, q.ge, q.nd, fun k hk1 hk2 => (hk k (by omega) (by omega)).trans (q.ks k hk1 hk2), Nat.le_trans q.sz hs, hos.trans q.os, htp.trans q.tp, hou.trans q.ou, q.lo, q.b2⟩
  · obtain ⟨_, ⟨cur, f, hc⟩, _⟩ := q.own g hg
    exact hk g (lt_of_heap hc) (fun e => by subst e; rw [hl] at hc; cases hc)
  · have hc := q.dd d hd
    exact (hk d (lt_of_heap hc) (fun e => by subst e; rw [hl] at hc; cases hc)).trans hc
theorem OJ.step (q : OJ w w2 ds v o W) (hb : Below W.heap.size W W') : OJ w w2 ds v o W' := by
  have h3 := q.lo
  have h4 := q.sz
  exact ⟨(hb.block _ (by omega)).trans q.b0, q.row.step hb, q.z, fun d hd => (hb.block d (lt_of_heap (q.dd d hd))).trans (q.dd d hd), q.ge, q.nd, fun k hk1 hk2 => (hb.block k (by omega)).trans (q.ks k hk1 hk2), Nat.le_trans q.sz hb.size, hb.os.trans q.os, hb.tape.trans q.tp, hb.output.trans q.ou, q.lo, q.b2⟩
theorem OJ.mark {d : Nat} (q : OJ w w2 ds v o W) (hd : W.heap[d]? = some (.deferred (some []))) (h2 : w2.heap.size ≤ d) (hn : d ∉ ds) : OJ w w2 (d :: ds) v o W :=
  ⟨q.b0, q.row, q.z, fun x hx => (List.mem_cons.1 hx).elim (fun e => by rw [e]; exact hd) (q.dd x), fun x hx => (List.mem_cons.1 hx).elim (fun e => by rw [e]; exact h2) (q.ge x), List.nodup_cons.2 ⟨hn, q.nd⟩, q.ks, q.sz, q.os, q.tp, q.ou, q.lo, q.b2⟩
theorem OJ.round {l g' cap' : Nat} {r0 : Loop} {Wc w1 : World} (c : DC) (q : OJ w w2 ds v o W) (hl : W.heap[l]? = some (.loop r0)) (h2 : w2.heap.size ≤ l) (hr : { r0 with state := .ready, pending := none } = r0)
    (hos : Wc.os = W.os) (htp : Wc.tape = W.tape) (hou : Wc.output = W.output) (hs : W.heap.size ≤ Wc.heap.size) (hP : ∀ k, k < W.heap.size → k ≠ l → Wc.heap[k]? = W.heap[k]?) (hlc : Wc.heap[l]? = some (.loop { r0 with state := .busy }))
    (hrow : ChR w2.heap.size w1 (.slice (some ⟨g', 0, none⟩) (o.length + 1) cap') (o ++ [c])) (hgr : Wc.grownBy w1 v.ownBlock) :
    (w1.setCell ⟨w.heap.size, 0, none⟩ (.slice (some ⟨g', 0, none⟩) (o.length + 1) cap')).heap[l]? = some (.loop { r0 with state := .busy }) ∧
    ((w1.setCell ⟨w.heap.size, 0, none⟩ (.slice (some ⟨g', 0, none⟩) (o.length + 1) cap')).putObj l (.loop { r0 with state := .ready, pending := none })).heap[l]? = some (.loop r0) ∧
    OJ w w2 ds (.slice (some ⟨g', 0, none⟩) (o.length + 1) cap') (o ++ [c]) ((w1.setCell ⟨w.heap.size, 0, none⟩ (.slice (some ⟨g', 0, none⟩) (o.length + 1) cap')).putObj l (.loop { r0 with state := .ready, pending := none })) ∧
    RKeep w.heap.size l W ((w1.setCell ⟨w.heap.size, 0, none⟩ (.slice (some ⟨g', 0, none⟩) (o.length + 1) cap')).putObj l (.loop { r0 with state := .ready, pending := none })) := by
  have h3 := q.lo
  have h4 := q.sz
  have qc : OJ w w2 ds v o Wc := q.off hl h2 hos htp hou hs hP
  have hw1 : ∀ k, k < Wc.heap.size → (∀ g, v.ownBlock = some g → k ≠ g) → w1.heap[k]? = Wc.heap[k]? := fun k hk hne => hgr.block k hk (fun z => hne k z.symm rfl)
  have hlw : w1.heap[l]? = some (.loop { r0 with state := .busy }) := (hw1 l (lt_of_heap hlc) (fun g hg e => by obtain ⟨_, ⟨_, _, hc⟩, _⟩ := qc.own g hg; subst e; rw [hlc] at hc; cases hc)).trans hlc
  have hbw : Boxed w1 w.heap.size 49 v := (hw1 _ (by omega) (fun g hg e => by have := (qc.own g hg).1; omega)).trans qc.b0
  have hgs := hgr.size
  have gS := grown_set w1 ⟨w.heap.size, 0, none⟩ (.slice (some ⟨g', 0, none⟩) (o.length + 1) cap')
  have PS : ∀ k, k ≠ w.heap.size → (w1.setCell ⟨w.heap.size, 0, none⟩ (.slice (some ⟨g', 0, none⟩) (o.length + 1) cap')).heap[k]? = w1.heap[k]? := fun k hk => Below.heap_setCell _ _ _ k (fun z => hk z)
  have hB5 : Boxed (w1.setCell ⟨w.heap.size, 0, none⟩ (.slice (some ⟨g', 0, none⟩) (o.length + 1) cap')) w.heap.size 49 (.slice (some ⟨g', 0, none⟩) (o.length + 1) cap') := Boxed.set _ hbw
  have hl5 := (PS l (by omega)).trans hlw
  have gP := grownBy_putObj' (w1.setCell ⟨w.heap.size, 0, none⟩ (.slice (some ⟨g', 0, none⟩) (o.length + 1) cap')) l (.loop { r0 with state := .ready, pending := none })
  have PP : ∀ k, k ≠ l → ((w1.setCell ⟨w.heap.size, 0, none⟩ (.slice (some ⟨g', 0, none⟩) (o.length + 1) cap')).putObj l (.loop { r0 with state := .ready, pending := none })).heap[k]? = (w1.setCell ⟨w.heap.size, 0, none⟩ (.slice (some ⟨g', 0, none⟩) (o.length + 1) cap')).heap[k]? := fun k hk => World.putObj_heap_other hk
  have hlP : ((w1.setCell ⟨w.heap.size, 0, none⟩ (.slice (some ⟨g', 0, none⟩) (o.length + 1) cap')).putObj l (.loop { r0 with state := .ready, pending := none })).heap[l]? = some (.loop r0) := by
    rw [hr]
    exact World.putObj_heap_same (lt_of_heap hl5)
  have s1 := gS.size
  have s2 := gP.size
  refine ⟨hl5, hlP, ⟨(PP _ (by omega)).trans hB5, hrow.at (fun g hg => ?_), (fun z => by simp at z), fun d hd => ?_, q.ge, q.nd, fun k hk1 hk2 => ?_, by omega, gP.os.trans (gS.os.trans (hgr.os.trans qc.os)), gP.tape.trans (gS.tape.trans (hgr.tape.trans qc.tp)), gP.output.trans (gS.output.trans (hgr.output.trans qc.ou)), q.lo, q.b2⟩, by omega, fun b hb hb1 hb2 hb3 => ?_⟩
  · rcases hrow.2 with ⟨hv, _⟩ | ⟨g2, _, cur, hv, hb, hgc, _⟩
    · cases hv
    · have e : g2 = g := by rw [hv] at hg; injection hg
      subst e
      exact (PP _ (fun e => by subst e; rw [hlw] at hgc; cases hgc)).trans (PS _ (by omega))
  · have hc := qc.dd d hd
    have hge := q.ge d hd
    have hdl : d ≠ l := fun e => by subst e; rw [hlc] at hc; cases hc
    exact (PP d hdl).trans ((PS d (by omega)).trans ((hw1 d (lt_of_heap hc) (fun g hg e => by obtain ⟨_, ⟨_, _, hx⟩, _⟩ := qc.own g hg; subst e; rw [hc] at hx; cases hx)).trans hc))
  · exact (PP k (by omega)).trans ((PS k hk2).trans ((hw1 k (by omega) (fun g hg e => by have := (qc.own g hg).1; omega)).trans (qc.ks k hk1 hk2)))
  · refine (PP b hb2).trans ((PS b hb1).trans ((hw1 b (by omega) (fun g hg e => ?_)).trans (hP b hb hb2)))
    subst e
    obtain ⟨_, hx, hy⟩ := q.own b hg
    exact hb3 ⟨hx, hy⟩
end
end Go.Proofs.YtjhlbkjcchejjaaGreatDoor
