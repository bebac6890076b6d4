/- The walk of package merge's joinEvent (written by wip/gen/mkMgM.py). -/
import Derived.Test.YtekminpoiokgfaaGreatDoorYaW
import Derived.Test.YtekminpoiokgfaaGreatDoorYaH
import Derived.Test.YtekminpoiokgfaaGreatDoorYaL
namespace Go.Proofs.YtekminpoiokgfaaGreatDoor
open Go Go.RowKit Go.Maps Go.Sort Cal
attribute [local go_sem] Oper.semAt_some

def allB : ByteArray := ⟨#[97, 108, 108]⟩
/-- what joinEvent answers -/
def JE (base : Nat) (W : World) (o1 o2 o3 : Option EV) (r : Ending) : Prop :=
  (∃ t, one3 (eOp o1) (eOp o2) (eOp o3) = some t ∧ r = .returned (.tuple #[.string t, .slice none 0 0])) ∨
  (one3 (eOp o1) (eOp o2) (eOp o3) = none ∧ (o1 = none ∨ o2 = none ∨ o3 = none) ∧ ∃ v, r = .returned (.tuple #[.string ⟨#[]⟩, v]) ∧ W.ownsRow base 9 1 v 1 [.string allB]) ∨
  (one3 (eOp o1) (eOp o2) (eOp o3) = none ∧ ∃ E1 E2 E3, o1 = some E1 ∧ o2 = some E2 ∧ o3 = some E3 ∧
    ((jCs E1 E2 E3 6 = [] ∧ r = .returned (.tuple #[.string (bs (Lib.join ((jTs E1 E2 E3 6).map fun b => b.data.toList) [124])), .slice none 0 0])) ∨
     (jCs E1 E2 E3 6 ≠ [] ∧ ∃ v, r = .returned (.tuple #[.string ⟨#[]⟩, v]) ∧ W.ownsRow base 9 1 v (jCs E1 E2 E3 6).length ((jCs E1 E2 E3 6).map Value.string))))

set_option maxHeartbeats 4000000 in
set_option maxRecDepth 100000 in
theorem joinEvent_any (pb : Option Addr) (l2 b2 n2 : Nat) (o2 : Option Nat) (l3 b3 n3 : Nat) (o3 : Option Nat) (X Y Z : List EV) (id : ByteArray) (hid : id.size ≤ 1000) (s : Nat → Addr) (w : World) (gk : GlobK s w) (g : GlobR w)
    (h1 : ∀ W, Below w.heap.size w W → Calls Tryz.prog 11 #[.pointer pb, .string id] W fun r w' => ∃ sl skv mvv, r = .returned (.tuple #[ev ((lkC X id).getD zE) sl skv mvv, .bool (lkC X id).isSome]) ∧ Ls w' ((lkC X id).getD zE) sl skv mvv ∧ ((lkC X id).isSome = true → Got w' skv ((lkC X id).getD zE).sk) ∧ Below W.heap.size W w') (h2 : BookAt l2 w b2 o2 n2 Y) (h3 : BookAt l3 w b3 o3 n3 Z) (hX : ∀ E ∈ X, EW E ∧ E.ds.length ≤ 20) (hY : ∀ E ∈ Y, EW E ∧ E.ds.length ≤ 20) (hZ : ∀ E ∈ Z, EW E ∧ E.ds.length ≤ 20) :
    Calls Tryz.prog 21 #[.string id, .pointer pb, .pointer (some ⟨b2, 0, none⟩), .pointer (some ⟨b3, 0, none⟩)] w fun r w' => Below w.heap.size w w' ∧ JE w.heap.size w' (lkC X id) (lkC Y id) (lkC Z id) r := by
  have G1 : Hid (∀ W, Below w.heap.size w W → Calls Tryz.prog 11 #[.pointer pb, .string id] W fun r w' => ∃ sl skv mvv, r = .returned (.tuple #[ev ((lkC X id).getD zE) sl skv mvv, .bool (lkC X id).isSome]) ∧ Ls w' ((lkC X id).getD zE) sl skv mvv ∧ ((lkC X id).isSome = true → Got w' skv ((lkC X id).getD zE).sk) ∧ Below W.heap.size W w') := h1
  have Q1 : Hid (∀ E, lkC X id = some E → EW E ∧ E.ds.length ≤ 20) := fun E q => hX E (lkC_some q).1
  have G2 : Hid (∀ W, Below w.heap.size w W → Calls Tryz.prog 11 #[.pointer (some ⟨b2, 0, none⟩), .string id] W fun r w' => ∃ sl skv mvv, r = .returned (.tuple #[ev ((lkC Y id).getD zE) sl skv mvv, .bool (lkC Y id).isSome]) ∧ Ls w' ((lkC Y id).getD zE) sl skv mvv ∧ ((lkC Y id).isSome = true → Got w' skv ((lkC Y id).getD zE).sk) ∧ Below W.heap.size W w') := fun W hW => getO_C l2 b2 n2 o2 Y id hid W (h2.step hW)
  have Q2 : Hid (∀ E, lkC Y id = some E → EW E ∧ E.ds.length ≤ 20) := fun E q => hY E (lkC_some q).1
  have G3 : Hid (∀ W, Below w.heap.size w W → Calls Tryz.prog 11 #[.pointer (some ⟨b3, 0, none⟩), .string id] W fun r w' => ∃ sl skv mvv, r = .returned (.tuple #[ev ((lkC Z id).getD zE) sl skv mvv, .bool (lkC Z id).isSome]) ∧ Ls w' ((lkC Z id).getD zE) sl skv mvv ∧ ((lkC Z id).isSome = true → Got w' skv ((lkC Z id).getD zE).sk) ∧ Below W.heap.size W w') := fun W hW => getO_C l3 b3 n3 o3 Z id hid W (h3.step hW)
  have Q3 : Hid (∀ E, lkC Z id = some E → EW E ∧ E.ds.length ≤ 20) := fun E q => hZ E (lkC_some q).1
  have GG : Hid (GlobK s w ∧ GlobR w) := ⟨gk, g⟩
  clear h1 h2 h3 hX hY hZ gk g
  generalize lkC X id = p1 at G1 Q1 ⊢
  have TX1 : Hid (∀ (sl skv mvv : Value) W, Below w.heap.size w W → Ls W (p1.getD zE) sl skv mvv → Calls Tryz.prog 41 #[ev (p1.getD zE) sl skv mvv] W fun r w' => r = .returned (.string (eOp p1)) ∧ Below W.heap.size W w') := fun sl skv mvv W hW hL => textO_C p1 sl skv mvv s W (GG.out.1.step hW) (GG.out.2.step hW) hL (fun E q => (Q1.out E q).1)
  obtain ⟨E1, hE1⟩ : ∃ E, p1.getD zE = E := ⟨_, rfl⟩
  rw [hE1] at G1 TX1
  have HE1 : Hid (p1.getD zE = E1) := hE1
  obtain ⟨f1, hf1⟩ : ∃ f, p1.isSome = f := ⟨_, rfl⟩
  rw [hf1] at G1
  have HF1 : Hid (p1.isSome = f1) := hf1
  clear hE1 hf1
  generalize lkC Y id = p2 at G2 Q2 ⊢
  have TX2 : Hid (∀ (sl skv mvv : Value) W, Below w.heap.size w W → Ls W (p2.getD zE) sl skv mvv → Calls Tryz.prog 41 #[ev (p2.getD zE) sl skv mvv] W fun r w' => r = .returned (.string (eOp p2)) ∧ Below W.heap.size W w') := fun sl skv mvv W hW hL => textO_C p2 sl skv mvv s W (GG.out.1.step hW) (GG.out.2.step hW) hL (fun E q => (Q2.out E q).1)
  obtain ⟨E2, hE2⟩ : ∃ E, p2.getD zE = E := ⟨_, rfl⟩
  rw [hE2] at G2 TX2
  have HE2 : Hid (p2.getD zE = E2) := hE2
  obtain ⟨f2, hf2⟩ : ∃ f, p2.isSome = f := ⟨_, rfl⟩
  rw [hf2] at G2
  have HF2 : Hid (p2.isSome = f2) := hf2
  clear hE2 hf2
  generalize lkC Z id = p3 at G3 Q3 ⊢
  have TX3 : Hid (∀ (sl skv mvv : Value) W, Below w.heap.size w W → Ls W (p3.getD zE) sl skv mvv → Calls Tryz.prog 41 #[ev (p3.getD zE) sl skv mvv] W fun r w' => r = .returned (.string (eOp p3)) ∧ Below W.heap.size W w') := fun sl skv mvv W hW hL => textO_C p3 sl skv mvv s W (GG.out.1.step hW) (GG.out.2.step hW) hL (fun E q => (Q3.out E q).1)
  obtain ⟨E3, hE3⟩ : ∃ E, p3.getD zE = E := ⟨_, rfl⟩
  rw [hE3] at G3 TX3
  have HE3 : Hid (p3.getD zE = E3) := hE3
  obtain ⟨f3, hf3⟩ : ∃ f, p3.isSome = f := ⟨_, rfl⟩
  rw [hf3] at G3
  have HF3 : Hid (p3.isSome = f3) := hf3
  clear hE3 hf3
  go_enter Tryz.func21, Tryz.ntmps21
  go_wp2_with fail
  go_at_call 11
  refine Calls.mono (G1.out w (Below.refl _ _)) ?_
  rintro r w1 ⟨x1, y1, z1, rfl, hL1, hg1, hb1⟩
  have hLc := hL1
  obtain ⟨ld, ls, lm⟩ := hLc
  obtain ⟨r1, rc1, rfl, _⟩ := ld
  obtain ⟨s1, sc1, rfl, _⟩ := ls
  obtain ⟨m1, mc1, rfl, _⟩ := lm
  have KB1 : Hid ((w1.alloc (.cells #[.string E1.id, .string E1.ti, .int .i64 E1.st, .int .i64 E1.lg, .string E1.f, .int .i64 E1.e, .slice r1 E1.ds.length rc1, .int .i64 E1.c, .int .i64 E1.u, .slice s1 E1.sk.length sc1, .slice m1 E1.mv.length mc1] 44)).heap[w1.heap.size]? = some (.cells #[.string E1.id, .string E1.ti, .int .i64 E1.st, .int .i64 E1.lg, .string E1.f, .int .i64 E1.e, .slice r1 E1.ds.length rc1, .int .i64 E1.c, .int .i64 E1.u, .slice s1 E1.sk.length sc1, .slice m1 E1.mv.length mc1] 44 (0, 0))) := block_at _ rfl
  have LB1 : Hid (Ls (w1.alloc (.cells #[.string E1.id, .string E1.ti, .int .i64 E1.st, .int .i64 E1.lg, .string E1.f, .int .i64 E1.e, .slice r1 E1.ds.length rc1, .int .i64 E1.c, .int .i64 E1.u, .slice s1 E1.sk.length sc1, .slice m1 E1.mv.length mc1] 44)) E1 (.slice r1 E1.ds.length rc1) (.slice s1 E1.sk.length sc1) (.slice m1 E1.mv.length mc1)) := hL1.step (below_alloc _ _)
  have GB1 : Hid (f1 = true → Got (w1.alloc (.cells #[.string E1.id, .string E1.ti, .int .i64 E1.st, .int .i64 E1.lg, .string E1.f, .int .i64 E1.e, .slice r1 E1.ds.length rc1, .int .i64 E1.c, .int .i64 E1.u, .slice s1 E1.sk.length sc1, .slice m1 E1.mv.length mc1] 44)) (.slice s1 E1.sk.length sc1) E1.sk) := fun q => (hg1 q).step (below_alloc _ _)
  have HW1 : Hid (Below w.heap.size w (w1.alloc (.cells #[.string E1.id, .string E1.ti, .int .i64 E1.st, .int .i64 E1.lg, .string E1.f, .int .i64 E1.e, .slice r1 E1.ds.length rc1, .int .i64 E1.c, .int .i64 E1.u, .slice s1 E1.sk.length sc1, .slice m1 E1.mv.length mc1] 44))) := below_then hb1 (below_alloc _ _)
  have GC2 : Hid (Calls _ _ _ _ _) := G2.out _ HW1.out
  unfold ev
  go_upto_region 2 with (fail)
  clear hL1 hg1 hb1
  generalize w1.alloc (.cells #[.string E1.id, .string E1.ti, .int .i64 E1.st, .int .i64 E1.lg, .string E1.f, .int .i64 E1.e, .slice r1 E1.ds.length rc1, .int .i64 E1.c, .int .i64 E1.u, .slice s1 E1.sk.length sc1, .slice m1 E1.mv.length mc1] 44) = w1' at *
  generalize w1.heap.size = c1 at *
  go_wp2_with fail
  go_at_call 11
  refine Calls.mono GC2.out ?_
  rintro r w2 ⟨x2, y2, z2, rfl, hL2, hg2, hb2⟩
  have hLc := hL2
  obtain ⟨ld, ls, lm⟩ := hLc
  obtain ⟨r2, rc2, rfl, _⟩ := ld
  obtain ⟨s2, sc2, rfl, _⟩ := ls
  obtain ⟨m2, mc2, rfl, _⟩ := lm
  have KB2 : Hid ((w2.alloc (.cells #[.string E2.id, .string E2.ti, .int .i64 E2.st, .int .i64 E2.lg, .string E2.f, .int .i64 E2.e, .slice r2 E2.ds.length rc2, .int .i64 E2.c, .int .i64 E2.u, .slice s2 E2.sk.length sc2, .slice m2 E2.mv.length mc2] 44)).heap[w2.heap.size]? = some (.cells #[.string E2.id, .string E2.ti, .int .i64 E2.st, .int .i64 E2.lg, .string E2.f, .int .i64 E2.e, .slice r2 E2.ds.length rc2, .int .i64 E2.c, .int .i64 E2.u, .slice s2 E2.sk.length sc2, .slice m2 E2.mv.length mc2] 44 (0, 0))) := block_at _ rfl
  have LB2 : Hid (Ls (w2.alloc (.cells #[.string E2.id, .string E2.ti, .int .i64 E2.st, .int .i64 E2.lg, .string E2.f, .int .i64 E2.e, .slice r2 E2.ds.length rc2, .int .i64 E2.c, .int .i64 E2.u, .slice s2 E2.sk.length sc2, .slice m2 E2.mv.length mc2] 44)) E2 (.slice r2 E2.ds.length rc2) (.slice s2 E2.sk.length sc2) (.slice m2 E2.mv.length mc2)) := hL2.step (below_alloc _ _)
  have GB2 : Hid (f2 = true → Got (w2.alloc (.cells #[.string E2.id, .string E2.ti, .int .i64 E2.st, .int .i64 E2.lg, .string E2.f, .int .i64 E2.e, .slice r2 E2.ds.length rc2, .int .i64 E2.c, .int .i64 E2.u, .slice s2 E2.sk.length sc2, .slice m2 E2.mv.length mc2] 44)) (.slice s2 E2.sk.length sc2) E2.sk) := fun q => (hg2 q).step (below_alloc _ _)
  have HW2 : Hid (Below w.heap.size w (w2.alloc (.cells #[.string E2.id, .string E2.ti, .int .i64 E2.st, .int .i64 E2.lg, .string E2.f, .int .i64 E2.e, .slice r2 E2.ds.length rc2, .int .i64 E2.c, .int .i64 E2.u, .slice s2 E2.sk.length sc2, .slice m2 E2.mv.length mc2] 44))) := below_then HW1.out (below_then hb2 (below_alloc _ _))
  have KN : Hid ((w2.alloc (.cells #[.string E2.id, .string E2.ti, .int .i64 E2.st, .int .i64 E2.lg, .string E2.f, .int .i64 E2.e, .slice r2 E2.ds.length rc2, .int .i64 E2.c, .int .i64 E2.u, .slice s2 E2.sk.length sc2, .slice m2 E2.mv.length mc2] 44)).heap[c1]? = some (.cells #[.string E1.id, .string E1.ti, .int .i64 E1.st, .int .i64 E1.lg, .string E1.f, .int .i64 E1.e, .slice r1 E1.ds.length rc1, .int .i64 E1.c, .int .i64 E1.u, .slice s1 E1.sk.length sc1, .slice m1 E1.mv.length mc1] 44 (0, 0))) := ((below_then hb2 (below_alloc _ _)).block _ (Array.getElem?_eq_some_iff.1 KB1.out).1).trans KB1.out
  clear KB1
  have KB1 := KN
  clear KN
  have LN : Hid (Ls (w2.alloc (.cells #[.string E2.id, .string E2.ti, .int .i64 E2.st, .int .i64 E2.lg, .string E2.f, .int .i64 E2.e, .slice r2 E2.ds.length rc2, .int .i64 E2.c, .int .i64 E2.u, .slice s2 E2.sk.length sc2, .slice m2 E2.mv.length mc2] 44)) _ _ _ _) := LB1.out.step (below_then hb2 (below_alloc _ _))
  clear LB1
  have LB1 := LN
  clear LN
  have GN : Hid (f1 = true → Got (w2.alloc (.cells #[.string E2.id, .string E2.ti, .int .i64 E2.st, .int .i64 E2.lg, .string E2.f, .int .i64 E2.e, .slice r2 E2.ds.length rc2, .int .i64 E2.c, .int .i64 E2.u, .slice s2 E2.sk.length sc2, .slice m2 E2.mv.length mc2] 44)) _ _) := fun q => (GB1.out q).step (below_then hb2 (below_alloc _ _))
  clear GB1
  have GB1 := GN
  clear GN
  have GC3 : Hid (Calls _ _ _ _ _) := G3.out _ HW2.out
  unfold ev
  go_upto_region 3 with (fail)
  clear hL2 hg2 hb2
  generalize w2.alloc (.cells #[.string E2.id, .string E2.ti, .int .i64 E2.st, .int .i64 E2.lg, .string E2.f, .int .i64 E2.e, .slice r2 E2.ds.length rc2, .int .i64 E2.c, .int .i64 E2.u, .slice s2 E2.sk.length sc2, .slice m2 E2.mv.length mc2] 44) = w2' at *
  generalize w2.heap.size = c2 at *
  go_wp2_with fail
  go_at_call 11
  refine Calls.mono GC3.out ?_
  rintro r w3 ⟨x3, y3, z3, rfl, hL3, hg3, hb3⟩
  have hLc := hL3
  obtain ⟨ld, ls, lm⟩ := hLc
  obtain ⟨r3, rc3, rfl, _⟩ := ld
  obtain ⟨s3, sc3, rfl, _⟩ := ls
  obtain ⟨m3, mc3, rfl, _⟩ := lm
  have KB3 : Hid ((w3.alloc (.cells #[.string E3.id, .string E3.ti, .int .i64 E3.st, .int .i64 E3.lg, .string E3.f, .int .i64 E3.e, .slice r3 E3.ds.length rc3, .int .i64 E3.c, .int .i64 E3.u, .slice s3 E3.sk.length sc3, .slice m3 E3.mv.length mc3] 44)).heap[w3.heap.size]? = some (.cells #[.string E3.id, .string E3.ti, .int .i64 E3.st, .int .i64 E3.lg, .string E3.f, .int .i64 E3.e, .slice r3 E3.ds.length rc3, .int .i64 E3.c, .int .i64 E3.u, .slice s3 E3.sk.length sc3, .slice m3 E3.mv.length mc3] 44 (0, 0))) := block_at _ rfl
  have LB3 : Hid (Ls (w3.alloc (.cells #[.string E3.id, .string E3.ti, .int .i64 E3.st, .int .i64 E3.lg, .string E3.f, .int .i64 E3.e, .slice r3 E3.ds.length rc3, .int .i64 E3.c, .int .i64 E3.u, .slice s3 E3.sk.length sc3, .slice m3 E3.mv.length mc3] 44)) E3 (.slice r3 E3.ds.length rc3) (.slice s3 E3.sk.length sc3) (.slice m3 E3.mv.length mc3)) := hL3.step (below_alloc _ _)
  have GB3 : Hid (f3 = true → Got (w3.alloc (.cells #[.string E3.id, .string E3.ti, .int .i64 E3.st, .int .i64 E3.lg, .string E3.f, .int .i64 E3.e, .slice r3 E3.ds.length rc3, .int .i64 E3.c, .int .i64 E3.u, .slice s3 E3.sk.length sc3, .slice m3 E3.mv.length mc3] 44)) (.slice s3 E3.sk.length sc3) E3.sk) := fun q => (hg3 q).step (below_alloc _ _)
  have HW3 : Hid (Below w.heap.size w (w3.alloc (.cells #[.string E3.id, .string E3.ti, .int .i64 E3.st, .int .i64 E3.lg, .string E3.f, .int .i64 E3.e, .slice r3 E3.ds.length rc3, .int .i64 E3.c, .int .i64 E3.u, .slice s3 E3.sk.length sc3, .slice m3 E3.mv.length mc3] 44))) := below_then HW2.out (below_then hb3 (below_alloc _ _))
  have KN : Hid ((w3.alloc (.cells #[.string E3.id, .string E3.ti, .int .i64 E3.st, .int .i64 E3.lg, .string E3.f, .int .i64 E3.e, .slice r3 E3.ds.length rc3, .int .i64 E3.c, .int .i64 E3.u, .slice s3 E3.sk.length sc3, .slice m3 E3.mv.length mc3] 44)).heap[c1]? = some (.cells #[.string E1.id, .string E1.ti, .int .i64 E1.st, .int .i64 E1.lg, .string E1.f, .int .i64 E1.e, .slice r1 E1.ds.length rc1, .int .i64 E1.c, .int .i64 E1.u, .slice s1 E1.sk.length sc1, .slice m1 E1.mv.length mc1] 44 (0, 0))) := ((below_then hb3 (below_alloc _ _)).block _ (Array.getElem?_eq_some_iff.1 KB1.out).1).trans KB1.out
  clear KB1
  have KB1 := KN
  clear KN
  have LN : Hid (Ls (w3.alloc (.cells #[.string E3.id, .string E3.ti, .int .i64 E3.st, .int .i64 E3.lg, .string E3.f, .int .i64 E3.e, .slice r3 E3.ds.length rc3, .int .i64 E3.c, .int .i64 E3.u, .slice s3 E3.sk.length sc3, .slice m3 E3.mv.length mc3] 44)) _ _ _ _) := LB1.out.step (below_then hb3 (below_alloc _ _))
  clear LB1
  have LB1 := LN
  clear LN
  have GN : Hid (f1 = true → Got (w3.alloc (.cells #[.string E3.id, .string E3.ti, .int .i64 E3.st, .int .i64 E3.lg, .string E3.f, .int .i64 E3.e, .slice r3 E3.ds.length rc3, .int .i64 E3.c, .int .i64 E3.u, .slice s3 E3.sk.length sc3, .slice m3 E3.mv.length mc3] 44)) _ _) := fun q => (GB1.out q).step (below_then hb3 (below_alloc _ _))
  clear GB1
  have GB1 := GN
  clear GN
  have KN : Hid ((w3.alloc (.cells #[.string E3.id, .string E3.ti, .int .i64 E3.st, .int .i64 E3.lg, .string E3.f, .int .i64 E3.e, .slice r3 E3.ds.length rc3, .int .i64 E3.c, .int .i64 E3.u, .slice s3 E3.sk.length sc3, .slice m3 E3.mv.length mc3] 44)).heap[c2]? = some (.cells #[.string E2.id, .string E2.ti, .int .i64 E2.st, .int .i64 E2.lg, .string E2.f, .int .i64 E2.e, .slice r2 E2.ds.length rc2, .int .i64 E2.c, .int .i64 E2.u, .slice s2 E2.sk.length sc2, .slice m2 E2.mv.length mc2] 44 (0, 0))) := ((below_then hb3 (below_alloc _ _)).block _ (Array.getElem?_eq_some_iff.1 KB2.out).1).trans KB2.out
  clear KB2
  have KB2 := KN
  clear KN
  have LN : Hid (Ls (w3.alloc (.cells #[.string E3.id, .string E3.ti, .int .i64 E3.st, .int .i64 E3.lg, .string E3.f, .int .i64 E3.e, .slice r3 E3.ds.length rc3, .int .i64 E3.c, .int .i64 E3.u, .slice s3 E3.sk.length sc3, .slice m3 E3.mv.length mc3] 44)) _ _ _ _) := LB2.out.step (below_then hb3 (below_alloc _ _))
  clear LB2
  have LB2 := LN
  clear LN
  have GN : Hid (f2 = true → Got (w3.alloc (.cells #[.string E3.id, .string E3.ti, .int .i64 E3.st, .int .i64 E3.lg, .string E3.f, .int .i64 E3.e, .slice r3 E3.ds.length rc3, .int .i64 E3.c, .int .i64 E3.u, .slice s3 E3.sk.length sc3, .slice m3 E3.mv.length mc3] 44)) _ _) := fun q => (GB2.out q).step (below_then hb3 (below_alloc _ _))
  clear GB2
  have GB2 := GN
  clear GN
  unfold ev
  go_upto_region 4 with (fail)
  clear hL3 hg3 hb3
  generalize w3.alloc (.cells #[.string E3.id, .string E3.ti, .int .i64 E3.st, .int .i64 E3.lg, .string E3.f, .int .i64 E3.e, .slice r3 E3.ds.length rc3, .int .i64 E3.c, .int .i64 E3.u, .slice s3 E3.sk.length sc3, .slice m3 E3.mv.length mc3] 44) = w0 at *
  generalize w3.heap.size = c3 at *
  have OS : Hid (∀ W, Calls Tryz.prog 40 #[.string (eOp p1), .string (eOp p2), .string (eOp p3)] W fun r w' => r = .returned (.tuple #[.string ((one3 (eOp p1) (eOp p2) (eOp p3)).getD ⟨#[]⟩), .bool (one3 (eOp p1) (eOp p2) (eOp p3)).isSome]) ∧ Below W.heap.size W w') := fun W => (oneOfS_any _ _ _ W).mono (by rintro r w' ⟨rfl, rfl⟩; exact ⟨rfl, Below.refl _ _⟩)
  obtain ⟨z, hz⟩ : ∃ z, one3 (eOp p1) (eOp p2) (eOp p3) = z := ⟨_, rfl⟩
  rw [hz] at OS
  have HZ : Hid (one3 (eOp p1) (eOp p2) (eOp p3) = z) := hz
  clear hz GC2 GC3 G1 G2 G3
  obtain ⟨zb, hzb⟩ : ∃ zb, z.getD ⟨#[]⟩ = zb := ⟨_, rfl⟩
  obtain ⟨zs, hzs⟩ : ∃ zs, z.isSome = zs := ⟨_, rfl⟩
  rw [hzb, hzs] at OS
  have HZB : Hid (z.getD ⟨#[]⟩ = zb) := hzb
  have HZS : Hid (z.isSome = zs) := hzs
  clear hzb hzs
  obtain ⟨t1, ht1⟩ : ∃ t, eOp p1 = t := ⟨_, rfl⟩
  rw [ht1] at TX1 OS
  clear ht1
  obtain ⟨t2, ht2⟩ : ∃ t, eOp p2 = t := ⟨_, rfl⟩
  rw [ht2] at TX2 OS
  clear ht2
  obtain ⟨t3, ht3⟩ : ∃ t, eOp p3 = t := ⟨_, rfl⟩
  rw [ht3] at TX3 OS
  clear ht3
  obtain ⟨u1a, u1b, u1c, u1d, u1e, u1f, u1g, u1h, u1i, u1j, u1k⟩ := blk11 KB1.out
  have U1a := cell_regrown u1a
  have U1b := cell_regrown u1b
  have U1c := cell_regrown u1c
  have U1d := cell_regrown u1d
  have U1e := cell_regrown u1e
  have U1f := cell_regrown u1f
  have U1g := cell_regrown u1g
  have U1h := cell_regrown u1h
  have U1i := cell_regrown u1i
  have U1j := cell_regrown u1j
  have U1k := cell_regrown u1k
  have D1 : Hid (∀ d os, Calls Tryz.prog 41 #[.agg #[.string E1.id, .string E1.ti, .int .i64 E1.st, .int .i64 E1.lg, .string E1.f, .int .i64 E1.e, .slice r1 E1.ds.length rc1, .int .i64 E1.c, .int .i64 E1.u, .slice s1 E1.sk.length sc1, .slice m1 E1.mv.length mc1]] (grow (redrawn w0 d) os) fun r w'' => r = .returned (.string t1) ∧ ∃ p : Regrown, w'' = grow (redrawn w0 p.d) p.os) := fun d os => Calls.regrown_of (TX1.out _ _ _ _ (below_then HW3.out (below_regrown _ _ _)) (LB1.out.step (below_regrown _ _ _)))
  obtain ⟨u2a, u2b, u2c, u2d, u2e, u2f, u2g, u2h, u2i, u2j, u2k⟩ := blk11 KB2.out
  have U2a := cell_regrown u2a
  have U2b := cell_regrown u2b
  have U2c := cell_regrown u2c
  have U2d := cell_regrown u2d
  have U2e := cell_regrown u2e
  have U2f := cell_regrown u2f
  have U2g := cell_regrown u2g
  have U2h := cell_regrown u2h
  have U2i := cell_regrown u2i
  have U2j := cell_regrown u2j
  have U2k := cell_regrown u2k
  have D2 : Hid (∀ d os, Calls Tryz.prog 41 #[.agg #[.string E2.id, .string E2.ti, .int .i64 E2.st, .int .i64 E2.lg, .string E2.f, .int .i64 E2.e, .slice r2 E2.ds.length rc2, .int .i64 E2.c, .int .i64 E2.u, .slice s2 E2.sk.length sc2, .slice m2 E2.mv.length mc2]] (grow (redrawn w0 d) os) fun r w'' => r = .returned (.string t2) ∧ ∃ p : Regrown, w'' = grow (redrawn w0 p.d) p.os) := fun d os => Calls.regrown_of (TX2.out _ _ _ _ (below_then HW3.out (below_regrown _ _ _)) (LB2.out.step (below_regrown _ _ _)))
  obtain ⟨u3a, u3b, u3c, u3d, u3e, u3f, u3g, u3h, u3i, u3j, u3k⟩ := blk11 KB3.out
  have U3a := cell_regrown u3a
  have U3b := cell_regrown u3b
  have U3c := cell_regrown u3c
  have U3d := cell_regrown u3d
  have U3e := cell_regrown u3e
  have U3f := cell_regrown u3f
  have U3g := cell_regrown u3g
  have U3h := cell_regrown u3h
  have U3i := cell_regrown u3i
  have U3j := cell_regrown u3j
  have U3k := cell_regrown u3k
  have D3 : Hid (∀ d os, Calls Tryz.prog 41 #[.agg #[.string E3.id, .string E3.ti, .int .i64 E3.st, .int .i64 E3.lg, .string E3.f, .int .i64 E3.e, .slice r3 E3.ds.length rc3, .int .i64 E3.c, .int .i64 E3.u, .slice s3 E3.sk.length sc3, .slice m3 E3.mv.length mc3]] (grow (redrawn w0 d) os) fun r w'' => r = .returned (.string t3) ∧ ∃ p : Regrown, w'' = grow (redrawn w0 p.d) p.os) := fun d os => Calls.regrown_of (TX3.out _ _ _ _ (below_then HW3.out (below_regrown _ _ _)) (LB3.out.step (below_regrown _ _ _)))
  have DO : Hid (∀ d os, Calls Tryz.prog 40 #[.string t1, .string t2, .string t3] (grow (redrawn w0 d) os) fun r w'' => r = .returned (.tuple #[.string zb, .bool zs]) ∧ ∃ p : Regrown, w'' = grow (redrawn w0 p.d) p.os) := fun d os => Calls.regrown_of (OS.out _)
  refine wp_region_quiet_below (by kernel_rfl) (by kernel_rfl) ?_
  repeat (quiet_step (fail))
  quiet_step ((go_at_call 41; exact D1.out _ _))
  repeat (quiet_step (fail))
  quiet_step ((go_at_call 41; exact D2.out _ _))
  repeat (quiet_step (fail))
  quiet_step ((go_at_call 41; exact D3.out _ _))
  repeat (quiet_step (fail))
  quiet_step ((go_at_call 40; exact DO.out _ _))
  repeat (quiet_step (fail))
  refine wpQuiet_nil ?_
  intro w4 hw'
  have hb4 : Below w0.heap.size w0 w4 := by
    obtain ⟨⟨dq, osq⟩, hw''⟩ := hw'
    subst hw''
    exact below_regrown _ _ _
  clear hw' D1 D2 D3 DO OS TX1 TX2 TX3
  clear u1a U1a u1b U1b u1c U1c u1d U1d u1e U1e u1f U1f u1g U1g u1h U1h u1i U1i u1j U1j u1k U1k
  clear u2a U2a u2b U2b u2c U2c u2d U2d u2e U2e u2f U2f u2g U2g u2h U2h u2i U2i u2j U2j u2k U2k
  clear u3a U3a u3b U3b u3c U3c u3d U3d u3e U3e u3f U3f u3g U3g u3h U3h u3i U3i u3j U3j u3k U3k
  have HB4 : Hid (Below w.heap.size w w4) := below_then HW3.out hb4
  obtain ⟨v1a, v1b, v1c, v1d, v1e, v1f, v1g, v1h, v1i, v1j, v1k⟩ := blk11 ((hb4.block _ (Array.getElem?_eq_some_iff.1 KB1.out).1).trans KB1.out)
  obtain ⟨v2a, v2b, v2c, v2d, v2e, v2f, v2g, v2h, v2i, v2j, v2k⟩ := blk11 ((hb4.block _ (Array.getElem?_eq_some_iff.1 KB2.out).1).trans KB2.out)
  obtain ⟨v3a, v3b, v3c, v3d, v3e, v3f, v3g, v3h, v3i, v3j, v3k⟩ := blk11 ((hb4.block _ (Array.getElem?_eq_some_iff.1 KB3.out).1).trans KB3.out)
  cases zs with
  | true =>
    have HJ : Hid (z = some zb) := by
      show z = some zb
      cases z with
      | none => exact absurd HZS.out (by simp)
      | some t => rw [show t = zb from HZB.out]
    go_wp2
    go_ret2
    exact ⟨HB4.out, .inl ⟨zb, HZ.out.trans HJ.out, rfl⟩⟩
  | false =>
    have HJ : Hid (one3 (eOp p1) (eOp p2) (eOp p3) = none) := by
      show _ = none
      rw [HZ.out]
      cases z with
      | none => rfl
      | some t => exact absurd HZS.out (by simp)
    by_cases hall : f1 = true ∧ f2 = true ∧ f3 = true
    · obtain ⟨e1, e2, e3⟩ := hall
      subst e1 e2 e3
      have hp1 : p1 = some E1 := by
        cases p1 with
        | none => exact absurd HF1.out (by simp)
        | some q => rw [show q = E1 from HE1.out]
      have hp2 : p2 = some E2 := by
        cases p2 with
        | none => exact absurd HF2.out (by simp)
        | some q => rw [show q = E2 from HE2.out]
      have hp3 : p3 = some E3 := by
        cases p3 with
        | none => exact absurd HF3.out (by simp)
        | some q => rw [show q = E3 from HE3.out]
      have W1 := Q1.out E1 hp1
      have W2 := Q2.out E2 hp2
      have W3 := Q3.out E3 hp3
      have JF := joinFields_any E1 E2 E3 _ _ _ _ _ _ _ _ _ w4 (GG.out.2.step HB4.out) (LB1.out.step hb4) (LB2.out.step hb4) (LB3.out.step hb4) W1.1 W2.1 W3.1 ((GB2.out rfl).step hb4) ((GB3.out rfl).step hb4) (Nat.le_trans (jTs_short W1.1 W2.1 W3.1 W2.2 W3.2) (by decide))
      unfold ev at JF
      have HJF : Hid (Calls _ _ _ _ _) := JF
      have HP : Hid (p1 = some E1 ∧ p2 = some E2 ∧ p3 = some E3) := ⟨hp1, hp2, hp3⟩
      clear JF W1 W2 W3 hp1 hp2 hp3 KB1 KB2 KB3 LB1 LB2 LB3 GB1 GB2 GB3 Q1 Q2 Q3 GG
      go_wp2_with (go_at_call 42; refine Calls.mono HJF.out ?_; rintro r w5 ⟨hb5, ⟨hc, rfl⟩ | ⟨hc, v, rfl, ho⟩⟩)
      · go_ret2
        exact ⟨below_then HB4.out hb5, .inr (.inr ⟨HJ.out, E1, E2, E3, HP.out.1, HP.out.2.1, HP.out.2.2, .inl ⟨hc, rfl⟩⟩)⟩
      · go_ret2
        exact ⟨below_then HB4.out hb5, .inr (.inr ⟨HJ.out, E1, E2, E3, HP.out.1, HP.out.2.1, HP.out.2.2, .inr ⟨hc, v, rfl, own_base ho HB4.out.size⟩⟩)⟩
    · have HN : Hid (p1 = none ∨ p2 = none ∨ p3 = none) := by
        show _ ∨ _
        cases p1 with
        | none => exact .inl rfl
        | some q1 =>
          cases p2 with
          | none => exact .inr (.inl rfl)
          | some q2 =>
            cases p3 with
            | none => exact .inr (.inr rfl)
            | some q3 => exact absurd ⟨HF1.out.symm, HF2.out.symm, HF3.out.symm⟩ hall
      have HO : Hid ((w4.alloc (.cells #[.string ⟨#[97, 108, 108]⟩] 9)).ownsRow w.heap.size 9 1 (.slice (some ⟨w4.heap.size, 0, none⟩) 1 1) 1 [.string allB]) := ⟨rfl, .inr ⟨w4.heap.size, 1, _, rfl, HB4.out.size, block_at _ rfl, Nat.le_refl _, by decide, rfl, rfl⟩⟩
      clear HF1 HF2 HF3 KB1 KB2 KB3 LB1 LB2 LB3 GB1 GB2 GB3 Q1 Q2 Q3 GG hb4
      cases f1 with
      | false =>
        go_wp2
        go_ret2
        exact ⟨below_then HB4.out (below_alloc _ _), .inr (.inl ⟨HJ.out, HN.out, _, rfl, HO.out⟩)⟩
      | true =>
        cases f2 with
        | false =>
          go_wp2
          go_ret2
          exact ⟨below_then HB4.out (below_alloc _ _), .inr (.inl ⟨HJ.out, HN.out, _, rfl, HO.out⟩)⟩
        | true =>
          cases f3 with
          | true => exact absurd ⟨rfl, rfl, rfl⟩ hall
          | false =>
            go_wp2
            go_ret2
            exact ⟨below_then HB4.out (below_alloc _ _), .inr (.inl ⟨HJ.out, HN.out, _, rfl, HO.out⟩)⟩
end Go.Proofs.YtekminpoiokgfaaGreatDoor

/- Package diff's find. -/
namespace Go.Proofs.YtekminpoiokgfaaGreatDoor
open Go Go.RowKit Go.Maps Go.Sort Cal
attribute [local go_sem] Oper.semAt_some
/-- a change, as the program holds it -/
def chV (id f o n : ByteArray) : Value := .agg #[.string id, .string f, .string o, .string n]
end Go.Proofs.YtekminpoiokgfaaGreatDoor

/- Package diff's find, where the event is no longer as the change knew it. -/
namespace Go.Proofs.YtekminpoiokgfaaGreatDoor
open Go Go.RowKit Go.Maps Go.Sort Cal
attribute [local go_sem] Oper.semAt_some

end Go.Proofs.YtekminpoiokgfaaGreatDoor

/- A list of numbers, or of moves, lies in no block that begins with a text. -/
namespace Go.Proofs.YtekminpoiokgfaaGreatDoor
open Go Go.RowKit Cal

end Go.Proofs.YtekminpoiokgfaaGreatDoor

/- Package diff's find, where the event is as the change knew it. -/
namespace Go.Proofs.YtekminpoiokgfaaGreatDoor
open Go Go.RowKit Go.Maps Go.Sort Cal
attribute [local go_sem] Oper.semAt_some

end Go.Proofs.YtekminpoiokgfaaGreatDoor

/- The document's own calendar: a list of events; Find. -/
namespace Go.Proofs.YtekminpoiokgfaaGreatDoor
open Go Go.RowKit Go.Maps Cal
attribute [local go_sem] Oper.semAt_some

/-- an event as it lies -/
structure EX where
  E : EV
  sl : Value
  skv : Value
  mvv : Value
def EX.cells (X : EX) : List Value := [.string X.E.id, .string X.E.ti, .int .i64 X.E.st, .int .i64 X.E.lg, .string X.E.f, .int .i64 X.E.e, X.sl, .int .i64 X.E.c, .int .i64 X.E.u, X.skv, X.mvv]
theorem cells_at : ∀ (Xs : List EX) (j i : Nat) (hj : j < Xs.length), i < 11 → (Xs.flatMap EX.cells)[j * 11 + i]? = Xs[j].cells[i]?
  | [], j, _, hj, _ => absurd hj (Nat.not_lt_zero _)
  | X :: r, 0, i, _, hi => by
    rw [List.flatMap_cons, List.getElem?_append_left (by simp [EX.cells]; omega)]
    simp
  | X :: r, j + 1, i, hj, hi => by
    rw [List.flatMap_cons, List.getElem?_append_right (by simp [EX.cells]; omega)]
    have := cells_at r j i (by simpa using hj) hi
    rw [show (j + 1) * 11 + i - X.cells.length = j * 11 + i by simp [EX.cells]; omega, this]
    rfl
/-- a list of events that was made -/
def MR (base : Nat) (W : World) (v : Value) (Xs : List EX) : Prop := W.ownsRow base 44 11 v Xs.length (Xs.flatMap EX.cells)
theorem MR.nil (base : Nat) (W : World) : MR base W (.slice none 0 0) [] := World.ownsRow_nil _ _ _ _
theorem MR.form {base : Nat} {W : World} {v : Value} {Xs : List EX} (h : MR base W v Xs) : ∃ (a : Option Addr) (cap : Nat), v = .slice a Xs.length cap ∧ Xs.length ≤ cap ∧ ∀ (j : Nat) (hj : j < Xs.length), ∃ b : Nat, a = some ⟨b, 0, none⟩ ∧ EvAt W b (j * 11) Xs[j].E Xs[j].sl Xs[j].skv Xs[j].mvv := by
  rcases h.2 with ⟨rfl, h0⟩ | ⟨g, cap, cur, rfl, hb, hg, hcap, hmax, hsz, htake⟩
  · refine ⟨none, 0, by rw [h0], by omega, fun j hj => absurd hj (by omega)⟩
  · refine ⟨_, cap, rfl, hcap, fun j hj => ⟨g, rfl, ?_⟩⟩
    have A : ∀ i, i < 11 → W.cell? ⟨g, j * 11 + i, none⟩ = Xs[j].cells[i]? := fun i hi => by
      rw [← cells_at Xs j i hj hi]
      exact World.ownsRow.cellAt h (j * 11 + i) (by omega)
    exact ⟨A 0 (by decide), A 1 (by decide), A 2 (by decide), A 3 (by decide), A 4 (by decide), A 5 (by decide), A 6 (by decide), A 7 (by decide), A 8 (by decide), A 9 (by decide), A 10 (by decide)⟩

set_option maxHeartbeats 1000000 in
theorem find_any (base : Nat) (x : ByteArray) (v : Value) (Xs : List EX) (w : World) (hR : MR base w v Xs) (h8 : Xs.length ≤ 1000) :
    Calls Tryz.prog 35 #[.agg #[v], .string x] w fun r w' => ∃ k : Int, r = .returned (.int .i64 k) ∧ (0 ≤ k ↔ ∃ X ∈ Xs, X.E.id = x) ∧ k ≤ 1000 ∧ -1 ≤ k ∧ Below w.heap.size w w' := by
  obtain ⟨a, cap, rfl, hcap, hc⟩ := hR.form
  have HC : Hid (_) := hc
  have hA := below_alloc w (.cells #[.slice a Xs.length cap] 27)
  have HA0 : Hid (_) := hA
  have cB := cell_of (block_at (W := w) (.cells #[.slice a Xs.length cap] 27) rfl)
  clear hc hR hA
  go_enter Tryz.func35, Tryz.ntmps35
  generalize hw0 : w.alloc (.cells #[.slice a Xs.length cap] 27) = w0 at HA0 cB
  have HCB : Hid (_) := cB
  clear cB
  go_wp2
  go_loopw [5] (fun i wr => ∃ m : Nat, m ≤ Xs.length ∧ i = .int .i64 m ∧ Hid (Below w0.heap.size w0 wr) ∧ Hid (∀ (j : Nat) (h : j < Xs.length), j < m → Xs[j].E.id ≠ x)) (fun i _ => Xs.length - (intOf i).toNat)
  case atStart => exact ⟨0, Nat.zero_le _, rfl, Below.refl _ _, fun j _ h => absurd h (Nat.not_lt_zero _)⟩
  case round =>
    obtain ⟨m, hm, rfl, hB, HA⟩ := hrel
    have cB := cell_step HCB.out hB.out
    by_cases hlt : m < Xs.length
    · obtain ⟨b, rfl, hE⟩ := HC.out m hlt
      have x0 := cell_step (cell_step hE.c0 HA0.out) hB.out
      by_cases hx : Xs[m].E.id = x
      · have HT : Hid (∃ X ∈ Xs, X.E.id = x) := ⟨_, List.getElem_mem hlt, hx⟩
        rw [hx] at x0
        clear HA HC hE hx HCB
        go_wp2
        go_ret
        exact ⟨_, rfl, ⟨fun _ => HT.out, fun _ => by omega⟩, by omega, by omega, below_then HA0.out hB.out⟩
      · have HN : Hid (∀ (j : Nat) (h : j < Xs.length), j < m + 1 → Xs[j].E.id ≠ x) := fun j hj hjk => by
          by_cases ej : j = m
          · subst ej; exact hx
          · exact HA.out j hj (by omega)
        clear HA HC hE HCB
        generalize Xs[m].E.id = y at x0 hx
        have hq := txt_ne hx
        clear hx
        go_wp2
        go_roundw
        case rel => exact ⟨m + 1, by omega, by go_num, hB.out, HN.out⟩
        case measure => simp [intOf]; omega
    · have HR : Hid (¬ ∃ X ∈ Xs, X.E.id = x) := fun ⟨X, hX, q⟩ => by
        obtain ⟨j, hj, rfl⟩ := List.mem_iff_getElem.1 hX
        exact HA.out j hj (by omega) q
      clear HA HC HCB
      go_wp2
      go_ret
      exact ⟨-1, rfl, ⟨fun q => absurd q (by decide), fun q => absurd q HR.out⟩, by omega, by omega, below_then HA0.out hB.out⟩
end Go.Proofs.YtekminpoiokgfaaGreatDoor
