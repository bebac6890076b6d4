/- Package book's Text of no calendar; package commit's Add of a first commit, and Get. -/
import Derived.Test.YtckdjamdpellaaaGreatDoorCmG
import Derived.Test.YtckdjamdpellaaaGreatDoorIter
import Derived.Test.YtckdjamdpellaaaGreatDoorShelf2
import Derived.Shelf.Strings.BuilderK
namespace Go.Proofs.YtckdjamdpellaaaGreatDoor
open Go Go.RowKit Go.Maps Go.Shelf Go.Sort Cal
attribute [local go_sem] Oper.semAt_some

theorem ballC_nil (w : World) : Calls Tryz.prog 44 #[.pointer none] w fun r w' => r = .returned (.map none) ∧ w' = w := by
  go_enter Tryz.func44, Tryz.ntmps44
  go_wp2
  go_ret
  exact ⟨rfl, rfl⟩
set_option maxHeartbeats 1000000 in
theorem bidsC_nil (w : World) : Calls Tryz.prog 45 #[.pointer none] w fun r w' => ∃ a c, r = .returned (.slice a 0 c) ∧ Below w.heap.size w w' := by
  have AL : Hid (Calls _ _ _ _ _) := ballC_nil w
  have SK := Tryz.slices_Sorted_keys_nil_64_65 w
  have HK : Hid (CallsIn _ _ _ _ _ _ _) := SK
  clear SK
  refine (callsIn_wide (n := 6)).1 ?_
  have hfK : Fence.wide.fn 65 := trivial
  have hfS : Fence.wide.fn 64 := trivial
  have hfA : Fence.wide.fn 44 := trivial
  refine callsIn_of_wp Tryz.func45 rfl trivial ?_ rfl
  simp only [Tryz.ntmps45, List.size_toArray, List.length_cons, List.length_nil, Nat.reduceAdd, Nat.reduceSub, Array.replicate_succ, Array.replicate_zero, List.push_toArray, List.append_toArray, List.nil_append, List.cons_append]
  gi_wp2_with (first
    | (gi_at_call 44; refine (callsIn_wide.2 AL.out).mono ?_; rintro r w' ⟨rfl, rfl⟩)
    | (gi_at_call 65; refine (Tryz.maps_Keys_65 _ _).mono ?_; rintro e w' ⟨rfl, rfl⟩)
    | (gi_at_call 64; refine CallsIn.mono HK.out ?_; rintro e w' ⟨v, ss, rfl, hS, hrow, hnil, hb⟩))
  go_ret
  have h2 : ss = [] := by simpa using hS
  subst h2
  rcases hrow.2 with ⟨rfl, h0⟩ | ⟨g, cap, cur, rfl, _⟩
  · exact ⟨_, _, rfl, below_then (below_alloc _ _) hb⟩
  · exact ⟨_, _, rfl, below_then (below_alloc _ _) hb⟩
theorem builder_stepC {T e : TypeId} {B b : Nat} {l : List Value} {w w' : World} (h : Lib.IsBuilderF T e B b l w) (hb : Below w.heap.size w w') : Lib.IsBuilderF T e B b l w' := by
  have key : ∀ p, Lib.BuilderAtF T e B b p l w → Lib.BuilderAtF T e B b p l w' := fun p ⟨h1, v, h2, h3, h4⟩ => ⟨h1, v, (hb.block _ (Array.getElem?_eq_some_iff.1 h2).1).trans h2, h3.kept (grown_below hb none) (by cases v.ownBlock <;> simp), h4⟩
  exact h.imp (key _) (key _)
theorem bstringC (B b : Nat) (l : List UInt8) (w : World) (h : Lib.IsBuilderF 68 5 B b (Lib.byteCells l) w) (hB : B ≤ w.heap.size) :
    Calls Tryz.prog 33 #[.pointer (some ⟨b, 0, none⟩)] w fun r w' => r = .returned (.string (bs l)) ∧ Below B w w' := by
  refine Calls.mono (Any.Builder_String_any_k { Tryz.lays156 with } Tryz.Builder_Extra_156 B b l w h hB) ?_
  rintro r w' ⟨rfl, h1, h2, h3⟩
  exact ⟨rfl, h2⟩
set_option maxHeartbeats 1000000 in
theorem btextC_nil (w : World) : Calls Tryz.prog 28 #[.pointer none] w fun r w' => r = .returned (.string ⟨#[]⟩) ∧ Below w.heap.size w w' := by
  have AL : Hid (Calls _ _ _ _ _) := ballC_nil w
  have hA := below_alloc w (.cells #[.pointer none, .slice none 0 0] 68)
  have ID : Hid (Calls _ _ _ _ _) := bidsC_nil (w.alloc (.cells #[.pointer none, .slice none 0 0] 68))
  have HBD : Hid (Lib.IsBuilderF 68 5 w.heap.size w.heap.size (Lib.byteCells []) (w.alloc (.cells #[.pointer none, .slice none 0 0] 68))) := Lib.IsBuilderF.of (Lib.fresh_isBuilder _ _ w)
  have HA : Hid (_) := hA
  clear hA
  go_enter Tryz.func28, Tryz.ntmps28
  generalize hw0 : w.alloc (.cells #[.pointer none, .slice none 0 0] 68) = w0 at ID HBD HA
  go_wp2_with (first
    | (go_at_call 44; refine Calls.mono AL.out ?_; rintro r w' ⟨rfl, hq⟩; have hq := hq.symm; subst hq)
    | (go_at_call 45; refine Calls.mono ID.out ?_; rintro r w1 ⟨ia, ic, rfl, hb1⟩))
  have B1 : Hid (Below w.heap.size w w1) := below_then HA.out hb1
  have BS : Hid (Calls _ _ _ _ _) := bstringC w.heap.size w.heap.size [] w1 (builder_stepC HBD.out hb1) B1.out.size
  clear ID HBD hb1
  go_loopw [12] (fun i wr => i = .int .i64 0 ∧ wr = w1) (fun _ _ => 0)
  case atStart => exact ⟨rfl, rfl⟩
  case round =>
    obtain ⟨rfl, rfl⟩ := hrel
    go_wp2_with (go_at_call 33; refine Calls.mono BS.out ?_; rintro r w5 ⟨rfl, hb5⟩)
    go_ret
    exact ⟨rfl, below_trans B1.out hb5⟩

set_option maxHeartbeats 4000000 in
set_option maxRecDepth 100000 in
theorem cmAdd_0 (lo gb pb mb : Nat) (w : World) (ht : Tab w) (h : GraphAt lo w gb pb mb (.slice none 0 0) []) (hpg : pb ≠ gb) :
    Calls Tryz.prog 12 #[.pointer (some ⟨gb, 0, none⟩), .pointer none, .slice none 0 0, .int .i64 5, .string helloB] w fun r w' => r = .returned (.tuple #[.int .i64 1, .nilIface]) ∧ ∃ lo' mq tv, GraphAt lo' w' gb pb mq tv [⟨#[]⟩, bs t0L] ∧ Below pb w w' := by
  have NT : Hid (∀ W, Calls _ _ _ _ _) := fun W => cmNote_any helloB W (by decide) true ⟨fun _ => note0, fun _ => rfl⟩
  have CK : Hid (∀ W, Calls _ _ _ _ _) := fun W => cmChk_nil gb W
  have BT : Hid (∀ W, Calls _ _ _ _ _) := fun W => btextC_nil W
  have PT : Hid (∀ W, Below w.heap.size w W → Calls _ _ _ _ _) := fun W hW => cmPut_0 lo gb pb mb W (ht.step hW) (h.step hW) hpg
  have hpw : pb < w.heap.size := (Array.getElem?_eq_some_iff.1 h.p.blk).1
  unfold helloB at *
  go_enter Tryz.func12, Tryz.ntmps12
  go_wp2_with (first
    | (go_at_call 19; refine Calls.mono (NT.out _) ?_; rintro r w1 ⟨rfl, hb1⟩; have B1 : Hid (Below w.heap.size w w1) := hb1; clear hb1)
    | (go_at_call 26; refine Calls.mono (CK.out _) ?_; rintro r w2 ⟨rfl, hb2⟩; have B2 : Hid (Below w.heap.size w w2) := below_then B1.out hb2; clear hb2)
    | (go_at_call 28; refine Calls.mono (BT.out _) ?_; rintro r w3 ⟨rfl, hb3⟩; have B3 : Hid (Below w.heap.size w w3) := below_then B2.out hb3; clear hb3)
    | (go_at_call 27; refine Calls.mono (PT.out _ B3.out) ?_; rintro r w4 ⟨rfl, lo', mq, tv, hg4, hb4⟩))
  go_ret2
  exact ⟨rfl, _, _, _, hg4, below_trans (below_base B3.out (by omega)) hb4⟩
theorem own0_slice {W : World} {base T : Nat} {v : Value} (h : W.ownsRow base T 1 v 0 []) : ∃ a c, v = .slice a 0 c := by
  rcases h.2 with ⟨rfl, h0⟩ | ⟨g, cap, cur, rfl, _⟩
  · exact ⟨_, _, rfl⟩
  · exact ⟨_, _, rfl⟩
set_option maxHeartbeats 4000000 in
set_option maxRecDepth 100000 in
theorem cmGet_0 (lo gb pb mb : Nat) (tv : Value) (s : Nat → Addr) (w : World) (g : GlobN w) (gp : GlobP s w) (h : GraphAt lo w gb pb mb tv [⟨#[]⟩, bs t0L]) :
    Calls Tryz.prog 13 #[.pointer (some ⟨gb, 0, none⟩), .int .i64 1] w fun r w' => (∃ a c, r = .returned (.tuple #[.agg #[.int .i64 0, .slice a 0 c, .int .i64 5, .string helloB], .nilIface])) ∧ Below w.heap.size w w' := by
  have hA := below_alloc w (.cells #[.int .i64 0, .slice none 0 0, .int .i64 0, .string ⟨#[]⟩] 26)
  have HA : Hid (Below w.heap.size w (w.alloc (.cells #[.int .i64 0, .slice none 0 0, .int .i64 0, .string ⟨#[]⟩] 26))) := hA
  have KR : Hid ((w.alloc (.cells #[.int .i64 0, .slice none 0 0, .int .i64 0, .string ⟨#[]⟩] 26)).heap[w.heap.size]? = some (.cells #[.int .i64 0, .slice none 0 0, .int .i64 0, .string ⟨#[]⟩] 26 (0, 0))) := block_at _ rfl
  have HLT : Hid (w.heap.size < (w.alloc (.cells #[.int .i64 0, .slice none 0 0, .int .i64 0, .string ⟨#[]⟩] 26)).heap.size) := by show _ < _; rw [World.size_alloc]; omega
  have GT : Hid (Calls Tryz.prog 29 #[.pointer (some ⟨pb, 0, none⟩), .int .i64 1] (w.alloc (.cells #[.int .i64 0, .slice none 0 0, .int .i64 0, .string ⟨#[]⟩] 26)) fun r w' => r = .returned (.tuple #[.string (bs t0L), .nilIface]) ∧ w' = (w.alloc (.cells #[.int .i64 0, .slice none 0 0, .int .i64 0, .string ⟨#[]⟩] 26))) := pget_ok lo pb mb tv [⟨#[]⟩, bs t0L] 1 (by decide) _ (h.step hA).p
  have RD : Hid (Calls Tryz.prog 7 #[.string (bs t0L)] (w.alloc (.cells #[.int .i64 0, .slice none 0 0, .int .i64 0, .string ⟨#[]⟩] 26)) fun r w' => Below (w.alloc (.cells #[.int .i64 0, .slice none 0 0, .int .i64 0, .string ⟨#[]⟩] 26)).heap.size (w.alloc (.cells #[.int .i64 0, .slice none 0 0, .int .i64 0, .string ⟨#[]⟩] 26)) w' ∧ ReadIs s t0L (w.alloc (.cells #[.int .i64 0, .slice none 0 0, .int .i64 0, .string ⟨#[]⟩] 26)).heap.size r w') := cmRead_any s (bs t0L) _ (g.step hA) (gp.step hA) (by decide)
  have c0 := blk1_cell (h.step hA).g
  clear hA g gp h
  generalize hw0 : w.alloc (.cells #[.int .i64 0, .slice none 0 0, .int .i64 0, .string ⟨#[]⟩] 26) = w0 at HA KR HLT GT RD c0
  go_enter Tryz.func13, Tryz.ntmps13
  go_upto_region 5 with (first
    | (go_at_call 29; refine Calls.mono GT.out ?_; rintro r w' ⟨rfl, hq⟩; have hq := hq.symm; subst hq)
    | (go_at_call 7; refine Calls.mono RD.out ?_; rintro r w1 ⟨hb1, hR⟩; obtain ⟨v, rfl, hO⟩ := read0 hR; obtain ⟨va, vc, rfl⟩ := own0_slice hO; have HB1 : Hid (_) := hb1; clear hb1 hR hO; unfold helloB at *))
  have KC : Hid ((w1.alloc (.cells #[.int .i64 0, .slice va 0 vc, .int .i64 5, .string ⟨#[104, 101, 108, 108, 111]⟩] 26)).heap[w1.heap.size]? = some (.cells #[.int .i64 0, .slice va 0 vc, .int .i64 5, .string ⟨#[104, 101, 108, 108, 111]⟩] 26 (0, 0))) := block_at _ rfl
  have B2 : Hid (Below w0.heap.size w0 (w1.alloc (.cells #[.int .i64 0, .slice va 0 vc, .int .i64 5, .string ⟨#[104, 101, 108, 108, 111]⟩] 26))) := below_then HB1.out (below_alloc _ _)
  have HQ : Hid (w.heap.size ≠ w1.heap.size) := by have := HLT.out; have := HB1.out.size; show _ ≠ _; omega
  clear HB1 GT RD c0
  generalize w1.alloc (.cells #[.int .i64 0, .slice va 0 vc, .int .i64 5, .string ⟨#[104, 101, 108, 108, 111]⟩] 26) = w2 at KC B2 ⊢
  generalize w1.heap.size = q1 at KC HQ ⊢
  have KR2 : Hid (w2.heap[w.heap.size]? = some (.cells #[.int .i64 0, .slice none 0 0, .int .i64 0, .string ⟨#[]⟩] 26 (0, 0))) := (B2.out.block _ HLT.out).trans KR.out
  have BF2 : Hid (Below w.heap.size w w2) := below_then HA.out B2.out
  obtain ⟨k0, k1, k2, k3⟩ := blkC KC.out
  obtain ⟨z0, z1, z2, z3⟩ := blkC KR2.out
  obtain ⟨f0, f1, f2, f3⟩ := blkC_frozen KR2.out
  have n4 := put4_blkC (.int .i64 0) (.slice va 0 vc) (.int .i64 5) (.string ⟨#[104, 101, 108, 108, 111]⟩) KR2.out
  have g4 := put4_grownC w2 w.heap.size (.int .i64 0) (.slice va 0 vc) (.int .i64 5) (.string ⟨#[104, 101, 108, 108, 111]⟩)
  have HC4 : Hid (_) := blkC n4
  have BZ : Hid (Below w.heap.size w _) := BF2.out.grown g4 BF2.out.size (fun k q => by cases q; exact Nat.le_refl _)
  clear n4 g4
  go_wp2
  obtain ⟨c0, c1, c2, c3⟩ := HC4.out
  refine bodyPost_ret (v := .tuple #[.agg #[.int .i64 0, .slice va 0 vc, .int .i64 5, .string ⟨#[104, 101, 108, 108, 111]⟩], .nilIface]) (by simp [results, Tryz.f13, go_sem, c0, c1, c2, c3]) rfl ⟨⟨va, vc, rfl⟩, BZ.out⟩
set_option maxHeartbeats 4000000 in
set_option maxRecDepth 100000 in
theorem committed_any (s : Nat → Addr) (w : World) (ht : Tab w) (g : GlobN w) (gp : GlobP s w) : Calls Tryz.prog 4 #[] w fun r w' => r = .returned (.bool true) ∧ Below w.heap.size w w' := by
  have NW : Hid (Calls _ _ _ _ _) := cmNew_any w
  have HT : Hid (∀ W, Below w.heap.size w W → Tab W ∧ GlobN W ∧ GlobP s W) := fun W hW => ⟨ht.step hW, g.step hW, gp.step hW⟩
  clear ht g gp
  go_enter Tryz.func4, Tryz.ntmps4
  go_wp2_with (first
    | (go_at_call 11; refine Calls.mono NW.out ?_; rintro r w1 ⟨lo, gb, pb, mb, rfl, hg1, hp1, hm1, hpg, hmg, hb1⟩; have B1 : Hid (Below w.heap.size w w1) := hb1; have AD : Hid (Calls _ _ _ _ _) := cmAdd_0 lo gb pb mb w1 (HT.out _ hb1).1 hg1 (by omega); clear hb1 hg1; unfold helloB at AD)
    | (go_at_call 12; refine Calls.mono AD.out ?_; rintro r w2 ⟨rfl, lo2, mq, tv2, hg2, hb2⟩; have B2 : Hid (Below w.heap.size w w2) := below_trans B1.out (below_base hb2 hp1); have GE : Hid (Calls _ _ _ _ _) := cmGet_0 lo2 gb pb mq tv2 s w2 (HT.out _ B2.out).2.1 (HT.out _ B2.out).2.2 hg2; clear hb2 hg2; unfold helloB at GE)
    | (go_at_call 13; refine Calls.mono GE.out ?_; rintro r w3 ⟨⟨va, vc, rfl⟩, hb3⟩; have B3 : Hid (Below w.heap.size w w3) := below_then B2.out hb3; clear hb3))
  go_ret
  exact ⟨rfl, below_then B3.out (below_alloc _ _)⟩
end Go.Proofs.YtckdjamdpellaaaGreatDoor
