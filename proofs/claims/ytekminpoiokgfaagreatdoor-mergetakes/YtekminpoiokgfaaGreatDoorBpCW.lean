/- The document's With: where an event is put in. -/
import Derived.Test.YtekminpoiokgfaaGreatDoorBpBW
import Derived.Sort.Walk0
namespace Go.Proofs.YtekminpoiokgfaaGreatDoor
open Go Go.RowKit Go.Maps Cal
attribute [local go_sem] Oper.semAt_some

/-- does X's ID stand ahead of Y's? -/
def EX.lt (X Y : EX) : Bool := Op.bytesLess X.E.id.toList Y.E.id.toList
/-- X put in ahead of the first one that it stands ahead of -/
def ins (X : EX) : List EX → List EX
  | [] => [X]
  | Y :: r => if X.lt Y then X :: Y :: r else Y :: ins X r
/-- what is still to come of it: put says whether X is in -/
def insW (X : EX) (put : Bool) (l : List EX) : List EX := if put then l else ins X l
theorem ins_len (X : EX) : ∀ l, (ins X l).length = l.length + 1
  | [] => rfl
  | Y :: r => by
    unfold ins
    split
    · rfl
    · rw [List.length_cons, ins_len X r]; rfl
theorem ins_mem {X Z : EX} : ∀ {l : List EX}, Z ∈ ins X l ↔ Z = X ∨ Z ∈ l
  | [] => by simp [ins]
  | Y :: r => by
    unfold ins
    split
    · simp
    · rw [List.mem_cons, ins_mem, List.mem_cons]
      constructor
      · rintro (h | h | h)
        · exact .inr (.inl h)
        · exact .inl h
        · exact .inr (.inr h)
      · rintro (h | h | h)
        · exact .inr (.inl h)
        · exact .inl h
        · exact .inr (.inr h)
theorem insW_step {X Y : EX} {put g : Bool} {L : List EX} (hg : g = (!put && X.lt Y)) : insW X put (Y :: L) = (if g then [X] else []) ++ Y :: insW X (put || g) L := by
  subst hg
  cases put with
  | true => simp [insW]
  | false =>
    cases h : X.lt Y <;> simp [insW, ins, h]

theorem EX.one (X : EX) (h : X.ok) : ∀ u ∈ X.cells, u.oneCell' = true := fun u hu => by
  obtain ⟨⟨_, _, _, e1⟩, ⟨_, _, _, e2⟩, ⟨_, _, _, e3⟩⟩ := h
  unfold EX.cells at hu
  rw [e1, e2, e3] at hu
  simp only [List.mem_cons, List.not_mem_nil, or_false] at hu
  rcases hu with rfl | rfl | rfl | rfl | rfl | rfl | rfl | rfl | rfl | rfl | rfl <;> rfl
/-- the loop of With: the list that was made, and what is still to come of it -/
def WSt (w2 : World) (bo : Nat) (T R : List EX) (wr : World) : Prop :=
  ∃ vo out, wr.heap[bo]? = some (.cells #[vo] 27 (0, 0)) ∧ MR (bo + 1) wr vo out ∧ out ++ R = T ∧ w2.grownBy wr (some bo)
theorem wst_app {w2 wr w3 : World} {bo gb capb : Nat} {T R out : List EX} {Z : EX} {vo : Value} (hvo : wr.heap[bo]? = some (.cells #[vo] 27 (0, 0))) (hT : out ++ Z :: R = T)
    (h1 : w3.ownsRow (bo + 1) 44 11 (.slice (some ⟨gb, 0, none⟩) (out.length + 1) capb) (out.length + 1) (out.flatMap EX.cells ++ Z.cells)) (h2 : w2.grownBy w3 (some bo)) (h3 : ∀ k, k < bo + 1 → w3.heap[k]? = wr.heap[k]?) :
    WSt w2 bo T R (w3.setCell ⟨bo, 0, none⟩ (.slice (some ⟨gb, 0, none⟩) (out.length + 1) capb)) := by
  refine ⟨_, out ++ [Z], set_block (i := 0) _ ((h3 _ (by omega)).trans hvo), ?_, by rw [← hT]; simp, grown_then h2 (grown_set w3 ⟨bo, 0, none⟩ _)⟩
  refine MR.far (W := w3) ?_ (fun k hk _ => Below.heap_setCell _ _ _ k (by intro q; have q' : k = bo := q; omega))
  show w3.ownsRow _ _ _ _ _ _
  rw [List.length_append, List.flatMap_append, List.flatMap_cons, List.flatMap_nil, List.append_nil]
  exact h1

set_option maxHeartbeats 4000000 in
set_option maxRecDepth 100000 in
theorem with_any (base : Nat) (E : EV) (ra : Option Addr) (rn rc : Nat) (sa : Option Addr) (sn sc : Nat) (ma : Option Addr) (mn mc : Nat) (v : Value) (Xs : List EX) (w : World) (hR : MR base w v Xs) (h8 : Xs.length ≤ 1000) (hok : ∀ X ∈ Xs, X.ok) :
    Calls Tryz.prog 36 #[.agg #[v], ev E (.slice ra rn rc) (.slice sa sn sc) (.slice ma mn mc)] w fun r w' => ∃ v', r = .returned (.agg #[v']) ∧ MR w.heap.size w' v' (ins ⟨E, .slice ra rn rc, .slice sa sn sc, .slice ma mn mc⟩ (Xs.filter fun X => decide (X.E.id ≠ E.id))) ∧ Below w.heap.size w w' := by
  obtain ⟨i0, hi, hz0, hz1, hz2⟩ := info_parts info_event
  obtain ⟨a, cap, rfl, hcap, _⟩ := hR.form
  unfold ev
  have A3 : Below w.heap.size w (((w.alloc (.cells #[.slice a Xs.length cap] 27)).alloc (.cells #[.string E.id, .string E.ti, .int .i64 E.st, .int .i64 E.lg, .string E.f, .int .i64 E.e, .slice ra rn rc, .int .i64 E.c, .int .i64 E.u, .slice sa sn sc, .slice ma mn mc] 44)).alloc (.cells #[.slice none 0 0] 27)) := below_then (below_then (below_alloc _ _) (below_alloc _ _)) (below_alloc _ _)
  have k0 : (((w.alloc (.cells #[.slice a Xs.length cap] 27)).alloc (.cells #[.string E.id, .string E.ti, .int .i64 E.st, .int .i64 E.lg, .string E.f, .int .i64 E.e, .slice ra rn rc, .int .i64 E.c, .int .i64 E.u, .slice sa sn sc, .slice ma mn mc] 44)).alloc (.cells #[.slice none 0 0] 27)).heap[w.heap.size]? = some (.cells #[.slice a Xs.length cap] 27 (0, 0)) := block_alloc _ (block_alloc _ (block_at _ rfl))
  have k1 : (((w.alloc (.cells #[.slice a Xs.length cap] 27)).alloc (.cells #[.string E.id, .string E.ti, .int .i64 E.st, .int .i64 E.lg, .string E.f, .int .i64 E.e, .slice ra rn rc, .int .i64 E.c, .int .i64 E.u, .slice sa sn sc, .slice ma mn mc] 44)).alloc (.cells #[.slice none 0 0] 27)).heap[w.heap.size + 1]? = some (.cells #[.string E.id, .string E.ti, .int .i64 E.st, .int .i64 E.lg, .string E.f, .int .i64 E.e, .slice ra rn rc, .int .i64 E.c, .int .i64 E.u, .slice sa sn sc, .slice ma mn mc] 44 (0, 0)) := block_alloc _ (block_at _ (World.size_alloc _ _))
  have k2 : (((w.alloc (.cells #[.slice a Xs.length cap] 27)).alloc (.cells #[.string E.id, .string E.ti, .int .i64 E.st, .int .i64 E.lg, .string E.f, .int .i64 E.e, .slice ra rn rc, .int .i64 E.c, .int .i64 E.u, .slice sa sn sc, .slice ma mn mc] 44)).alloc (.cells #[.slice none 0 0] 27)).heap[w.heap.size + 2]? = some (.cells #[.slice none 0 0] 27 (0, 0)) := block_at _ (by rw [World.size_alloc, World.size_alloc])
  have sz : (((w.alloc (.cells #[.slice a Xs.length cap] 27)).alloc (.cells #[.string E.id, .string E.ti, .int .i64 E.st, .int .i64 E.lg, .string E.f, .int .i64 E.e, .slice ra rn rc, .int .i64 E.c, .int .i64 E.u, .slice sa sn sc, .slice ma mn mc] 44)).alloc (.cells #[.slice none 0 0] 27)).heap.size = w.heap.size + 3 := by rw [World.size_alloc, World.size_alloc, World.size_alloc]
  have WO : Hid (Calls _ _ _ _ _) := without_any base E.id (.slice a Xs.length cap) Xs _ (hR.far (fun k _ hk => A3.block k hk)) h8 hok
  have hokY : ∀ X ∈ Xs.filter (fun X => decide (X.E.id ≠ E.id)), X.ok := fun X hX => hok X (List.mem_filter.1 hX).1
  have h8Y : (Xs.filter (fun X => decide (X.E.id ≠ E.id))).length ≤ 1000 := Nat.le_trans (List.length_filter_le _ _) h8
  have K0 : Hid (_) := k0
  have K1 : Hid (_) := k1
  have K2 : Hid (_) := k2
  have A0 : Hid (_) := A3
  have SZ : Hid (_) := sz
  have HOKY : Hid (_) := hokY
  obtain ⟨e0, e1, e2, e3, e4, e5, e6, e7, e8, e9, e10⟩ := blk11 k1
  have cB0 := cell_of k0
  clear A3 k0 k1 k2 sz hR hok hokY
  generalize Xs.filter (fun X => decide (X.E.id ≠ E.id)) = Ys at WO HOKY h8Y ⊢
  obtain ⟨X, hX⟩ : ∃ X : EX, X = ⟨E, .slice ra rn rc, .slice sa sn sc, .slice ma mn mc⟩ := ⟨_, rfl⟩
  rw [← hX]
  have HX : Hid (X = ⟨E, .slice ra rn rc, .slice sa sn sc, .slice ma mn mc⟩) := hX
  generalize hT : ins X Ys = T
  have HT : Hid (ins X Ys = T) := hT
  clear hX hT
  go_enter Tryz.func36, Tryz.ntmps36
  generalize hw0 : ((w.alloc (.cells #[.slice a Xs.length cap] 27)).alloc (.cells #[.string E.id, .string E.ti, .int .i64 E.st, .int .i64 E.lg, .string E.f, .int .i64 E.e, .slice ra rn rc, .int .i64 E.c, .int .i64 E.u, .slice sa sn sc, .slice ma mn mc] 44)).alloc (.cells #[.slice none 0 0] 27) = w0 at WO K0 K1 K2 A0 SZ cB0 e0 e1 e2 e3 e4 e5 e6 e7 e8 e9 e10
  go_upto_region 2 with (go_at_call 61; refine Calls.mono WO.out ?_; rintro r w1 ⟨v1, rfl, hm1, hb1⟩; obtain ⟨a1, c1, rfl, hcap1, hc1⟩ := hm1.form)
  have KX1 : w1.heap[w.heap.size + 1]? = some (.cells #[.string E.id, .string E.ti, .int .i64 E.st, .int .i64 E.lg, .string E.f, .int .i64 E.e, .slice ra rn rc, .int .i64 E.c, .int .i64 E.u, .slice sa sn sc, .slice ma mn mc] 44 (0, 0)) := (hb1.block _ (by rw [SZ.out]; omega)).trans K1.out
  have K21 : w1.heap[w.heap.size + 2]? = some (.cells #[.slice none 0 0] 27 (0, 0)) := (hb1.block _ (by rw [SZ.out]; omega)).trans K2.out
  have hs1 : w.heap.size + 3 ≤ w1.heap.size := by rw [← SZ.out]; exact hb1.size
  have B1 : Below w.heap.size w w1 := below_then A0.out hb1
  clear WO K0 K1 K2 A0 SZ cB0 e0 e1 e2 e3 e4 e5 e6 e7 e8 e9 e10 hw0 hb1
  have KX2 : Hid (((w1.alloc (.cells #[.slice a1 Ys.length c1] 27)).alloc (.cells #[.slice none 0 0] 27)).heap[w.heap.size + 1]? = some (.cells #[.string E.id, .string E.ti, .int .i64 E.st, .int .i64 E.lg, .string E.f, .int .i64 E.e, .slice ra rn rc, .int .i64 E.c, .int .i64 E.u, .slice sa sn sc, .slice ma mn mc] 44 (0, 0))) := block_alloc _ (block_alloc _ KX1)
  have K22 : Hid (((w1.alloc (.cells #[.slice a1 Ys.length c1] 27)).alloc (.cells #[.slice none 0 0] 27)).heap[w.heap.size + 2]? = some (.cells #[.slice none 0 0] 27 (0, 0))) := block_alloc _ (block_alloc _ K21)
  have K5 : Hid (((w1.alloc (.cells #[.slice a1 Ys.length c1] 27)).alloc (.cells #[.slice none 0 0] 27)).heap[w1.heap.size]? = some (.cells #[.slice a1 Ys.length c1] 27 (0, 0))) := block_alloc _ (block_at _ rfl)
  have K6 : Hid (((w1.alloc (.cells #[.slice a1 Ys.length c1] 27)).alloc (.cells #[.slice none 0 0] 27)).heap[w1.heap.size + 1]? = some (.cells #[.slice none 0 0] 27 (0, 0))) := block_at _ (World.size_alloc _ _)
  have SZ2 : Hid (((w1.alloc (.cells #[.slice a1 Ys.length c1] 27)).alloc (.cells #[.slice none 0 0] 27)).heap.size = w1.heap.size + 2) := by show _ = _; rw [World.size_alloc, World.size_alloc]
  have B2 : Hid (Below w.heap.size w ((w1.alloc (.cells #[.slice a1 Ys.length c1] 27)).alloc (.cells #[.slice none 0 0] 27))) := below_then B1 (below_then (below_alloc _ _) (below_alloc _ _))
  have HC2 : Hid (∀ (j : Nat) (hj : j < Ys.length), ∃ b, a1 = some ⟨b, 0, none⟩ ∧ b < w1.heap.size ∧ EvAt ((w1.alloc (.cells #[.slice a1 Ys.length c1] 27)).alloc (.cells #[.slice none 0 0] 27)) b (j * 11) Ys[j].E Ys[j].sl Ys[j].skv Ys[j].mvv) := fun j hj => by
    obtain ⟨b, q1, q2⟩ := hc1 j hj
    exact ⟨b, q1, lt_of_cell q2.c0, q2.step (below_then (below_alloc _ _) (below_alloc _ _))⟩
  clear KX1 K21 hc1 hm1 B1
  go_wp2
  generalize hw2 : (w1.alloc (.cells #[.slice a1 Ys.length c1] 27)).alloc (.cells #[.slice none 0 0] 27) = w2 at KX2 K22 K5 K6 SZ2 B2 HC2 ⊢
  go_loopw [7, 8] (fun p i wr => ∃ (m : Nat) (put : Bool), m ≤ Ys.length ∧ p = .bool put ∧ i = .int .i64 m ∧ Hid (WSt w2 (w1.heap.size + 1) T (insW X put (Ys.drop m)) wr)) (fun _ i _ => Ys.length - (intOf i).toNat)
  case atStart => exact ⟨0, false, Nat.zero_le _, rfl, rfl, _, [], K6.out, MR.nil _ _, by rw [← HT.out]; rfl, grown_below (Below.refl _ _) _⟩
  case round =>
    obtain ⟨m, put, hm, rfl, rfl, HV⟩ := hrel
    obtain ⟨vo, out, hvo, hmr, hap, hgr⟩ := HV.out
    have KR5 : wr.heap[w1.heap.size]? = some (.cells #[.slice a1 Ys.length c1] 27 (0, 0)) := (hgr.block _ (by have := SZ2.out; omega) (fun q => by have := Option.some.inj q; omega)).trans K5.out
    have KRX : wr.heap[w.heap.size + 1]? = some (.cells #[.string E.id, .string E.ti, .int .i64 E.st, .int .i64 E.lg, .string E.f, .int .i64 E.e, .slice ra rn rc, .int .i64 E.c, .int .i64 E.u, .slice sa sn sc, .slice ma mn mc] 44 (0, 0)) := (hgr.block _ (by have := SZ2.out; omega) (fun q => by have := Option.some.inj q; omega)).trans KX2.out
    have cB5 := cell_of KR5
    have hsw : w1.heap.size + 2 ≤ wr.heap.size := by rw [← SZ2.out]; exact hgr.size
    have hlT : out.length ≤ 1000 + 1 := by
      have h1 : (out ++ insW X put (Ys.drop m)).length = T.length := by rw [hap]
      have h2 : T.length = Ys.length + 1 := by rw [← HT.out, ins_len]
      rw [List.length_append] at h1
      omega
    by_cases hlt : m < Ys.length
    · obtain ⟨b, rfl, hbw, hE⟩ := HC2.out m hlt
      obtain ⟨⟨rb, rbn, rbc, e1⟩, ⟨sb, sbn, sbc, e2⟩, ⟨mb, mbn, mbc, e3⟩⟩ := HOKY.out Ys[m] (List.getElem_mem hlt)
      have hE2 : EvAt wr b (m * 11) Ys[m].E (.slice rb rbn rbc) (.slice sb sbn sbc) (.slice mb mbn mbc) := by
        rw [e1, e2, e3] at hE
        have Fc : ∀ {o : Nat} {u : Value}, w2.cell? ⟨b, o, none⟩ = some u → wr.cell? ⟨b, o, none⟩ = some u := fun h => grown_cell hgr h (by omega)
        exact ⟨Fc hE.c0, Fc hE.c1, Fc hE.c2, Fc hE.c3, Fc hE.c4, Fc hE.c5, Fc hE.c6, Fc hE.c7, Fc hE.c8, Fc hE.c9, Fc hE.c10⟩
      have hdr : Ys.drop m = Ys[m] :: Ys.drop (m + 1) := List.drop_eq_getElem_cons hlt
      obtain ⟨g, hg⟩ : ∃ g : Bool, g = (!put && X.lt Ys[m]) := ⟨_, rfl⟩
      have hap2 := hap
      rw [hdr, insW_step hg] at hap2
      have HE : Hid (EvAt w2 b (m * 11) Ys[m].E (.slice rb rbn rbc) (.slice sb sbn sbc) (.slice mb mbn mbc)) := by rw [← e1, ← e2, ← e3]; exact hE
      have HY : Hid (Ys[m] = ⟨Ys[m].E, .slice rb rbn rbc, .slice sb sbn sbc, .slice mb mbn mbc⟩) := by
        show Ys[m] = _
        rw [← e1, ← e2, ← e3]
      clear HV hap hdr e1 e2 e3 hE
      have HG : Hid (g = (!put && X.lt Ys[m])) := hg
      clear hg
      generalize hYm : Ys[m] = Y at hE2 HE HY HG hap2
      generalize hFm : Y.E = F at hE2 HE HY
      have HF : Hid (Y.E = F) := hFm
      clear hYm hFm
      generalize hRm : Ys.drop (m + 1) = R at hap2
      have HR : Hid (Ys.drop (m + 1) = R) := hRm
      clear hRm
      obtain ⟨y0, y1, y2, y3, y4, y5, y6, y7, y8, y9, y10⟩ := hE2
      obtain ⟨e0, e1, e2, e3, e4, e5, e6, e7, e8, e9, e10⟩ := blk11 KRX
      have HVO : Hid (_) := hvo
      have HMR : Hid (_) := hmr
      have HAP : Hid (_) := hap2
      have HGR : Hid (_) := hgr
      have HKX : Hid (_) := KRX
      have HK5 : Hid (_) := KR5
      clear hvo hmr hap2 hgr KRX KR5
      have HB : Hid (g = (!put && Op.bytesLess E.id.toList F.id.toList)) := by
        show g = _
        rw [HG.out, HX.out, ← HF.out]; rfl
      go_upto_region 7 with fail
      go_cut [33] (fun v wx => v = .bool g ∧ Hid (Below wr.heap.size wr wx))
      case first =>
        cases put with
        | true =>
          have hq := HB.out
          simp only [Bool.not_true, Bool.false_and] at hq
          have HQ : Hid (g = false) := hq
          clear hq HB
          go_quiet (fail)
          go_wp2
          go_meet
          case rel => exact ⟨by rw [HQ.out], drewN_below _ _⟩
        | false =>
          have hq := HB.out
          simp only [Bool.not_false, Bool.true_and] at hq
          have HQ : Hid (g = Op.bytesLess E.id.toList F.id.toList) := hq
          clear hq HB
          go_quiet (fail)
          go_wp2
          go_meet
          case rel => exact ⟨by rw [HQ.out], drewN_below _ _⟩
      case rest =>
        obtain ⟨rfl, HBc⟩ := hcut
        have KXc : wc.heap[w.heap.size + 1]? = some (.cells #[.string E.id, .string E.ti, .int .i64 E.st, .int .i64 E.lg, .string E.f, .int .i64 E.e, .slice ra rn rc, .int .i64 E.c, .int .i64 E.u, .slice sa sn sc, .slice ma mn mc] 44 (0, 0)) := (HBc.out.block _ (by omega)).trans HKX.out
        have HK5c : Hid (wc.heap[w1.heap.size]? = _) := (HBc.out.block _ (by omega)).trans HK5.out
        have hvoc : wc.heap[w1.heap.size + 1]? = some (.cells #[vo] 27 (0, 0)) := (HBc.out.block _ (by omega)).trans HVO.out
        have hmrc : MR (w1.heap.size + 1 + 1) wc vo out := MR.far HMR.out (fun k _ hk => HBc.out.block k hk)
        have hgrc : w2.grownBy wc (some (w1.heap.size + 1)) := grown_then HGR.out (grown_below HBc.out _)
        have hswc : w1.heap.size + 2 ≤ wc.heap.size := Nat.le_trans hsw HBc.out.size
        have HYC : Hid (EvAt wc b (m * 11) F (.slice rb rbn rbc) (.slice sb sbn sbc) (.slice mb mbn mbc)) := EvAt.step ⟨y0, y1, y2, y3, y4, y5, y6, y7, y8, y9, y10⟩ HBc.out
        clear y0 y1 y2 y3 y4 y5 y6 y7 y8 y9 y10 e0 e1 e2 e3 e4 e5 e6 e7 e8 e9 e10 cB5 HKX HK5 HVO HMR HGR hsw HB
        go_upto_if 33 with fail
        go_cut [7] (fun q wx => q = .bool (put || g) ∧ Hid (WSt w2 (w1.heap.size + 1) T (Y :: insW X (put || g) R) wx))
        case first =>
          cases g with
          | false =>
            have HST : Hid (WSt w2 (w1.heap.size + 1) T (Y :: insW X put R) wc) := ⟨vo, out, hvoc, hmrc, by have := HAP.out; simpa using this, hgrc⟩
            clear hvoc hmrc hgrc KXc
            go_wp2
            go_meet
            case rel => exact ⟨by rw [Bool.or_false], by rw [Bool.or_false]; exact HST.out⟩
          | true =>
            obtain ⟨oa, oc, rfl, _, _⟩ := hmrc.form
            have HAP2 : Hid (out ++ X :: (Y :: insW X (put || true) R) = T) := by show _ = T; have := HAP.out; simpa using this
            have HVO : Hid (_) := hvoc
            have HGR : Hid (_) := hgrc
            have hT1 : out.length ≤ 1001 := hlT
            have HFR : Hid (∀ k, k < w1.heap.size + 1 + 1 → (Value.slice oa out.length oc).ownBlock ≠ some k) := fun k hk => hmrc.own k hk
            have HOWN : Hid (∀ W, Below wc.heap.size wc W → W.ownsRow (w1.heap.size + 1 + 1) 44 11 (.slice oa out.length oc) out.length (out.flatMap EX.cells)) := fun W hW => hmrc.far (fun k _ hk => hW.block k hk)
            have HONE : Hid (∀ u ∈ ([.string E.id, .string E.ti, .int .i64 E.st, .int .i64 E.lg, .string E.f, .int .i64 E.e, .slice ra rn rc, .int .i64 E.c, .int .i64 E.u, .slice sa sn sc, .slice ma mn mc] : List Value), u.oneCell' = true) := fun u hu => by
              simp only [List.mem_cons, List.not_mem_nil, or_false] at hu
              rcases hu with rfl | rfl | rfl | rfl | rfl | rfl | rfl | rfl | rfl | rfl | rfl <;> rfl
            have HMAX : Hid (out.length + 1 ≤ maxLen) := by show out.length + 1 ≤ maxLen; unfold maxLen; omega
            have HBY : Hid ((out.length + 1) * 160 ≤ 140737488355328) := by show (out.length + 1) * 160 ≤ _; omega
            have cV := cell_of hvoc
            obtain ⟨e0, e1, e2, e3, e4, e5, e6, e7, e8, e9, e10⟩ := blk11 KXc
            clear hvoc hmrc hgrc
            go_wp2_with (at_builtin; refine wpList_append_lies _ rfl _ _ 22 rfl (w1.heap.size + 1 + 1) 44 i0 zV 11 160 Tryz.underlying22 hi hz0 hz1 hz2 rfl (by decide) (.slice oa out.length oc) out.length (out.flatMap EX.cells) rfl (HOWN.out _ (below_alloc _ _)) ⟨wc.heap.size, 0, none⟩ 1 1 [.string E.id, .string E.ti, .int .i64 E.st, .int .i64 E.lg, .string E.f, .int .i64 E.e, .slice ra rn rc, .int .i64 E.c, .int .i64 E.u, .slice sa sn sc, .slice ma mn mc] rfl rfl (World.news_of_block (cs := #[.string E.id, .string E.ti, .int .i64 E.st, .int .i64 E.lg, .string E.f, .int .i64 E.e, .slice ra rn rc, .int .i64 E.c, .int .i64 E.u, .slice sa sn sc, .slice ma mn mc]) (block_at _ rfl)) HONE.out (by decide) HMAX.out HBY.out (by rw [World.size_alloc]; omega) _ rfl ?_; intro gb capb w3 hown hgrow hat hlt3; have HG8 : Hid (_) := grown_more HGR.out SZ2.out (below_alloc _ _) hgrow HFR.out; have hW8 := HG8.out.2; have cw3 : w3.cell? ⟨w1.heap.size + 1, 0, none⟩ = some (.slice oa out.length oc) := cell_of ((hW8 _ (by omega)).trans HVO.out); have fw3 : w3.frozen? ⟨w1.heap.size + 1, 0, none⟩ = false := blk11_frozen ((hW8 _ (by omega)).trans HVO.out) 0)
            have HOW3 : Hid (w3.ownsRow (w1.heap.size + 1 + 1) 44 11 (.slice (some ⟨gb, 0, none⟩) (out.length + 1) capb) (out.length + 1) (out.flatMap EX.cells ++ X.cells)) := by rw [HX.out]; exact hown
            have HST : Hid (WSt w2 (w1.heap.size + 1) T (Y :: insW X (put || true) R) (w3.setCell ⟨w1.heap.size + 1, 0, none⟩ (.slice (some ⟨gb, 0, none⟩) (out.length + 1) capb))) := wst_app HVO.out HAP2.out HOW3.out HG8.out.1 (fun k hk => HG8.out.2 k (by omega))
            clear hown hgrow hat hlt3 HG8 hW8 cw3 fw3
            go_meet
            case rel => exact ⟨by rw [Bool.or_true], HST.out⟩
        case rest =>
          clear HYC HK5c KXc hvoc hmrc hgrc hswc HBc HAP
          obtain ⟨rfl, HST⟩ := hcut
          obtain ⟨vo2, L, hvo2, hmr2, hap2, hgr2⟩ := HST.out
          have K5c : wc.heap[w1.heap.size]? = some (.cells #[.slice (some ⟨b, 0, none⟩) Ys.length c1] 27 (0, 0)) := (hgr2.block _ (by have := SZ2.out; omega) (fun q => by have := Option.some.inj q; omega)).trans K5.out
          have hYc : EvAt wc b (m * 11) F (.slice rb rbn rbc) (.slice sb sbn sbc) (.slice mb mbn mbc) := by
            have hq := HE.out
            have Fc : ∀ {o : Nat} {u : Value}, w2.cell? ⟨b, o, none⟩ = some u → wc.cell? ⟨b, o, none⟩ = some u := fun h => grown_cell hgr2 h (by omega)
            exact ⟨Fc hq.c0, Fc hq.c1, Fc hq.c2, Fc hq.c3, Fc hq.c4, Fc hq.c5, Fc hq.c6, Fc hq.c7, Fc hq.c8, Fc hq.c9, Fc hq.c10⟩
          have hsw2 : w1.heap.size + 2 ≤ wc.heap.size := by rw [← SZ2.out]; exact hgr2.size
          have hLl : L.length ≤ 1001 := by
            have h1 : (L ++ Y :: insW X (put || g) R).length = T.length := by rw [hap2]
            have h2 : T.length = Ys.length + 1 := by rw [← HT.out, ins_len]
            rw [List.length_append] at h1
            omega
          obtain ⟨oa, oc, rfl, _, _⟩ := hmr2.form
          have HVO : Hid (_) := hvo2
          have HAP : Hid (_) := hap2
          have HGR : Hid (_) := hgr2
          have cB5 := cell_of K5c
          have cB2 : wc.cell? ⟨w1.heap.size + 1, 0, none⟩ = some (.slice oa L.length oc) := cell_of hvo2
          have cB3 : (wc.alloc (.cells #[.string F.id, .string F.ti, .int .i64 F.st, .int .i64 F.lg, .string F.f, .int .i64 F.e, .slice rb rbn rbc, .int .i64 F.c, .int .i64 F.u, .slice sb sbn sbc, .slice mb mbn mbc] 44)).cell? ⟨w1.heap.size + 1, 0, none⟩ = some (.slice oa L.length oc) := cell_alloc _ cB2
          have HOWN : Hid (∀ W, Below wc.heap.size wc W → W.ownsRow (w1.heap.size + 1 + 1) 44 11 (.slice oa L.length oc) L.length (L.flatMap EX.cells)) := fun W hW => hmr2.far (fun k _ hk => hW.block k hk)
          have HONE : Hid (∀ u ∈ ([.string F.id, .string F.ti, .int .i64 F.st, .int .i64 F.lg, .string F.f, .int .i64 F.e, .slice rb rbn rbc, .int .i64 F.c, .int .i64 F.u, .slice sb sbn sbc, .slice mb mbn mbc] : List Value), u.oneCell' = true) := fun u hu => by
            simp only [List.mem_cons, List.not_mem_nil, or_false] at hu
            rcases hu with rfl | rfl | rfl | rfl | rfl | rfl | rfl | rfl | rfl | rfl | rfl <;> rfl
          have HMAX : Hid (L.length + 1 ≤ maxLen) := by show L.length + 1 ≤ maxLen; unfold maxLen; omega
          have HBY : Hid ((L.length + 1) * 160 ≤ 140737488355328) := by show (L.length + 1) * 160 ≤ _; omega
          have HFR : Hid (∀ k, k < w1.heap.size + 1 + 1 → (Value.slice oa L.length oc).ownBlock ≠ some k) := fun k hk => hmr2.own k hk
          have HYCL : Hid (Y.cells = [.string F.id, .string F.ti, .int .i64 F.st, .int .i64 F.lg, .string F.f, .int .i64 F.e, .slice rb rbn rbc, .int .i64 F.c, .int .i64 F.u, .slice sb sbn sbc, .slice mb mbn mbc]) := by
            show Y.cells = _
            rw [HY.out]; rfl
          have REL : Hid (∀ (w3 : World) (gb capb : Nat), w3.ownsRow (w1.heap.size + 1 + 1) 44 11 (.slice (some ⟨gb, 0, none⟩) (L.length + 1) capb) (L.length + 1) (L.flatMap EX.cells ++ [.string F.id, .string F.ti, .int .i64 F.st, .int .i64 F.lg, .string F.f, .int .i64 F.e, .slice rb rbn rbc, .int .i64 F.c, .int .i64 F.u, .slice sb sbn sbc, .slice mb mbn mbc]) → w2.grownBy w3 (some (w1.heap.size + 1)) → (∀ k, k < w1.heap.size + 1 + 1 → w3.heap[k]? = wc.heap[k]?) →
              WSt w2 (w1.heap.size + 1) T (insW X (put || g) (Ys.drop (m + 1))) (w3.setCell ⟨w1.heap.size + 1, 0, none⟩ (.slice (some ⟨gb, 0, none⟩) (L.length + 1) capb))) := fun w3 gb capb h1 h2 h3 => by
            rw [HR.out]
            exact wst_app HVO.out HAP.out (by rw [HYCL.out]; exact h1) h2 h3
          obtain ⟨x0, x1, x2, x3, x4, x5, x6, x7, x8, x9, x10⟩ := hYc
          clear hvo2 hmr2 hap2 hgr2 K5c HST HY HE HG
          generalize (put || g) = pg at REL HAP ⊢
          go_wp2_with fail
          go_region_law
            ((refine step_append_lies _ (by rfl) _ _ 22 (by rfl) (w1.heap.size + 1 + 1) 44 i0 zV 11 160 Tryz.underlying22 hi hz0 hz1 hz2 rfl (by decide) (.slice oa L.length oc) L.length (L.flatMap EX.cells) (by rfl) (HOWN.out _ (by (first | with_reducible exact below_then (drew_below _) (below_alloc _ _) | with_reducible exact below_then (below_alloc _ _) (drew_below _)))) ⟨wc.heap.size, 0, none⟩ 1 1 [.string F.id, .string F.ti, .int .i64 F.st, .int .i64 F.lg, .string F.f, .int .i64 F.e, .slice rb rbn rbc, .int .i64 F.c, .int .i64 F.u, .slice sb sbn sbc, .slice mb mbn mbc] (by rfl) rfl (World.news_of_block (cs := #[.string F.id, .string F.ti, .int .i64 F.st, .int .i64 F.lg, .string F.f, .int .i64 F.e, .slice rb rbn rbc, .int .i64 F.c, .int .i64 F.u, .slice sb sbn sbc, .slice mb mbn mbc]) (by first | exact block_at _ rfl | exact (block_at (W := wc) _ rfl))) HONE.out (by decide) HMAX.out HBY.out (Nat.le_trans hsw2 (Below.size (B := wc.heap.size) (w := wc) (by (first | with_reducible exact below_then (drew_below _) (below_alloc _ _) | with_reducible exact below_then (below_alloc _ _) (drew_below _))))) _ rfl ?_; intro gb capb w3 hown hgrow hat hlt3; have HG8 : Hid (_) := grown_more HGR.out SZ2.out (by (first | with_reducible exact below_then (drew_below _) (below_alloc _ _) | with_reducible exact below_then (below_alloc _ _) (drew_below _))) hgrow HFR.out; have hW8 := HG8.out.2; have cw3 : w3.cell? ⟨w1.heap.size + 1, 0, none⟩ = some (.slice oa L.length oc) := cell_of ((hW8 _ (by omega)).trans HVO.out); have fw3 : w3.frozen? ⟨w1.heap.size + 1, 0, none⟩ = false := blk11_frozen ((hW8 _ (by omega)).trans HVO.out) 0))
          all_goals
            have H3 : Hid (_) := REL.out w3 gb capb hown HG8.out.1 (fun k hk => HG8.out.2 k (by omega))
            clear hown hgrow hat hlt3 HG8 hW8 cw3 fw3
            go_wp2
            go_roundw <;> first | exact ⟨m + 1, pg, by omega, rfl, by go_num, H3.out⟩ | (simp [intOf]; omega)
    · have hdr : Ys.drop m = [] := List.drop_eq_nil_iff.2 (by omega)
      rw [hdr] at hap
      clear HV HC2 HOKY hdr
      have FIN : Hid (∀ W, WSt w2 (w1.heap.size + 1) T [] W → ∃ oa oc, W.cell? ⟨w1.heap.size + 1, 0, none⟩ = some (.slice oa T.length oc) ∧ W.cell? ⟨w.heap.size + 1 + 1, 0, none⟩ = some (.slice none 0 0) ∧ W.frozen? ⟨w.heap.size + 1 + 1, 0, none⟩ = false ∧ (W.setCell ⟨w.heap.size + 1 + 1, 0, none⟩ (.slice oa T.length oc)).cell? ⟨w.heap.size + 1 + 1, 0, none⟩ = some (.slice oa T.length oc) ∧ MR w.heap.size (W.setCell ⟨w.heap.size + 1 + 1, 0, none⟩ (.slice oa T.length oc)) (.slice oa T.length oc) T ∧ Below w.heap.size w (W.setCell ⟨w.heap.size + 1 + 1, 0, none⟩ (.slice oa T.length oc))) := fun W hW => by
        obtain ⟨vo, out, hvo, hmr, hap, hgr⟩ := hW
        rw [List.append_nil] at hap
        rw [hap] at hmr
        obtain ⟨oa, oc, rfl, _, _⟩ := hmr.form
        have k2 : W.heap[w.heap.size + 1 + 1]? = some (.cells #[.slice none 0 0] 27 (0, 0)) := (hgr.block _ (by have := SZ2.out; omega) (fun q => by have := Option.some.inj q; omega)).trans K22.out
        have g1 := grown_set W ⟨w.heap.size + 1 + 1, 0, none⟩ (.slice oa T.length oc)
        have hs := SZ2.out
        have hs1' := hgr.size
        refine ⟨oa, oc, cell_of hvo, cell_of k2, blk11_frozen k2 0, cell_of (set_block (i := 0) _ k2), own_base (MR.far hmr (fun k hk _ => Below.heap_setCell _ _ _ k (by intro q; have q' : k = w.heap.size + 1 + 1 := q; omega))) (by omega), ?_⟩
        exact ⟨g1.os.trans (hgr.os.trans B2.out.os), g1.tape.trans (hgr.tape.trans B2.out.tape), g1.output.trans (hgr.output.trans B2.out.output), by have := g1.size; have := B2.out.size; omega, fun k hk => (g1.block k (by omega) (fun q => by have : k = w.heap.size + 1 + 1 := Option.some.inj q; omega)).trans ((hgr.block k (by omega) (fun q => by have : k = w1.heap.size + 1 := Option.some.inj q; omega)).trans (B2.out.block k hk))⟩
      go_upto_if 51 with fail
      go_cut [] (fun wx => Hid (WSt w2 (w1.heap.size + 1) T [] wx))
      case first =>
        cases put with
        | true =>
          have HST : Hid (WSt w2 (w1.heap.size + 1) T [] wr) := ⟨vo, out, hvo, hmr, hap, hgr⟩
          clear hvo hmr hgr KRX KR5 hap
          go_wp2
          go_meet
          case rel => exact HST.out
        | false =>
          obtain ⟨oa, oc, rfl, _, _⟩ := hmr.form
          have HAP2 : Hid (out ++ X :: [] = T) := hap
          have HVO : Hid (_) := hvo
          have HGR : Hid (_) := hgr
          have HFR : Hid (∀ k, k < w1.heap.size + 1 + 1 → (Value.slice oa out.length oc).ownBlock ≠ some k) := fun k hk => hmr.own k hk
          have HOWN : Hid (∀ W, Below wr.heap.size wr W → W.ownsRow (w1.heap.size + 1 + 1) 44 11 (.slice oa out.length oc) out.length (out.flatMap EX.cells)) := fun W hW => hmr.far (fun k _ hk => hW.block k hk)
          have HONE : Hid (∀ u ∈ ([.string E.id, .string E.ti, .int .i64 E.st, .int .i64 E.lg, .string E.f, .int .i64 E.e, .slice ra rn rc, .int .i64 E.c, .int .i64 E.u, .slice sa sn sc, .slice ma mn mc] : List Value), u.oneCell' = true) := fun u hu => by
            simp only [List.mem_cons, List.not_mem_nil, or_false] at hu
            rcases hu with rfl | rfl | rfl | rfl | rfl | rfl | rfl | rfl | rfl | rfl | rfl <;> rfl
          have HMAX : Hid (out.length + 1 ≤ maxLen) := by show out.length + 1 ≤ maxLen; unfold maxLen; omega
          have HBY : Hid ((out.length + 1) * 160 ≤ 140737488355328) := by show (out.length + 1) * 160 ≤ _; omega
          have cV := cell_of hvo
          obtain ⟨e0, e1, e2, e3, e4, e5, e6, e7, e8, e9, e10⟩ := blk11 KRX
          clear hvo hmr hgr hap
          go_wp2_with (at_builtin; refine wpList_append_lies _ rfl _ _ 22 rfl (w1.heap.size + 1 + 1) 44 i0 zV 11 160 Tryz.underlying22 hi hz0 hz1 hz2 rfl (by decide) (.slice oa out.length oc) out.length (out.flatMap EX.cells) rfl (HOWN.out _ (below_alloc _ _)) ⟨wr.heap.size, 0, none⟩ 1 1 [.string E.id, .string E.ti, .int .i64 E.st, .int .i64 E.lg, .string E.f, .int .i64 E.e, .slice ra rn rc, .int .i64 E.c, .int .i64 E.u, .slice sa sn sc, .slice ma mn mc] rfl rfl (World.news_of_block (cs := #[.string E.id, .string E.ti, .int .i64 E.st, .int .i64 E.lg, .string E.f, .int .i64 E.e, .slice ra rn rc, .int .i64 E.c, .int .i64 E.u, .slice sa sn sc, .slice ma mn mc]) (block_at _ rfl)) HONE.out (by decide) HMAX.out HBY.out (by rw [World.size_alloc]; omega) _ rfl ?_; intro gb capb w3 hown hgrow hat hlt3; have HG8 : Hid (_) := grown_more HGR.out SZ2.out (below_alloc _ _) hgrow HFR.out; have hW8 := HG8.out.2; have cw3 : w3.cell? ⟨w1.heap.size + 1, 0, none⟩ = some (.slice oa out.length oc) := cell_of ((hW8 _ (by omega)).trans HVO.out); have fw3 : w3.frozen? ⟨w1.heap.size + 1, 0, none⟩ = false := blk11_frozen ((hW8 _ (by omega)).trans HVO.out) 0)
          have HOW3 : Hid (w3.ownsRow (w1.heap.size + 1 + 1) 44 11 (.slice (some ⟨gb, 0, none⟩) (out.length + 1) capb) (out.length + 1) (out.flatMap EX.cells ++ X.cells)) := by rw [HX.out]; exact hown
          have HST : Hid (WSt w2 (w1.heap.size + 1) T [] (w3.setCell ⟨w1.heap.size + 1, 0, none⟩ (.slice (some ⟨gb, 0, none⟩) (out.length + 1) capb))) := wst_app HVO.out HAP2.out HOW3.out HG8.out.1 (fun k hk => HG8.out.2 k (by omega))
          clear hown hgrow hat hlt3 HG8 hW8 cw3 fw3
          go_meet
          case rel => exact HST.out
      case rest =>
        clear hvo hmr hgr hap KRX KR5 cB5
        obtain ⟨oa, oc, c1', c2', f2', c3', hM, hBl⟩ := FIN.out wc hcut.out
        have HM : Hid (MR w.heap.size (wc.setCell ⟨w.heap.size + 1 + 1, 0, none⟩ (.slice oa T.length oc)) (.slice oa T.length oc) T) := hM
        have HBL : Hid (_) := hBl
        clear hM hBl FIN
        generalize T.length = tl at c1' c2' f2' c3' HM HBL
        go_wp2
        refine bodyPost_ret (v := .agg #[.slice oa tl oc]) (by simp [results, Tryz.f36, go_sem, c3']) rfl ⟨_, rfl, HM.out, HBL.out⟩
end Go.Proofs.YtekminpoiokgfaaGreatDoor
