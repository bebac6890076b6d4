/- Contract of rule.Text: a rule that is well has its words, joined by blanks. -/
import Derived.Test.YtfnajhpcbajhfaaGreatDoorRuleT
import Derived.Deep.DeepCutAuto
import Derived.Deep.RegionWith
namespace Go.Proofs.YtfnajhpcbajhfaaGreatDoor
open Go.RowKit Cal

/-- a rule's box -/
def RBx (w : World) (f : ByteArray) (e : Int) (sl : Value) (c u : Int) : World := w.alloc (.cells #[.string f, .int .i64 e, sl, .int .i64 c, .int .i64 u] 24)

set_option maxHeartbeats 1000000 in
set_option maxRecDepth 100000 in
theorem rtext_more (f : ByteArray) (e : Int) (sl : Value) (c u : Int) (ds : List Int) (t : List UInt8) (w : World) (g : GlobR w) (hd : Days w sl ds) (hw : Well (rd f e ds c u)) (ht : UT (rd f e ds c u) t)
    (hne : (f.toList == [111, 110, 99, 101]) = false) :
    Calls Tryz.prog 9 #[rv f e sl c u] w fun r w' => r = .returned (.string (bs (rtext (rd f e ds c u) t))) ∧ Below w.heap.size w w' := by
  have D : Hid (Days w sl ds) := hd
  obtain ⟨a, cap, rfl, h20, hcap, hc⟩ := hd
  obtain ⟨i0, hi, hz0, hz1, hz2⟩ := info_parts info_str
  have G : Hid (GlobR w) := g
  have W : Hid (Well (rd f e ds c u)) := hw
  have U : Hid (UT (rd f e ds c u) t) := ht
  have he : 1 ≤ e ∧ e ≤ 100 := hw.ev
  obtain ⟨he0, he1⟩ := he
  have he0' : 0 ≤ e := by omega
  have he1' : e ≤ 100000 := by omega
  clear hc g hw ht
  unfold rv
  go_enter Tryz.func9, Tryz.ntmps9
  go_upto_region 5 with (go_at_call 7; refine (check_ok f e _ c u ds _ (D.out.step (below_alloc _ _)) W.out).mono ?_; rintro r w1 ⟨rfl, hb1⟩; obtain ⟨x0, x1, x2, x3, x4⟩ := box5 hb1)
  have T1 : Hid (Tab w1.drew) := (G.out.step (below_then (below_alloc _ _) (below_then hb1 (drew_below _)))).tab
  go_cut [3] (fun v wx => TR (RBx w f e (.slice a ds.length cap) c u) wx v [f.data.toList, Lib.itoa e])
  case first =>
    go_region_with (go_at_call 18; refine (itoa_any e _ he0' he1' T1.out).mono ?_; rintro r w2 ⟨rfl, hb2⟩; have y0 := cell_step (w := w1.drew) x0 hb2)
    all_goals
      go_wp2_with fail
      go_meet
      case rel => exact TR.lit (below_then hb1 (below_then (drew_below _) hb2)) f (bs (Lib.itoa e))
  case rest =>
    have hT : Hid (TR (RBx w f e (.slice a ds.length cap) c u) wc u3 [f.data.toList, Lib.itoa e]) := hcut
    clear x0 x1 x2 x3 x4 T1 hb1 hcut
    obtain ⟨x0, x1, x2, x3, x4⟩ := box5 hT.out.below
    go_upto_if 19 with fail
    go_cut [3] (fun v wx => TR (RBx w f e (.slice a ds.length cap) c u) wx v ([f.data.toList, Lib.itoa e] ++ wDays (rd f e ds c u)))
    case first =>
      by_cases h0 : ds = []
      · have hl : ¬ 0 < ds.length := by rw [h0]; simp
        have HE : Hid (wDays (rd f e ds c u) = []) := by unfold wDays; rw [if_pos (show (rd f e ds c u).days = [] from h0)]; trivial
        clear h0
        go_wp2
        go_meet
        case rel => rw [HE.out, List.append_nil]; exact hT.out
      · have hl : 0 < ds.length := List.length_pos_iff.2 h0
        have HE : Hid (wDays (rd f e ds c u) = [Lib.join (ds.map nm) [44]]) := by unfold wDays; rw [if_neg (show ¬ (rd f e ds c u).days = [] from h0)]; trivial
        have DT : Hid (Calls Tryz.prog 19 #[.slice a ds.length cap] wc fun e w' => e = .returned (.string (bs (Lib.join (ds.map nm) [44]))) ∧ Below wc.heap.size wc w') :=
          daysText_any _ ds wc (G.out.step (below_then (below_alloc _ _) hT.out.below)) (D.out.step (below_then (below_alloc _ _) hT.out.below)) h0 W.out.ds
        clear h0
        generalize hjb : bs (Lib.join (ds.map nm) [44]) = jb at DT
        have HJ : Hid (bs (Lib.join (ds.map nm) [44]) = jb) := hjb
        clear hjb
        go_wp2_with (first
          | (go_at_call 19; refine Calls.mono DT.out ?_; rintro r w2 ⟨rfl, hb2⟩)
          | (at_builtin; refine wpList_append_own _ rfl _ _ 45 rfl (RBx w f e (.slice a ds.length cap) c u).heap.size 9 i0 (.string ⟨#[]⟩) 1 16 Tryz.underlying45 hi hz0 hz1 hz2 rfl (by decide) _ _ _ rfl ((hT.out.step hb2).own.alloc _) ⟨w2.heap.size, 0, none⟩ 1 1 [.string jb] rfl rfl ?c1 ?c2 ?c3 ?c4 ?c5 ?_)
          | go_in)
        case c1 =>
          intro j u hj
          match j, hj with
          | 0, hj => simp at hj; subst hj; simp [Addr.add]
        case c2 => intro u hu; simp at hu; subst hu; rfl
        case c3 => unfold maxLen; simp
        case c4 => simp
        case c5 => have := (hT.out.step hb2).below.size; simp; omega
        · intro v' w3 hown' hgrow _
          have HOW : Hid (TR (RBx w f e (.slice a ds.length cap) c u) w3 v' ([f.data.toList, Lib.itoa e] ++ wDays (rd f e ds c u))) := by
            rw [HE.out]
            refine TR.app [Lib.join (ds.map nm) [44]] (hT.out.step hb2) rfl ?_ hown' hgrow
            rw [← HJ.out]; rfl
          clear hown' hgrow
          go_wp2
          go_meet
          case rel => exact HOW.out
    case rest =>
      have HL : Hid (TR (RBx w f e (.slice a ds.length cap) c u) wc u3 ([f.data.toList, Lib.itoa e] ++ wDays (rd f e ds c u))) := hcut
      clear x0 x1 x2 x3 x4 hcut hT
      have hll : ([f.data.toList, Lib.itoa e] ++ wDays (rd f e ds c u)).length ≤ 3 := by unfold wDays; split <;> simp
      generalize hL0 : [f.data.toList, Lib.itoa e] ++ wDays (rd f e ds c u) = L at HL hll
      have HL0 : Hid ([f.data.toList, Lib.itoa e] ++ wDays (rd f e ds c u) = L) := hL0
      clear hL0
      have hT : Hid (TR (RBx w f e (.slice a ds.length cap) c u) wc u3 L) := HL.out
      clear HL
      obtain ⟨x0, x1, x2, x3, x4⟩ := box5 hT.out.below
      have hc0 : 0 ≤ c ∧ c ≤ 1000 := W.out.co
      obtain ⟨hc0, hc1⟩ := hc0
      have hc1' : c ≤ 100000 := by omega
      go_upto_if 28 with fail
      go_cut [3] (fun v wx => TR (RBx w f e (.slice a ds.length cap) c u) wx v (L ++ wCount (rd f e ds c u)))
      case first =>
        by_cases h0 : c = 0
        · have hl : ¬ 0 < c := by omega
          have HE : Hid (wCount (rd f e ds c u) = []) := by unfold wCount; rw [if_pos (show (rd f e ds c u).count = 0 from h0)]; trivial
          clear h0
          go_wp2
          go_meet
          case rel => rw [HE.out, List.append_nil]; exact hT.out
        · have hl : 0 < c := by omega
          have HE : Hid (wCount (rd f e ds c u) = [countW, Lib.itoa c]) := by unfold wCount; rw [if_neg (show ¬ (rd f e ds c u).count = 0 from h0)]; trivial
          have DT : Hid (Calls Tryz.prog 18 #[.int .i64 c] wc fun e w' => e = .returned (.string (bs (Lib.itoa c))) ∧ Below wc.heap.size wc w') :=
            itoa_any c wc hc0 hc1' (G.out.step (below_then (below_alloc _ _) hT.out.below)).tab
          clear h0
          generalize hjb : bs (Lib.itoa c) = jb at DT
          have HJ : Hid (bs (Lib.itoa c) = jb) := hjb
          clear hjb
          go_wp2_with (first
            | (go_at_call 18; refine Calls.mono DT.out ?_; rintro r w2 ⟨rfl, hb2⟩)
            | (at_builtin; refine wpList_append_own _ rfl _ _ 45 rfl (RBx w f e (.slice a ds.length cap) c u).heap.size 9 i0 (.string ⟨#[]⟩) 1 16 Tryz.underlying45 hi hz0 hz1 hz2 rfl (by decide) _ _ _ rfl ((hT.out.step hb2).own.alloc _) ⟨w2.heap.size, 0, none⟩ 2 2 [.string ⟨#[99, 111, 117, 110, 116]⟩, .string jb] rfl rfl ?c1 ?c2 ?c3 ?c4 ?c5 ?_)
            | go_in)
          case c1 =>
            intro j u hj
            match j, hj with
            | 0, hj => simp at hj; subst hj; simp [Addr.add]
            | 1, hj => simp at hj; subst hj; simp [Addr.add]
          case c2 => intro u hu; simp at hu; rcases hu with rfl | rfl <;> rfl
          case c3 => unfold maxLen; omega
          case c4 => omega
          case c5 => have := (hT.out.step hb2).below.size; simp; omega
          · intro v' w3 hown' hgrow _
            have HOW : Hid (TR (RBx w f e (.slice a ds.length cap) c u) w3 v' (L ++ wCount (rd f e ds c u))) := by
              rw [HE.out]
              refine TR.app [countW, Lib.itoa c] (hT.out.step hb2) (by simp) ?_ hown' hgrow
              rw [← HJ.out, List.map_append]; rfl
            clear hown' hgrow
            go_wp2
            go_meet
            case rel => exact HOW.out
      case rest =>
        have HL : Hid (TR (RBx w f e (.slice a ds.length cap) c u) wc u3 (L ++ wCount (rd f e ds c u))) := hcut
        clear x0 x1 x2 x3 x4 hcut hT
        have hll2 : (L ++ wCount (rd f e ds c u)).length ≤ 5 := by rw [List.length_append]; unfold wCount; split <;> simp <;> omega
        generalize hM0 : L ++ wCount (rd f e ds c u) = M at HL hll2
        have HM0 : Hid (L ++ wCount (rd f e ds c u) = M) := hM0
        clear hM0
        have hT : Hid (TR (RBx w f e (.slice a ds.length cap) c u) wc u3 M) := HL.out
        clear HL hll
        obtain ⟨x0, x1, x2, x3, x4⟩ := box5 hT.out.below
        go_upto_if 37 with fail
        go_cut [3] (fun v wx => TR (RBx w f e (.slice a ds.length cap) c u) wx v (M ++ wUntil (rd f e ds c u) t))
        case first =>
          by_cases h0 : u = -1
          · have hl : (u != -1) = false := by simp [h0]
            have HE : Hid (wUntil (rd f e ds c u) t = []) := by unfold wUntil; rw [if_pos (show (rd f e ds c u).til = -1 from h0)]; trivial
            clear h0
            go_wp2
            go_meet
            case rel => rw [HE.out, List.append_nil]; exact hT.out
          · have hl : (u != -1) = true := by simp [h0]
            have HE : Hid (wUntil (rd f e ds c u) t = [untilW, t]) := by unfold wUntil; rw [if_neg (show ¬ (rd f e ds c u).til = -1 from h0)]; trivial
            have DT : Hid (Calls Tryz.prog 20 #[.int .i64 u] wc fun e w' => e = .returned (.string (bs t)) ∧ Below wc.heap.size wc w') := by
              rcases U.out with ⟨e1, _⟩ | ⟨_, y, m, d, hv, hn, rfl⟩
              · exact absurd e1 h0
              · exact text_ok u y m d wc hv hn (G.out.step (below_then (below_alloc _ _) hT.out.below)).tab
            clear h0
            generalize hjb : bs t = jb at DT
            have HJ : Hid (bs t = jb) := hjb
            clear hjb
            go_wp2_with (first
              | (go_at_call 20; refine Calls.mono DT.out ?_; rintro r w2 ⟨rfl, hb2⟩)
              | (at_builtin; refine wpList_append_own _ rfl _ _ 45 rfl (RBx w f e (.slice a ds.length cap) c u).heap.size 9 i0 (.string ⟨#[]⟩) 1 16 Tryz.underlying45 hi hz0 hz1 hz2 rfl (by decide) _ _ _ rfl ((hT.out.step hb2).own.alloc _) ⟨w2.heap.size, 0, none⟩ 2 2 [.string ⟨#[117, 110, 116, 105, 108]⟩, .string jb] rfl rfl ?c1 ?c2 ?c3 ?c4 ?c5 ?_)
              | go_in)
            case c1 =>
              intro j u hj
              match j, hj with
              | 0, hj => simp at hj; subst hj; simp [Addr.add]
              | 1, hj => simp at hj; subst hj; simp [Addr.add]
            case c2 => intro u hu; simp at hu; rcases hu with rfl | rfl <;> rfl
            case c3 => unfold maxLen; omega
            case c4 => omega
            case c5 => have := (hT.out.step hb2).below.size; simp; omega
            · intro v' w3 hown' hgrow _
              have HOW : Hid (TR (RBx w f e (.slice a ds.length cap) c u) w3 v' (M ++ wUntil (rd f e ds c u) t)) := by
                rw [HE.out]
                refine TR.app [untilW, t] (hT.out.step hb2) (by simp) ?_ hown' hgrow
                rw [← HJ.out, List.map_append]; rfl
              clear hown' hgrow
              go_wp2
              go_meet
              case rel => exact HOW.out
        case rest =>
          have hW : M ++ wUntil (rd f e ds c u) t = words (rd f e ds c u) t := by
            rw [← HM0.out, ← HL0.out]
            unfold words
            rw [if_neg (by rw [beq_eq_false_iff_ne] at hne; exact hne)]
            have e1 : (rd f e ds c u).freq = f.data.toList := ByteArray.toList_eq ..
            rw [e1]
            show _ = _ :: Lib.itoa e :: _
            simp
          have HL : Hid (TR (RBx w f e (.slice a ds.length cap) c u) wc u3 (words (rd f e ds c u) t)) := by rw [← hW]; exact hcut
          have J : Hid (Calls Tryz.prog 21 #[u3, .string ⟨#[32]⟩] wc fun e' w' => e' = .returned (.string (bs (rtext (rd f e ds c u) t))) ∧ Below wc.heap.size wc w') :=
            join_any u3 _ (words (rd f e ds c u) t) [32] wc (words_ne _ _) HL.out.own (by have := words_len (rd f e ds c u) t; omega) (by have := rtext_len W.out U.out h20; unfold rtext at this; omega)
          clear hW hcut hT x0 x1 x2 x3 x4
          go_wp2_with (go_at_call 21; refine Calls.mono J.out ?_; rintro r w1 ⟨rfl, hb1⟩)
          go_ret
          exact ⟨rfl, below_then (below_alloc _ _) (below_then HL.out.below hb1)⟩
end Go.Proofs.YtfnajhpcbajhfaaGreatDoor
