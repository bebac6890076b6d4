/- The document's own texts of rules and events: WeekNames, RuleText, Fields, FieldOf, EventText, of lists at any address. -/
import Derived.Test.YtnpecjccajebiaaGreatDoorYeAA
import Derived.Test.YtnpecjccajebiaaGreatDoorYeR
import Derived.Test.YtnpecjccajebiaaGreatDoorEvR3W
import Derived.Test.YtnpecjccajebiaaGreatDoorExpE2W
import Derived.Test.YtnpecjccajebiaaGreatDoorYaAR
import Derived.Deep.RegionHeld3
import Derived.Deep.RegionWith
import Derived.Lib.QuietBelow
namespace Go.Proofs.YtnpecjccajebiaaGreatDoor
open Go Go.RowKit Go.Sort Cal
attribute [local go_sem] Oper.semAt_some

theorem decimal_int (n : Int) (w : World) (h0 : 0 ≤ n) (h1 : n ≤ 9999) :
    Calls Tryz.prog 180 #[.int .i64 n] w fun e w' => e = .returned (.string (bs (Lib.itoa n))) ∧ Below w.heap.size w w' := by
  obtain ⟨u, rfl⟩ : ∃ u : Nat, n = u := ⟨n.toNat, by omega⟩
  rw [Lib.itoa_nonneg]
  exact decimal_any u w (by omega)
theorem dayTextR_any (n : Int) (w : World) (h0 : 0 ≤ n) (h1 : n ≤ 73048) :
    Calls Tryz.prog 179 #[.int .i64 n] w fun e w' => e = .returned (.string (bs (dtx n))) ∧ Below w.heap.size w w' := by
  obtain ⟨y, m, d, hv, hn, e⟩ := dtx_ok h0 h1
  rw [e]
  exact dayText_ok n y m d w hv hn

def wkO : Obj := .cells #[.string ⟨#[109, 111]⟩, .string ⟨#[116, 117]⟩, .string ⟨#[119, 101]⟩, .string ⟨#[116, 104]⟩, .string ⟨#[102, 114]⟩, .string ⟨#[115, 97]⟩, .string ⟨#[115, 117]⟩] 9
theorem wk_cell (w : World) (i : Nat) (h : i < 7) : (w.alloc wkO).cell? ⟨w.heap.size, i, none⟩ = some (.string (bs (nm i))) := by
  unfold wkO
  rw [World.cell?_alloc_new]
  match i, h with
  | 0, _ => rfl
  | 1, _ => rfl
  | 2, _ => rfl
  | 3, _ => rfl
  | 4, _ => rfl
  | 5, _ => rfl
  | 6, _ => rfl
theorem weekNames_any (w : World) : Calls Tryz.prog 219 #[] w fun r w' => ∃ B : Nat, r = .returned (.slice (some ⟨B, 0, none⟩) 7 7) ∧ Below w.heap.size w w' ∧ ∀ i, i < 7 → w'.cell? ⟨B, i, none⟩ = some (.string (bs (nm i))) := by
  have hA := below_alloc w wkO
  have hC := wk_cell w
  have HC : Hid (Below w.heap.size w (w.alloc wkO) ∧ ∀ i, i < 7 → (w.alloc wkO).cell? ⟨w.heap.size, i, none⟩ = some (.string (bs (nm i)))) := ⟨hA, hC⟩
  clear hA hC
  unfold wkO at HC
  go_enter Tryz.func219, Tryz.ntmps219
  go_wp2
  go_ret
  exact ⟨_, rfl, HC.out.1, HC.out.2⟩
theorem rfields_any (w : World) : Calls Tryz.prog 129 #[] w fun r w' => r = .returned (.slice (some ⟨w.heap.size, 0, none⟩) 6 6) ∧ w' = w.alloc fldO := by
  unfold fldO
  go_enter Tryz.func129, Tryz.ntmps129
  go_wp2
  go_ret
  exact ⟨rfl, rfl⟩

theorem bs_app (a b : List UInt8) : bs a ++ bs b = bs (a ++ b) := by
  unfold bs
  exact ByteArray.mk_append_mk _ _
theorem bs_size (a : List UInt8) : (bs a).size = a.length := by
  show a.toArray.size = _
  simp

set_option maxHeartbeats 2000000 in
set_option maxRecDepth 100000 in
theorem ruleText_more (f : ByteArray) (e : Int) (sl : Value) (c u : Int) (ds : List Int) (t : List UInt8) (w : World) (hg : Got w sl ds) (h20 : ds.length ≤ 20) (hw : Well (rd f e ds c u)) (ht : UT (rd f e ds c u) t)
    (hne : (f.toList == [111, 110, 99, 101]) = false) :
    Calls Tryz.prog 181 #[rv f e sl c u] w fun r w' => r = .returned (.string (bs (rtext (rd f e ds c u) t))) ∧ Below w.heap.size w w' := by
  have HF : Hid (bs (rtext (rd f e ds c u) t) = bs (f.data.toList ++ 32 :: Lib.itoa e ++ dP ds ds.length ++ cP c ++ uP u t)) := by
    show _ = _
    rw [rtext_form _ _ (by rw [beq_eq_false_iff_ne] at hne; exact hne)]
    have e1 : (rd f e ds c u).freq = f.data.toList := ByteArray.toList_eq ..
    rw [e1]
    rfl
  obtain ⟨ra, rc, rfl⟩ := got_form hg
  have he := hw.ev
  have hco := hw.co
  have hun := hw.un
  obtain ⟨he0, he1⟩ : 1 ≤ e ∧ e ≤ 100 := he
  obtain ⟨hc0, hc1⟩ : 0 ≤ c ∧ c ≤ 1000 := hco
  obtain ⟨hu0, hu1⟩ : -1 ≤ u ∧ u ≤ 73048 := hun
  have hcu : c = 0 ∨ u = -1 := hw.cu
  have hf7 : f.size ≤ 7 := by
    have h1 : f.toList.length ≤ 7 := by
      have h := hw.fr
      have e1 : (rd f e ds c u).freq = f.toList := rfl
      rw [e1] at h
      rcases h with h | h | h | h | h <;> rw [h] <;> decide
    rw [ByteArray.toList_eq, Array.length_toList] at h1
    exact h1
  have ZS : Hid (∀ j, j < ds.length → ∃ ad, ra = some ad ∧ ∀ W, Below w.heap.size w W → W.cell? (ad.add j) = some (.int .i64 (zS ds j))) := got_z hg
  have HD : Hid (∀ j, j < ds.length → 0 ≤ zS ds j ∧ zS ds j ≤ 6) := fun j hj => by
    have e1 : zS ds j = ds[j] := zS_at hj
    have := hw.ds ds[j] (List.getElem_mem hj)
    exact ⟨by rw [e1]; exact this.1, by rw [e1]; exact this.2⟩
  have DE : Hid (∀ W, Calls Tryz.prog 180 #[.int .i64 e] W fun r w' => r = .returned (.string (bs (Lib.itoa e))) ∧ Below W.heap.size W w') := fun W => decimal_int e W (by omega) (by omega)
  have DC : Hid (∀ W, Calls Tryz.prog 180 #[.int .i64 c] W fun r w' => r = .returned (.string (bs (Lib.itoa c))) ∧ Below W.heap.size W w') := fun W => decimal_int c W (by omega) (by omega)
  have DU : Hid (0 ≤ u → ∀ W, Calls Tryz.prog 179 #[.int .i64 u] W fun r w' => r = .returned (.string (bs t)) ∧ Below W.heap.size W w') := fun h0 W => by
    rcases ht with ⟨e1, _⟩ | ⟨_, y, m, d, hv, hn, rfl⟩
    · have e2 : u = -1 := e1
      omega
    · exact dayText_ok u y m d W hv hn
  have htl : (bs t).size ≤ 10 := by rw [bs_size]; exact ut_len ht
  have hel : (bs (Lib.itoa e)).size ≤ 6 := by rw [bs_size]; exact itoa_len e (by omega) (by omega)
  have hcl : (bs (Lib.itoa c)).size ≤ 6 := by rw [bs_size]; exact itoa_len c (by omega) (by omega)
  have HB0 : Hid (∀ j, bs (f.data.toList ++ 32 :: Lib.itoa e ++ dP ds j) = f ++ ⟨#[32]⟩ ++ bs (Lib.itoa e) ++ bs (dP ds j)) := fun j => by
    show _ = bs f.data.toList ++ bs [32] ++ bs _ ++ bs _
    rw [bs_app, bs_app, bs_app]
    simp
  have HCP : Hid (cP c = if c = 0 then [] else 32 :: (countW ++ 32 :: Lib.itoa c)) := rfl
  have HUP : Hid (uP u t = if u = -1 then [] else 32 :: (untilW ++ 32 :: t)) := rfl
  have HDL : Hid (∀ j, (bs (dP ds j)).size ≤ 100) := fun j => by rw [bs_size]; exact dP_len ds j h20
  have HD1 : Hid (∀ (j : Nat) (h : j < ds.length), dP ds (j + 1) = dP ds j ++ (if j = 0 then [32] else [44]) ++ nm (zS ds j)) := fun j h => by
    rw [zS_at h]
    cases j with
    | zero => rw [dP_one ds h, if_pos rfl]; rfl
    | succ j => rw [dP_succ ds (j + 1) (by omega) h, if_neg (by omega)]; simp
  have hA := below_alloc w (.cells #[.string f, .int .i64 e, .slice ra ds.length rc, .int .i64 c, .int .i64 u] 41)
  have k0 : (w.alloc (.cells #[.string f, .int .i64 e, .slice ra ds.length rc, .int .i64 c, .int .i64 u] 41)).heap[w.heap.size]? = some (.cells #[.string f, .int .i64 e, .slice ra ds.length rc, .int .i64 c, .int .i64 u] 41 (0, 0)) := block_at _ rfl
  have HA : Hid (_) := hA
  clear hg hw ht hA
  unfold rv
  generalize hw0 : w.alloc (.cells #[.string f, .int .i64 e, .slice ra ds.length rc, .int .i64 c, .int .i64 u] 41) = w0 at HA k0
  have BX : Hid (∀ W, Below w0.heap.size w0 W → W.heap[w.heap.size]? = some (.cells #[.string f, .int .i64 e, .slice ra ds.length rc, .int .i64 c, .int .i64 u] 41 (0, 0))) := fun W h => (h.block _ (Array.getElem?_eq_some_iff.1 k0).1).trans k0
  obtain ⟨x0, x1, x2, x3, x4⟩ := blk5 k0
  clear k0
  generalize hL : ds.length = L at ZS HD HD1 h20 x2 BX HF hw0 ⊢
  generalize bs (rtext (rd f e ds c u) t) = fin at HF ⊢
  clear hL
  have X0 := cell_regrown x0
  have X1 := cell_regrown x1
  have T1 : Hid (∀ d os, Calls Tryz.prog 180 #[.int .i64 e] (grow (redrawn w0 d) os) fun r w'' => r = .returned (.string (bs (Lib.itoa e))) ∧ ∃ p : Regrown, w'' = grow (redrawn w0 p.d) p.os) := fun d os => Calls.regrown_of (DE.out _)
  generalize hEB : bs (Lib.itoa e) = eb at T1 hel HB0
  have q1 : ¬ 9223372036854775807 < f.size + 1 := by omega
  have q2 : ¬ 9223372036854775807 < f.size + 1 + eb.size := by omega
  go_enter Tryz.func181, Tryz.ntmps181
  go_upto_region 3 with (fail)
  refine wp_region_quiet_below (by kernel_rfl) (by kernel_rfl) ?_
  repeat (quiet_step ((go_at_call 180; exact T1.out _ _)))
  refine wpQuiet_nil ?_
  intro w2 hw'
  have hb2 : Below w0.heap.size w0 w2 := by
    obtain ⟨⟨dq, osq⟩, hw''⟩ := hw'
    subst hw''
    exact below_regrown _ _ _
  clear hw' X0 X1 x0 x1 x2 x3 x4 T1
  go_wp2
  go_loopw [3, 4] (fun o i wr => ∃ (m : Nat) (os : ByteArray), m ≤ L ∧ i = .int .i64 m ∧ o = .string os ∧ os.size ≤ 150 ∧ Hid (os = f ++ ⟨#[32]⟩ ++ eb ++ bs (dP ds m)) ∧ Hid (Below w2.heap.size w2 wr)) (fun _ i _ => L - (intOf i).toNat)
  case atStart =>
    refine ⟨0, _, Nat.zero_le _, rfl, rfl, ?_, ?_, Below.refl _ _⟩
    · simp only [ByteArray.size_append]
      show f.size + 1 + eb.size ≤ 150
      omega
    · show _ = _ ++ bs []
      show _ = _ ++ ByteArray.empty
      rw [ByteArray.append_empty]
  case round =>
    obtain ⟨m, os, hm, rfl, rfl, hos, HO, HBr⟩ := hrel
    obtain ⟨x0, x1, x2, x3, x4⟩ := blk5 (BX.out wr (below_then hb2 HBr.out))
    by_cases hlt : m < L
    · obtain ⟨ad, rfl, hc⟩ := ZS.out m hlt
      have c1 := hc wr (below_then HA.out (below_then hb2 HBr.out))
      have J1 : Hid (dP ds (m + 1) = dP ds m ++ (if m = 0 then [32] else [44]) ++ nm (zS ds m)) := HD1.out m hlt
      obtain ⟨hd0, hd6⟩ := HD.out m hlt
      have JL1 := HDL.out (m + 1)
      obtain ⟨k, hk⟩ : ∃ k : Nat, zS ds m = k := ⟨(zS ds m).toNat, by omega⟩
      rw [hk] at c1 J1
      have hk7 : k < 7 := by omega
      have hk7' : (k : Int) < 7 := by omega
      have hl0 : (m : Int) < L := by omega
      have hnl : (bs (nm k)).size = 2 := by rw [bs_size]; exact nm_len _
      clear hc hd0 hd6 hk
      cases m with
      | zero =>
        have hc0 : wr.cell? ad = some (.int .i64 k) := c1
        have hl1 : 0 < L := by omega
        have q3 : ¬ 9223372036854775807 < os.size + 1 := by omega
        have q4 : ¬ 9223372036854775807 < os.size + 1 + (bs (nm k)).size := by omega
        go_upto_region 10 with (fail)
        go_region_with (go_at_call 219; refine Calls.mono (weekNames_any _) ?_; rintro r w20 ⟨B, rfl, hb20, hc20⟩; have zc := hc20 k hk7; have hw20 : Below wr.heap.size wr w20 := below_then (drew_below _) hb20; have y2 := cell_step x2 hw20; have y0 := cellA_step hc0 hw20)
        all_goals
          go_wp2
          go_roundw
          case rel =>
            have hj : f ++ ⟨#[32]⟩ ++ eb ++ bs (dP ds (0 + 1)) = os ++ ⟨#[32]⟩ ++ bs (nm k) := by
              rw [J1.out, if_pos True.intro, HO.out]
              show _ = _ ++ bs [32] ++ _
              rw [← bs_app, ← bs_app, ByteArray.append_assoc, ByteArray.append_assoc, ByteArray.append_assoc]
              simp only [ByteArray.append_assoc]
            refine ⟨0 + 1, _, by omega, by go_num, rfl, ?_, hj.symm, below_then HBr.out hw20⟩
            rw [← hj]
            simp only [ByteArray.size_append]
            show f.size + 1 + eb.size + _ ≤ 150
            omega
          case measure => simp [intOf]; omega
      | succ m =>
        have hc0 : wr.cell? ⟨ad.block, ad.off + (m + 1), none⟩ = some (.int .i64 k) := c1
        have hl1 : (m : Int) + 1 < L := by omega
        have hl2 : m + 1 < L := by omega
        have hq0 : 0 ≤ (m : Int) + 1 := by omega
        have hq1 : ((m : Int) + 1).toNat = m + 1 := by omega
        have hq2 : ((m : Int) + 1 == 0) = false := by rw [beq_eq_false_iff_ne]; omega
        have q3 : ¬ 9223372036854775807 < os.size + 1 := by omega
        have q4 : ¬ 9223372036854775807 < os.size + 1 + (bs (nm k)).size := by omega
        go_upto_region 10 with (fail)
        go_region_with (go_at_call 219; refine Calls.mono (weekNames_any _) ?_; rintro r w20 ⟨B, rfl, hb20, hc20⟩; have zc := hc20 k hk7; have hw20 : Below wr.heap.size wr w20 := below_then (drew_below _) hb20; have y2 := cell_step x2 hw20; have y0 := cellA_step hc0 hw20)
        all_goals
          go_wp2
          go_roundw
          case rel =>
            have hj : f ++ ⟨#[32]⟩ ++ eb ++ bs (dP ds (m + 1 + 1)) = os ++ ⟨#[44]⟩ ++ bs (nm k) := by
              rw [J1.out, if_neg (Nat.succ_ne_zero m), HO.out]
              show _ = _ ++ bs [44] ++ _
              rw [← bs_app, ← bs_app, ByteArray.append_assoc, ByteArray.append_assoc, ByteArray.append_assoc]
              simp only [ByteArray.append_assoc]
            refine ⟨m + 1 + 1, _, by omega, by go_num, rfl, ?_, hj.symm, below_then HBr.out hw20⟩
            rw [← hj]
            simp only [ByteArray.size_append]
            show f.size + 1 + eb.size + _ ≤ 150
            omega
          case measure => simp [intOf]; omega
    · have hml : m = L := by omega
      have HO2 : Hid (os = bs (f.data.toList ++ 32 :: Lib.itoa e ++ dP ds L)) := by
        show _ = _
        rw [HB0.out, HO.out, hml]
      have hz2 : Below w.heap.size w wr := below_then HA.out (below_then hb2 HBr.out)
      have hf1 : Hid (fin = os ++ bs (cP c) ++ bs (uP u t)) := by
        show _ = _
        rw [HF.out, HO2.out, bs_app, bs_app]
      clear HO HB0 ZS HD HD1 HO2 HF BX hm hlt
      by_cases hcz : c = 0
      · have hcn : ¬ 0 < c := by omega
        have e1 : bs (cP c) = ⟨#[]⟩ := by unfold cP; rw [if_pos hcz]; rfl
        by_cases huz : u = -1
        · have hun : ¬ 0 ≤ u := by omega
          have HE : Hid (fin = os) := by
            show _ = _
            rw [hf1.out, e1]
            unfold uP
            rw [if_pos huz]
            show os ++ ByteArray.empty ++ ByteArray.empty = _
            rw [ByteArray.append_empty, ByteArray.append_empty]
          clear hf1 e1 huz hcz
          go_wp2
          go_ret
          exact ⟨ret_str HE.out.symm, hz2⟩
        · have hun : 0 ≤ u := by omega
          have D1 : Hid (∀ W, Calls Tryz.prog 179 #[.int .i64 u] W fun r w' => r = .returned (.string (bs t)) ∧ Below W.heap.size W w') := DU.out hun
          have HE : Hid (fin = os ++ ⟨#[32, 117, 110, 116, 105, 108, 32]⟩ ++ bs t) := by
            show _ = _
            rw [hf1.out, e1]
            unfold uP
            rw [if_neg huz]
            show os ++ ByteArray.empty ++ _ = _ ++ bs [32, 117, 110, 116, 105, 108, 32] ++ _
            rw [ByteArray.append_empty, ByteArray.append_assoc, bs_app]
            rfl
          clear hf1 e1 huz hcz DU
          generalize bs t = bt at D1 HE htl
          have q3 : ¬ 9223372036854775807 < os.size + 7 := by omega
          have q4 : ¬ 9223372036854775807 < os.size + 7 + bt.size := by omega
          go_wp2_with (go_at_call 179; refine Calls.mono (D1.out _) ?_; rintro r w3 ⟨rfl, hb3⟩)
          go_ret
          exact ⟨ret_str HE.out.symm, below_then hz2 hb3⟩
      · have hcn : 0 < c := by omega
        have huz : u = -1 := by rcases hcu with h | h <;> omega
        have hun : ¬ 0 ≤ u := by omega
        have HE : Hid (fin = os ++ ⟨#[32, 99, 111, 117, 110, 116, 32]⟩ ++ bs (Lib.itoa c)) := by
          show _ = _
          rw [hf1.out]
          unfold uP cP
          rw [if_neg hcz, if_pos huz]
          show _ ++ ByteArray.empty = _ ++ bs [32, 99, 111, 117, 110, 116, 32] ++ _
          rw [ByteArray.append_empty, ByteArray.append_assoc, bs_app]
          rfl
        clear hf1 huz hcz DU
        generalize bs (Lib.itoa c) = bt at DC HE hcl
        have q3 : ¬ 9223372036854775807 < os.size + 7 := by omega
        have q4 : ¬ 9223372036854775807 < os.size + 7 + bt.size := by omega
        go_wp2_with (go_at_call 180; refine Calls.mono (DC.out _) ?_; rintro r w3 ⟨rfl, hb3⟩; have y4 := cell_step x4 hb3)
        go_ret
        exact ⟨ret_str HE.out.symm, below_then hz2 hb3⟩

theorem ruleText_once (f : ByteArray) (e : Int) (sl : Value) (c u : Int) (ds : List Int) (t : List UInt8) (w : World) (hg : Got w sl ds)
    (hne : (f.toList == [111, 110, 99, 101]) = true) :
    Calls Tryz.prog 181 #[rv f e sl c u] w fun r w' => r = .returned (.string (bs (rtext (rd f e ds c u) t))) ∧ Below w.heap.size w w' := by
  obtain ⟨ra, rc, rfl⟩ := got_form hg
  have HR : Hid (bs (rtext (rd f e ds c u) t) = ⟨#[111, 110, 99, 101]⟩) := by
    unfold rtext words
    rw [if_pos (show (rd f e ds c u).freq = onceW by rw [beq_iff_eq] at hne; exact hne), Lib.join_one]
    exact rfl
  rw [HR.out]
  clear hg HR
  unfold rv
  go_enter Tryz.func181, Tryz.ntmps181
  go_wp2
  go_ret
  exact ⟨rfl, below_alloc _ _⟩
theorem ruleText_any (f : ByteArray) (e : Int) (sl : Value) (c u : Int) (ds : List Int) (t : List UInt8) (w : World) (hg : Got w sl ds) (h20 : ds.length ≤ 20) (hw : Well (rd f e ds c u)) (ht : UT (rd f e ds c u) t) :
    Calls Tryz.prog 181 #[rv f e sl c u] w fun r w' => r = .returned (.string (bs (rtext (rd f e ds c u) t))) ∧ Below w.heap.size w w' := by
  cases hne : (f.toList == [111, 110, 99, 101]) with
  | true => exact ruleText_once f e sl c u ds t w hg hne
  | false => exact ruleText_more f e sl c u ds t w hg h20 hw ht hne
end Go.Proofs.YtnpecjccajebiaaGreatDoor
