/- Package pack's ops: its iterator walked. -/
import Derived.Test.YtbocknocmggcpaaGreatDoorPkX
import Derived.Sort.CutIn
namespace Go.Proofs.YtbocknocmggcpaaGreatDoor
open Go Go.RowKit Go.Shelf Cal Pk
attribute [local go_sem] Oper.semAt_some

theorem blOps_any (a o : ByteArray) (mb : Nat) (w : World) : Calls Tryz.prog 18 #[.agg #[.string a, .map (some mb)], .string o] w fun r w' => r = .returned (.func (.func 44) #[] #[.pointer (some ⟨w.heap.size + 1, 0, none⟩), .pointer (some ⟨w.heap.size, 0, none⟩)]) ∧ w' = (w.alloc (.cells #[.string a, .map (some mb)] 55)).alloc (.cells #[.string o] 9) := by
  go_enter Tryz.func18, Tryz.ntmps18
  go_wp2
  go_ret
  exact ⟨rfl, rfl⟩
/-- what a round of Delta's keeps: every piece -/
def KeepP (W W' : World) : Prop := ∀ (b : Nat) (cs : Array Value), W.heap[b]? = some (.cells cs 95 (0, 0)) → W'.heap[b]? = some (.cells cs 95 (0, 0))
theorem opL_at {a b : List UInt8} {f made i : Nat} (h : i + 8 ≤ b.length) (hf : b.length + 1 ≤ f + i) : ∃ f', b.length + 1 ≤ f' + i + 1 ∧ opL a b f made i = if wth made (lng a b made i) then (if made < (lng a b made i).1 then [((b.take (lng a b made i).1).drop made, 0, 0)] else []) ++ ([], ((lng a b made i).2.1 : Int), ((lng a b made i).2.2 : Int)) :: opL a b f' ((lng a b made i).1 + (lng a b made i).2.2) ((lng a b made i).1 + (lng a b made i).2.2) else opL a b f' made (i + 1) := by
  cases f with
  | zero => omega
  | succ f =>
    refine ⟨f, by omega, ?_⟩
    rw [opL, if_pos h]
theorem opL_end {a b : List UInt8} {f made i : Nat} (h : ¬ i + 8 ≤ b.length) : opL a b f made i = if made < b.length then [(b.drop made, 0, 0)] else [] := by
  cases f with
  | zero => rfl
  | succ f => rw [opL, if_neg h]

set_option maxHeartbeats 4000000 in
set_option maxRecDepth 100000 in
theorem ops_iter (n l Bo Bb lo mb nn : Nat) (a o : ByteArray) (J : List Opq → World → Prop) (hn : 12 ≤ n) (ha : a.size ≤ 100000) (ho : o.size ≤ 100000)
    (hB : ∀ r W, J r W → W.cell? ⟨Bo, 0, none⟩ = some (.string o) ∧ W.cell? ⟨Bb, 0, none⟩ = some (.string a) ∧ W.cell? ⟨Bb, 1, none⟩ = some (.map (some mb)) ∧ PlcAt lo W mb nn (plcK a.data.toList (a.size / 8)) ∧ Tab W)
    (hS : ∀ r W W', J r W → Below W.heap.size W W' → J r W')
    (hY : ∀ x r W, OpOk x → J (x :: r) W → YieldAt Fence.wide (n - 1) Tryz.prog l #[opV x] W fun e W' => e = .returned (.bool true) ∧ J r W' ∧ KeepP W W')
    (W : World) (h0 : J (opL a.data.toList o.data.toList (o.size + 1) 0 0) W) :
    CallsIn Fence.wide n Tryz.prog 44 #[.func (.yield l) #[] #[], .pointer (some ⟨Bo, 0, none⟩), .pointer (some ⟨Bb, 0, none⟩)] W fun e W' => (∃ v, e = .returned v) ∧ J [] W' := by
  have h1 : 1 ≤ n := by omega
  have la : a.data.toList.length = a.size := (Lib.size_eq a).symm
  have lo' : o.data.toList.length = o.size := (Lib.size_eq o).symm
  have HB : Hid (_) := hB
  have HS : Hid (_) := hS
  have HY : Hid (_) := hY
  have H0 : Hid (_) := h0
  have HLA : Hid (_) := la
  have HLO : Hid (_) := lo'
  have LN : Hid (∀ made i W, made ≤ i → i + 8 ≤ o.size → PlcAt lo W mb nn (plcK a.data.toList (a.size / 8)) → _) := fun made i W q1 q2 q3 => longest_any a o lo mb nn made i W q3 q1 q2 ha ho
  have IW : Hid (∀ (p : Pc) made W, Tab W → p.2.1 ≤ 999999 → p.2.2 ≤ 999999 → _) := fun p made W q1 q2 q3 => isWorth_any p made W q1 q2 q3
  have PO : Hid (∀ p W, _) := fun p W => pieceOp_any p W
  clear hB hS hY h0 la lo'
  refine callsIn_of_wp Tryz.func44 rfl trivial ?_ rfl
  simp only [Tryz.ntmps44, List.size_toArray, List.length_cons, List.length_nil, Nat.reduceAdd, Nat.reduceSub, Array.replicate_succ, Array.replicate_zero, List.push_toArray, List.append_toArray, List.nil_append, List.cons_append]
  gi_wp2
  gi_loopw [4, 5, 6] (fun mv iv _ wr => ∃ made i f : Nat, made ≤ i ∧ i ≤ o.size ∧ mv = .int .i64 made ∧ iv = .int .i64 i ∧ Hid (o.size + 1 ≤ f + i) ∧ Hid (J (opL a.data.toList o.data.toList f made i) wr)) (fun _ iv _ _ => o.size - (intOf iv).toNat)
  case atStart => exact ⟨0, 0, o.size + 1, Nat.le_refl _, Nat.zero_le _, rfl, rfl, by show _ ≤ _; omega, H0.out⟩
  case round =>
    obtain ⟨made, i, f, hmi, hio, rfl, rfl, HF, HJ⟩ := hrel
    obtain ⟨c1, c2, c3, hpl, htab⟩ := HB.out _ wr HJ.out
    by_cases hlt : i + 8 ≤ o.size
    · obtain ⟨f', hf', hop⟩ := opL_at (a := a.data.toList) (b := o.data.toList) (f := f) (made := made) (i := i) (by rw [HLO.out]; exact hlt) (by rw [HLO.out]; exact HF.out)
      obtain ⟨hall, _⟩ := opL_ok a.data.toList o.data.toList (by rw [HLA.out]; omega) (by rw [HLO.out]; omega) f made i hmi (by rw [HLO.out]; omega)
      have hpc := lng_ok a.data.toList o.data.toList made i hmi (by rw [HLO.out]; exact hlt)
      have LG1 := LN.out made i wr hmi hlt hpl
      rw [HLO.out] at hf'
      have hJ := HJ.out
      rw [hop] at hJ hall
      clear hop HJ
      generalize lng a.data.toList o.data.toList made i = p at hpc LG1 hJ hall
      have hps : p.2.1 ≤ 999999 ∧ p.2.2 ≤ 999999 := by
        rcases hpc with rfl | ⟨q1, q2, q3, q4, q5, _⟩
        · exact ⟨by decide, by decide⟩
        · rw [HLO.out] at q4; rw [HLA.out] at q5; exact ⟨by omega, by omega⟩
      have LG2 : Hid (_) := LG1
      have HJ1 : Hid (_) := hJ
      have HALL : Hid (_) := hall
      have HPC : Hid (_) := hpc
      have HF' : Hid (o.size + 1 ≤ f' + i + 1) := hf'
      have i1 : (i : Int) + 8 ≤ (o.size : Int) := by omega
      clear LG1 hJ hall hpc hf' HF hpl H0
      unfold pcV at LG2
      gi_upto_region 4 with (refine ⟨trivial, ?_⟩; gi_at_call 45; refine (callsIn_wide.2 LG2.out).mono ?_; rintro r w2 ⟨rfl, hb2⟩)
      have hk3 : (w2.alloc (.cells #[.int .i64 (p.1 : Int), .int .i64 (p.2.1 : Int), .int .i64 (p.2.2 : Int)] 95)).heap[w2.heap.size]? = some (.cells #[.int .i64 (p.1 : Int), .int .i64 (p.2.1 : Int), .int .i64 (p.2.2 : Int)] 95 (0, 0)) := block_at _ rfl
      have hb3 := below_then hb2 (below_alloc w2 (.cells #[.int .i64 (p.1 : Int), .int .i64 (p.2.1 : Int), .int .i64 (p.2.2 : Int)] 95))
      generalize w2.alloc (.cells #[.int .i64 (p.1 : Int), .int .i64 (p.2.1 : Int), .int .i64 (p.2.2 : Int)] 95) = w3 at hk3 hb3 ⊢
      generalize w2.heap.size = Bp at hk3 ⊢
      have IW3 : Hid (_) := IW.out p made w3 (htab.step hb3) hps.1 hps.2
      obtain ⟨d0, d1, d2⟩ := p3_cells hk3
      have HJ3 : Hid (_) := HS.out _ _ _ HJ1.out hb3
      have HK3 : Hid (_) := hk3
      clear hb2 hb3 LG2 HJ1 hk3 htab c1 c2 c3
      unfold pcV at IW3
      have HPS : Hid (_) := hps
      clear hps
      cases hw : wth made p with
      | false =>
        rw [hw] at IW3
        have HJ4 : Hid (∀ W', Below w3.heap.size w3 W' → J (opL a.data.toList o.data.toList f' made (i + 1)) W') := fun W' hW' => by
          have := HS.out _ _ _ HJ3.out hW'
          rw [hw] at this
          exact this
        clear HJ3 HALL HPC HB HY hw
        gi_wp2_with (refine ⟨trivial, ?_⟩; gi_at_call 46; refine (callsIn_wide.2 IW3.out).mono ?_; rintro r w4 ⟨rfl, hb4⟩)
        have J5 : Hid (_) := HJ4.out w4 hb4
        clear HJ4 hb4
        go_roundw
        case rel => exact ⟨made, i + 1, f', by omega, by omega, rfl, by go_num, by have := HF'.out; show _ ≤ _; omega, J5.out⟩
        case measure => simp [intOf]; omega
      | true =>
        rw [hw] at IW3
        have hpc := HPC.out
        rcases hpc with rfl | ⟨q1, q2, q3, q4, q5, _⟩
        · exact absurd hw (by simp [wth])
        · rw [HLO.out] at q4
          have hJ := HJ3.out
          have hall := HALL.out
          rw [hw, if_pos rfl] at hJ hall
          have HJ4 : Hid (_) := hJ
          have HALL2 : Hid (_) := hall
          clear HJ3 HALL HPC hJ hall hw d0 d1 d2
          obtain ⟨d0, d1, d2⟩ := p3_cells HK3.out
          gi_upto_region 6 with (refine ⟨trivial, ?_⟩; gi_at_call 46; refine (callsIn_wide.2 IW3.out).mono ?_; rintro r w4 ⟨rfl, hb4⟩)
          have J4 : Hid (_) := HS.out _ _ _ HJ4.out hb4
          have K4 : Hid (_) := (hb4.block _ (Array.getElem?_eq_some_iff.1 HK3.out).1).trans HK3.out
          clear HJ4 HK3 hb4 d0 d1 d2 IW3
          have HOC : Hid (OpOk ([], (p.2.1 : Int), (p.2.2 : Int))) := HALL2.out _ (by simp)
          by_cases hgt : made < p.1
          · have hgt' : (made : Int) < (p.1 : Int) := by omega
            have JO : Hid (J (((o.data.toList.take p.1).drop made, 0, 0) :: ([], (p.2.1 : Int), (p.2.2 : Int)) :: opL a.data.toList o.data.toList f' (p.1 + p.2.2) (p.1 + p.2.2)) w4) := by
              have := J4.out
              rw [if_pos hgt] at this
              exact this
            have HOO : Hid (OpOk ((o.data.toList.take p.1).drop made, 0, 0)) := HALL2.out _ (by rw [if_pos hgt]; simp)
            have hYo := HY.out _ _ w4 HOO.out JO.out
            have ex : bs ((o.data.toList.take p.1).drop made) = o.extract made p.1 := pl_ext (by rw [bs_data, ext_mid])
            unfold opV at hYo
            dsimp only at hYo
            rw [ex] at hYo
            obtain ⟨c1, _⟩ := HB.out _ w4 JO.out
            obtain ⟨d0, d1, d2⟩ := p3_cells K4.out
            have r0 : (0 : Int) ≤ (made : Int) := by omega
            have r1 : (made : Int) ≤ (p.1 : Int) := by omega
            have r2 : (p.1 : Int) ≤ (o.size : Int) := by omega
            obtain ⟨fn, tmps, assign, body, hy, hRR⟩ := hYo
            clear J4 JO HOO HALL2 ex hgt
            gi_upto_region 7 with (fail)
            refine hRR.mono ?_
            rintro e w5 ⟨rfl, hJ5, hkeep5⟩
            have JC : Hid (_) := hJ5
            have KC : Hid (_) := hkeep5 _ _ K4.out
            clear hJ5 hkeep5 K4 hy hRR c1 d0 d1 d2 r0 r1 r2
            gi_upto_region 7 with (fail)
            have HYC : Hid (∀ W', Below w5.heap.size w5 W' → YieldAt Fence.wide (n - 1) Tryz.prog l #[.agg #[.string ⟨#[]⟩, .int .i64 (p.2.1 : Int), .int .i64 (p.2.2 : Int)]] W' fun e W'' => e = .returned (.bool true) ∧ J (opL a.data.toList o.data.toList f' (p.1 + p.2.2) (p.1 + p.2.2)) W'' ∧ KeepP W' W'') := fun W' hW' => HY.out ([], (p.2.1 : Int), (p.2.2 : Int)) _ W' HOC.out (HS.out _ _ _ JC.out hW')
            have HKC : Hid (∀ W', Below w5.heap.size w5 W' → W'.heap[Bp]? = some (.cells #[.int .i64 (p.1 : Int), .int .i64 (p.2.1 : Int), .int .i64 (p.2.2 : Int)] 95 (0, 0))) := fun W' hW' => (hW'.block _ (Array.getElem?_eq_some_iff.1 KC.out).1).trans KC.out
            obtain ⟨d0, d1, d2⟩ := p3_cells KC.out
            have POP : Hid (_) := PO.out p w5
            unfold pcV opV at POP
            dsimp only at POP
            rw [show bs [] = (⟨#[]⟩ : ByteArray) from rfl] at POP
            clear JC KC HOC HY HB HS PO IW LN
            gi_wp2_with (refine ⟨trivial, ?_⟩; gi_at_call 47; refine (callsIn_wide.2 POP.out).mono ?_; rintro r w6 ⟨rfl, hb6⟩; have hK6 : Hid (_) := HKC.out w6 hb6; obtain ⟨fn, tmps, assign, body, hy, hRR⟩ := HYC.out w6 hb6)
            refine hRR.mono ?_
            rintro e w7 ⟨rfl, hJ7, hkeep⟩
            have J7 : Hid (_) := hJ7
            obtain ⟨g0, g1, g2⟩ := p3_cells (hkeep _ _ hK6.out)
            clear hJ7 hkeep hK6 hy hRR HYC HKC POP d0 d1 d2 hb6
            have s1 : (p.1 : Int) + (p.2.2 : Int) ≤ 9223372036854775807 := by omega
            have s2 : -9223372036854775808 ≤ (p.1 : Int) + (p.2.2 : Int) := by omega
            gi_wp2
            go_roundw
            case rel => exact ⟨p.1 + p.2.2, p.1 + p.2.2, f', Nat.le_refl _, by omega, by go_num, by go_num, by have := HF'.out; show _ ≤ _; omega, J7.out⟩
            case measure => simp [intOf]; omega
          · have hgt' : (p.1 : Int) ≤ (made : Int) := by omega
            have JC : Hid (J (([], (p.2.1 : Int), (p.2.2 : Int)) :: opL a.data.toList o.data.toList f' (p.1 + p.2.2) (p.1 + p.2.2)) w4) := by
              have := J4.out
              rw [if_neg hgt] at this
              exact this
            have KC : Hid (_) := K4.out
            obtain ⟨d0, d1, d2⟩ := p3_cells KC.out
            clear J4 K4 HALL2 hgt
            gi_upto_region 7 with (fail)
            refine ⟨(fun f h => by cases h), ?_⟩
            gi_upto_region 7 with (fail)
            clear d0 d1 d2
            have HYC : Hid (∀ W', Below w4.heap.size w4 W' → YieldAt Fence.wide (n - 1) Tryz.prog l #[.agg #[.string ⟨#[]⟩, .int .i64 (p.2.1 : Int), .int .i64 (p.2.2 : Int)]] W' fun e W'' => e = .returned (.bool true) ∧ J (opL a.data.toList o.data.toList f' (p.1 + p.2.2) (p.1 + p.2.2)) W'' ∧ KeepP W' W'') := fun W' hW' => HY.out ([], (p.2.1 : Int), (p.2.2 : Int)) _ W' HOC.out (HS.out _ _ _ JC.out hW')
            have HKC : Hid (∀ W', Below w4.heap.size w4 W' → W'.heap[Bp]? = some (.cells #[.int .i64 (p.1 : Int), .int .i64 (p.2.1 : Int), .int .i64 (p.2.2 : Int)] 95 (0, 0))) := fun W' hW' => (hW'.block _ (Array.getElem?_eq_some_iff.1 KC.out).1).trans KC.out
            obtain ⟨d0, d1, d2⟩ := p3_cells KC.out
            have POP : Hid (_) := PO.out p w4
            unfold pcV opV at POP
            dsimp only at POP
            rw [show bs [] = (⟨#[]⟩ : ByteArray) from rfl] at POP
            clear JC KC HOC HY HB HS PO IW LN
            gi_wp2_with (refine ⟨trivial, ?_⟩; gi_at_call 47; refine (callsIn_wide.2 POP.out).mono ?_; rintro r w6 ⟨rfl, hb6⟩; have hK6 : Hid (_) := HKC.out w6 hb6; obtain ⟨fn, tmps, assign, body, hy, hRR⟩ := HYC.out w6 hb6)
            refine hRR.mono ?_
            rintro e w7 ⟨rfl, hJ7, hkeep⟩
            have J7 : Hid (_) := hJ7
            obtain ⟨g0, g1, g2⟩ := p3_cells (hkeep _ _ hK6.out)
            clear hJ7 hkeep hK6 hy hRR HYC HKC POP d0 d1 d2 hb6
            have s1 : (p.1 : Int) + (p.2.2 : Int) ≤ 9223372036854775807 := by omega
            have s2 : -9223372036854775808 ≤ (p.1 : Int) + (p.2.2 : Int) := by omega
            gi_wp2
            go_roundw
            case rel => exact ⟨p.1 + p.2.2, p.1 + p.2.2, f', Nat.le_refl _, by omega, by go_num, by go_num, by have := HF'.out; show _ ≤ _; omega, J7.out⟩
            case measure => simp [intOf]; omega
    · have hend := opL_end (a := a.data.toList) (b := o.data.toList) (f := f) (made := made) (i := i) (by rw [HLO.out]; exact hlt)
      have i1 : (o.size : Int) < (i : Int) + 8 := by omega
      have hJ := HJ.out
      rw [hend, HLO.out] at hJ
      by_cases hmo : made < o.size
      · have hmo' : (made : Int) < (o.size : Int) := by omega
        rw [if_pos hmo] at hJ
        have ex : bs (o.data.toList.drop made) = o.extract made o.size := pl_ext (by rw [bs_data, ext_to])
        have hok : OpOk (o.data.toList.drop made, 0, 0) := by
          have := (opL_ok a.data.toList o.data.toList (by rw [HLA.out]; omega) (by rw [HLO.out]; omega) f made i hmi (by rw [HLO.out]; omega)).1
          rw [hend, HLO.out, if_pos hmo] at this
          exact this _ (by simp)
        have hYo := HY.out _ _ wr hok hJ
        unfold opV at hYo
        dsimp only at hYo
        rw [ex] at hYo
        have r0 : (0 : Int) ≤ (made : Int) := by omega
        obtain ⟨fn, tmps, assign, body, hy, hRR⟩ := hYo
        clear HB HS HY H0 LN IW PO hJ hend ex hok HJ hpl htab c2 c3
        gi_wp2
        refine hRR.mono ?_
        rintro e w5 ⟨rfl, hJ5, _⟩
        have J5 : Hid (_) := hJ5
        clear hJ5 hy hRR c1
        gi_wp2
        go_end0
        exact ⟨⟨_, rfl⟩, J5.out⟩
      · have hmo' : (o.size : Int) ≤ (made : Int) := by omega
        rw [if_neg hmo] at hJ
        have J5 : Hid (_) := hJ
        clear HB HS HY H0 LN IW PO hJ hend HJ hpl htab c2 c3
        gi_wp2
        go_end0
        exact ⟨⟨_, rfl⟩, J5.out⟩
end Go.Proofs.YtbocknocmggcpaaGreatDoor
