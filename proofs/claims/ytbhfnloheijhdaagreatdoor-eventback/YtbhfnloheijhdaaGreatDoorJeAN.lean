/- Package event's readers of a field's text: readNumber, areMoves, isShaped, readList, readMove. -/
import Derived.Test.YtbhfnloheijhdaaGreatDoorJeAJ
import Derived.Test.YtbhfnloheijhdaaGreatDoorJeAM
import Derived.Test.YtbhfnloheijhdaaGreatDoorEvL2P
import Derived.Test.YtbhfnloheijhdaaGreatDoorJeAC
import Derived.Test.YtbhfnloheijhdaaGreatDoorJeAB
import Derived.Lib.SliceRun
namespace Go.Proofs.YtbhfnloheijhdaaGreatDoor
open Go Go.RowKit Cal
attribute [local go_sem] Oper.semAt_some

theorem ereadNumber_any (m : Int) (w : World) (h0 : 0 ≤ m) (h1 : m ≤ 100000) (ht : Tab w) :
    Calls Tryz.prog 84 #[.string (bs (Lib.itoa m))] w fun r w' => r = .returned (.tuple #[.int .i64 m, .bool true]) ∧ Below w.heap.size w w' := by
  have hl := itoa_len m h0 (by omega)
  have hsz : (bs (Lib.itoa m)).size ≤ 6 := by rw [Lib.size_eq, bs_data]; exact hl
  have ha := Tryz.strconv_Atoi (bs (Lib.itoa m)) m (by omega) (by rw [bs_data]; exact itoa_atoi m h0) w
  have A : Hid (Calls Tryz.prog 126 #[.string (bs (Lib.itoa m))] w fun e w' => e = .returned (.tuple #[.int .i64 m, .nilIface]) ∧ Below w.heap.size w w') := by
    refine ha.mono ?_
    rintro e w' ⟨rfl, t, rfl⟩
    exact ⟨rfl, bytes_below _ _ _⟩
  have I : Hid (∀ w, Tab w → Calls Tryz.prog 49 #[.int .i64 m] w fun e w' => e = .returned (.string (bs (Lib.itoa m))) ∧ Below w.heap.size w w') := fun w t => itoa_any m w h0 h1 t
  generalize bs (Lib.itoa m) = sb at hsz A I
  have T : Hid (Tab w) := ht
  have hsz' : (sb.size : Int) ≤ 6 := by omega
  clear ha ht hl
  go_enter Tryz.func84, Tryz.ntmps84
  go_wp2_with (first
    | (go_at_call 126; refine Calls.mono A.out ?_; rintro r w1 ⟨rfl, hb1⟩)
    | (go_at_call 49; refine (I.out _ (T.out.step hb1)).mono ?_; rintro r w2 ⟨rfl, hb2⟩))
  go_ret2
  exact ⟨rfl, below_then hb1 hb2⟩

theorem readDay_any (n : Int) (w : World) (h0 : 0 ≤ n) (h1 : n ≤ 73048) :
    Calls Tryz.prog 86 #[.string (bs (dtx n))] w fun r w' => r = .returned (.tuple #[.int .i64 n, .nilIface]) ∧ Below w.heap.size w w' := by
  obtain ⟨y, m, d, hv, hn, e⟩ := dtx_ok h0 h1
  rw [e]
  have hv' := hv
  obtain ⟨h1, h2, h3, h4, h5, h6⟩ := hv
  have h7 := (dim_bd y m).2
  have hD := txt_isDT y m d (by omega) (by omega) (by omega) (by omega) (by omega) (by omega)
  have hN := txt_nums y m d (by omega) (by omega) (by omega) (by omega) (by omega) (by omega)
  have C := read_ok (bs (txt y m d)) w hD (by unfold bs; rw [hN.1, hN.2.1, hN.2.2]; exact hv')
  unfold bs at C
  rw [hN.1, hN.2.1, hN.2.2, hn] at C
  exact C

set_option maxHeartbeats 1000000 in
theorem readMove_any (a b : Int) (w : World) (ha0 : 0 ≤ a) (ha1 : a ≤ 73048) (hb0 : 0 ≤ b) (hb1 : b ≤ 73048) :
    Calls Tryz.prog 90 #[.string (bs (mtx (a, b)))] w fun r w' => r = .returned (.tuple #[.agg #[.int .i64 a, .int .i64 b], .nilIface]) ∧ Below w.heap.size w w' := by
  have CU : Hid (∀ W, _) := fun W => cut_any (a, b) W
  have RA : Hid (∀ W, _) := fun W => readDay_any a W ha0 ha1
  have RB' : Hid (∀ W, _) := fun W => readDay_any b W hb0 hb1
  dsimp only at CU
  generalize bs (mtx (a, b)) = sm at CU ⊢
  generalize bs (dtx a) = sa at CU RA
  generalize bs (dtx b) = sb at CU RB'
  clear ha0 ha1 hb0 hb1
  have hA := below_alloc w (.cells #[.int .i64 0, .int .i64 0] 79)
  have k0 : (w.alloc (.cells #[.int .i64 0, .int .i64 0] 79)).heap[w.heap.size]? = some (.cells #[.int .i64 0, .int .i64 0] 79 (0, 0)) := block_at _ rfl
  have HA : Hid (_) := hA
  have K0 : Hid (_) := k0
  clear hA k0
  have FX : Hid (∀ W, Below (w.alloc (.cells #[.int .i64 0, .int .i64 0] 79)).heap.size (w.alloc (.cells #[.int .i64 0, .int .i64 0] 79)) W → W.heap[w.heap.size]? = some (.cells #[.int .i64 0, .int .i64 0] 79 (0, 0))) := fun W h => (h.block _ (by simp)).trans K0.out
  go_enter Tryz.func90, Tryz.ntmps90
  go_upto_region 8 with (first
    | (go_at_call 134; refine Calls.mono (CU.out _) ?_; rintro r w1 ⟨rfl, hb1⟩)
    | (go_at_call_of 86 (Value.string sa); refine Calls.mono (RA.out _) ?_; rintro r w2 ⟨rfl, hb2⟩)
    | (go_at_call_of 86 (Value.string sb); refine Calls.mono (RB'.out _) ?_; rintro r w3 ⟨rfl, hb3⟩))
  have hB3 := below_then hb1 (below_then hb2 hb3)
  have kk := FX.out _ hB3
  have c0 : w3.cell? ⟨w.heap.size, 0, none⟩ = some (.int .i64 0) := by simp [World.cell?, kk]
  have c1 : w3.cell? ⟨w.heap.size, 1, none⟩ = some (.int .i64 0) := by simp [World.cell?, kk]
  have f0 := blk11_frozen kk 0
  have f1 := blk11_frozen kk 1
  have KK : Hid (_) := kk
  have HB3 : Hid (_) := hB3
  clear kk hB3 hb1 hb2 hb3
  have g0 : (w3.setCell ⟨w.heap.size, 0, none⟩ (.int .i64 a)).heap[w.heap.size]? = some (.cells #[.int .i64 a, .int .i64 0] 79 (0, 0)) := set_block (i := 0) _ KK.out
  have g1 : ((w3.setCell ⟨w.heap.size, 0, none⟩ (.int .i64 a)).setCell ⟨w.heap.size, 1, none⟩ (.int .i64 b)).heap[w.heap.size]? = some (.cells #[.int .i64 a, .int .i64 b] 79 (0, 0)) := set_block (i := 1) _ g0
  have d0 : ((w3.setCell ⟨w.heap.size, 0, none⟩ (.int .i64 a)).setCell ⟨w.heap.size, 1, none⟩ (.int .i64 b)).cell? ⟨w.heap.size, 0, none⟩ = some (.int .i64 a) := by simp [World.cell?, g1]
  have d1 : ((w3.setCell ⟨w.heap.size, 0, none⟩ (.int .i64 a)).setCell ⟨w.heap.size, 1, none⟩ (.int .i64 b)).cell? ⟨w.heap.size, 1, none⟩ = some (.int .i64 b) := by simp [World.cell?, g1]
  have f2 := blk11_frozen g0 1
  clear g0 g1
  go_wp2
  refine bodyPost_ret (v := .tuple #[.agg #[.int .i64 a, .int .i64 b], .nilIface]) (by simp [results, Tryz.f90, go_sem, d0, d1]) rfl ⟨rfl, ?_⟩
  · exact ((below_then HA.out HB3.out).setCell (p := ⟨w.heap.size, 0, none⟩) (Nat.le_refl _) _).setCell (p := ⟨w.heap.size, 1, none⟩) (Nat.le_refl _) _

theorem dtx_ne {n : Int} (h0 : 0 ≤ n) (h1 : n ≤ 73048) : dtx n ≠ [] := by
  obtain ⟨y, m, d, _, _, e⟩ := dtx_ok h0 h1
  rw [e]
  intro h
  have := congrArg List.length h
  rw [txt_length] at this
  simp at this
theorem mtx_ne (m : Int × Int) : mtx m ≠ [] := by unfold mtx; simp
theorem items_sk (xs : List Int) (w : World) (h30 : xs.length ≤ 60) (hv : ∀ x ∈ xs, 0 ≤ x ∧ x ≤ 73048) :
    Calls Tryz.prog 127 #[.string (bs (Lib.join (xs.map dtx) [44]))] w fun r w' => ∃ v, r = .returned v ∧ Wds w' v (xs.map dtx) ∧ Below w.heap.size w w' := by
  refine itemsOf_any (xs.map dtx) w (fun y hy => ?_) (fun y hy => ?_) ?_
  · obtain ⟨x, _, rfl⟩ := List.mem_map.1 hy; exact dtx_no _ _ (by decide)
  · obtain ⟨x, hx, rfl⟩ := List.mem_map.1 hy; exact dtx_ne (hv x hx).1 (hv x hx).2
  · have := joinLen (xs.map dtx) [44] 10 (fun y hy => by obtain ⟨x, _, rfl⟩ := List.mem_map.1 hy; exact dtx_len x)
    rw [List.length_map] at this
    have h31 : xs.length * (10 + [(44 : UInt8)].length) ≤ 60 * 11 := Nat.mul_le_mul h30 (by simp)
    omega
theorem items_mv (xs : List (Int × Int)) (w : World) (h30 : xs.length ≤ 60) :
    Calls Tryz.prog 127 #[.string (bs (Lib.join (xs.map mtx) [44]))] w fun r w' => ∃ v, r = .returned v ∧ Wds w' v (xs.map mtx) ∧ Below w.heap.size w w' := by
  refine itemsOf_any (xs.map mtx) w (fun y hy => ?_) (fun y hy => ?_) ?_
  · obtain ⟨x, _, rfl⟩ := List.mem_map.1 hy; exact mtx_no _ _ (by decide)
  · obtain ⟨x, hx, rfl⟩ := List.mem_map.1 hy; exact mtx_ne x
  · have := joinLen (xs.map mtx) [44] 21 (fun y hy => by obtain ⟨x, _, rfl⟩ := List.mem_map.1 hy; exact mtx_len x)
    rw [List.length_map] at this
    have h31 : xs.length * (21 + [(44 : UInt8)].length) ≤ 60 * 22 := Nat.mul_le_mul h30 (by simp)
    omega

set_option maxHeartbeats 1600000 in
theorem areMoves_any (xs : List (Int × Int)) (w : World) (h30 : xs.length ≤ 60) :
    Calls Tryz.prog 85 #[.string (bs (Lib.join (xs.map mtx) [44]))] w fun r w' => r = .returned (.bool true) ∧ Below w.heap.size w w' := by
  have IT : Hid (Calls _ _ _ _ _) := items_mv xs w h30
  generalize bs (Lib.join (xs.map mtx) [44]) = sb at IT ⊢
  have CN : Hid (∀ (m : Int × Int) (W : World), Calls Tryz.prog 124 #[.string (bs (mtx m)), .string ⟨#[62]⟩] W fun r w' => r = .returned (.int .i64 1) ∧ w' = W) := fun m W => by
    have := Tryz.strings_Count_one (bs (mtx m)) 62 W
    unfold Lib.countByte at this
    rw [bs_data, mtx_count] at this
    exact this
  go_enter Tryz.func85, Tryz.ntmps85
  go_wp2_with (go_at_call 127; refine Calls.mono IT.out ?_; rintro r w1 ⟨v, rfl, hwd, hb1⟩; obtain ⟨wa, wc, rfl, hwl, hwcell⟩ := hwd)
  rw [List.length_map] at hwl
  have HC : Hid (_) := hwcell
  have HB1 : Hid (_) := hb1
  clear hwcell hb1 IT
  go_loopw [4, 8] (fun _ i wr => ∃ m : Nat, m ≤ xs.length ∧ i = .int .i64 m ∧ wr = w1) (fun _ i _ => xs.length - (intOf i).toNat)
  case atStart => exact ⟨0, Nat.zero_le _, rfl, rfl⟩
  case round =>
    obtain ⟨m, hm, rfl, rfl⟩ := hrel
    by_cases hlt : m < xs.length
    · obtain ⟨blk, rfl, hblk, hcl⟩ := HC.out m (by rw [List.length_map]; exact hlt)
      rw [List.getElem_map] at hcl
      unfold sv at hcl
      have C1 : Hid (_) := CN.out xs[m]
      generalize bs (mtx xs[m]) = bt at hcl C1
      clear HC CN
      go_wp2_with (go_at_call 124; refine Calls.mono (C1.out _) ?_; rintro r w' ⟨rfl, rfl⟩)
      go_roundw
      case rel => exact ⟨m + 1, by omega, by go_num, trivial⟩
      case measure => simp [intOf]; omega
    · clear HC
      go_wp2
      go_ret
      exact ⟨rfl, HB1.out⟩

set_option maxHeartbeats 1600000 in
set_option maxRecDepth 100000 in
theorem readListI_any (xs : List Int) (w : World) (h30 : xs.length ≤ 60) (hv : ∀ x ∈ xs, 0 ≤ x ∧ x ≤ 73048) :
    Calls Tryz.prog 88 #[.string (bs (Lib.join (xs.map dtx) [44])), .func (.func 86) #[] #[]] w fun r w' => ∃ v, r = .returned (.tuple #[v, .nilIface]) ∧ Ow w.heap.size w' v xs ∧ Below w.heap.size w w' := by
  obtain ⟨i0, hi, hz0, hz1, hz2⟩ := info_parts info_int
  have IT : Hid (Calls _ _ _ _ _) := items_sk xs w h30 hv
  generalize bs (Lib.join (xs.map dtx) [44]) = sb at IT ⊢
  have HV : Hid (_) := hv
  clear hv
  go_enter Tryz.func88, Tryz.ntmps88
  go_wp2_with (go_at_call 127; refine Calls.mono IT.out ?_; rintro r w1 ⟨v, rfl, hwd, hb1⟩; obtain ⟨wa, wc, rfl, hwl, hwcell⟩ := hwd)
  rw [List.length_map] at hwl
  have HC : Hid (_) := hwcell
  have HB1 : Hid (_) := hb1
  clear hwcell hb1 IT
  go_loopw [6, 8, 9, 10, 14] (fun ov _ _ _ i wr => ∃ m : Nat, m ≤ xs.length ∧ i = .int .i64 m ∧ Hid (Below w1.heap.size w1 wr) ∧ Hid (Ow w1.heap.size wr ov (xs.take m))) (fun _ _ _ _ i _ => xs.length - (intOf i).toNat)
  case atStart => exact ⟨0, Nat.zero_le _, rfl, Below.refl _ _, Ow.nil _ _⟩
  case round =>
    obtain ⟨m, hm, rfl, HB, HO⟩ := hrel
    by_cases hlt : m < xs.length
    · obtain ⟨blk, rfl, hblk, hcl⟩ := HC.out m (by rw [List.length_map]; exact hlt)
      rw [List.getElem_map] at hcl
      unfold sv at hcl
      have hc1 := cell_step hcl HB.out
      have HN : Hid (xs.take (m + 1) = xs.take m ++ [xs[m]]) := List.take_succ_eq_append_getElem hlt
      have hob : (xs.take m).length ≤ 60 := by simp; omega
      obtain ⟨v1, v2⟩ := HV.out xs[m] (List.getElem_mem hlt)
      have C1 : Hid (Calls _ _ _ _ _) := readDay_any xs[m] wr v1 v2
      generalize bs (dtx xs[m]) = bt at hc1 C1
      clear HC hcl HV v1 v2
      generalize xs[m] = x at HN C1
      generalize xs.take m = o at HO HN hob
      obtain ⟨oa, oc, rfl⟩ := ow_form HO.out
      have hzr : w1.heap.size ≤ wr.heap.size := HB.out.size
      go_upto_region 9 with (first
        | (go_at_call 86; refine Calls.mono C1.out ?_; rintro r w2 ⟨rfl, hb2⟩; have OW1 : Hid (Ow w1.heap.size (w2.alloc (.cells #[.int .i64 x] 3)) (.slice oa o.length oc) o) := Ow.step HO.out (below_then hb2 (below_alloc _ _)); have NC : Hid (_) := one_cell w2 x; have hzq : w1.heap.size ≤ w2.heap.size := Nat.le_trans hzr hb2.size; have HB2 : Hid (_) := hb2; clear hb2)
        | (at_builtin; refine wpList_append_own _ rfl _ _ 22 rfl w1.heap.size 3 i0 (.int .i64 0) 1 8 Tryz.underlying22 hi hz0 hz1 hz2 rfl (by decide) _ _ _ rfl OW1.out ⟨w2.heap.size, 0, none⟩ 1 1 [.int .i64 x] rfl rfl NC.out (fun v hv => by rw [List.mem_singleton.1 hv]; rfl) (by unfold maxLen; omega) (by omega) (by simp; omega) ?_; intro v' w3 hown' hgrow _; obtain ⟨g', cap', rfl⟩ := ownsRow_succ hown')
        | go_in)
      have OW2 : Hid (Ow w1.heap.size w3 (.slice (some ⟨g', 0, none⟩) (o.length + 1) cap') (o ++ [x])) := by
        show World.ownsRow _ _ _ _ _ _ _
        rw [List.length_append, List.map_append]
        exact hown'
      have HB3 : Hid (Below w1.heap.size w1 w3) := (below_then HB.out (below_then HB2.out (below_alloc w2 (.cells #[.int .i64 x] 3)))).grown (show (w2.alloc (.cells #[.int .i64 x] 3)).grownBy w3 (Value.slice oa o.length oc).ownBlock from hgrow) (by rw [World.size_alloc]; omega) (fun k q => (World.ownsRow.lt OW1.out k q).1)
      clear hown' hgrow OW1 NC HO HB HB2
      go_wp2
      go_roundw
      case rel => exact ⟨m + 1, by omega, by go_num, HB3.out, by rw [HN.out]; exact OW2.out⟩
      case measure => simp [intOf]; omega
    · have HE : Hid (xs.take m = xs) := List.take_of_length_le (by omega)
      rw [HE.out] at HO
      obtain ⟨oa, oc, rfl⟩ := ow_form HO.out
      clear HC
      go_wp2
      go_ret2
      exact ⟨_, rfl, own_base HO.out HB1.out.size, HB1.out.trans (HB.out.mono HB1.out.size)⟩

theorem two_cell (w : World) (a b : Int) : ∀ (j : Nat) (v : Value), (mcells [(a, b)])[j]? = some v → (w.alloc (.cells #[.int .i64 a, .int .i64 b] 79)).cell? ((⟨w.heap.size, 0, none⟩ : Addr).add j) = some v := fun j v hv => by
  rw [Addr.add_lit, Nat.zero_add, World.cell?_alloc_new]
  have : mcells [(a, b)] = [.int .i64 a, .int .i64 b] := rfl
  rw [this] at hv
  simpa using hv
theorem mcells_app (xs ys : List (Int × Int)) : mcells (xs ++ ys) = mcells xs ++ mcells ys := by
  induction xs with
  | nil => rfl
  | cons x r ih => show _ :: _ :: mcells (r ++ ys) = _; rw [ih]; rfl

set_option maxHeartbeats 1600000 in
set_option maxRecDepth 100000 in
theorem readListM_any (xs : List (Int × Int)) (w : World) (h30 : xs.length ≤ 60) (hv : ∀ m ∈ xs, (0 ≤ m.1 ∧ m.1 ≤ 73048) ∧ 0 ≤ m.2 ∧ m.2 ≤ 73048) :
    Calls Tryz.prog 89 #[.string (bs (Lib.join (xs.map mtx) [44])), .func (.func 90) #[] #[]] w fun r w' => ∃ v, r = .returned (.tuple #[v, .nilIface]) ∧ OwM w.heap.size w' v xs ∧ Below w.heap.size w w' := by
  obtain ⟨i1, hi1, hy0, hy1, hy2⟩ := info_parts info_move
  have IT : Hid (Calls _ _ _ _ _) := items_mv xs w h30
  generalize bs (Lib.join (xs.map mtx) [44]) = sb at IT ⊢
  have HV : Hid (_) := hv
  clear hv
  go_enter Tryz.func89, Tryz.ntmps89
  go_wp2_with (go_at_call 127; refine Calls.mono IT.out ?_; rintro r w1 ⟨v, rfl, hwd, hb1⟩; obtain ⟨wa, wc, rfl, hwl, hwcell⟩ := hwd)
  rw [List.length_map] at hwl
  have HC : Hid (_) := hwcell
  have HB1 : Hid (_) := hb1
  clear hwcell hb1 IT
  go_loopw [6, 8, 9, 10, 14] (fun ov _ _ _ i wr => ∃ m : Nat, m ≤ xs.length ∧ i = .int .i64 m ∧ Hid (Below w1.heap.size w1 wr) ∧ Hid (OwM w1.heap.size wr ov (xs.take m))) (fun _ _ _ _ i _ => xs.length - (intOf i).toNat)
  case atStart => exact ⟨0, Nat.zero_le _, rfl, Below.refl _ _, World.ownsRow_nil _ _ _ _⟩
  case round =>
    obtain ⟨m, hm, rfl, HB, HO⟩ := hrel
    by_cases hlt : m < xs.length
    · obtain ⟨blk, rfl, hblk, hcl⟩ := HC.out m (by rw [List.length_map]; exact hlt)
      rw [List.getElem_map] at hcl
      unfold sv at hcl
      have hc1 := cell_step hcl HB.out
      have HN : Hid (xs.take (m + 1) = xs.take m ++ [xs[m]]) := List.take_succ_eq_append_getElem hlt
      have hob : (xs.take m).length ≤ 60 := by simp; omega
      obtain ⟨⟨v1, v2⟩, v3, v4⟩ := HV.out xs[m] (List.getElem_mem hlt)
      clear HC hcl HV
      generalize xs[m] = x at HN hc1 v1 v2 v3 v4
      obtain ⟨xa, xb⟩ := x
      have C1 : Hid (Calls _ _ _ _ _) := readMove_any xa xb wr v1 v2 v3 v4
      generalize bs (mtx (xa, xb)) = bt at hc1 C1
      clear v1 v2 v3 v4
      generalize xs.take m = o at HO HN hob
      obtain ⟨oa, oc, rfl⟩ := gotM_form (owm_movs HO.out (by omega)).2
      have hzr : w1.heap.size ≤ wr.heap.size := HB.out.size
      go_upto_region 6 with (go_at_call 90; refine Calls.mono C1.out ?_; rintro r w2 ⟨rfl, hb2⟩)
      have hn0 : (w2.alloc (.cells #[.int .i64 xa, .int .i64 xb] 79)).cell? ⟨w2.heap.size, 0, none⟩ = some (.int .i64 xa) := by rw [World.cell?_alloc_new]; rfl
      have hn1 : (w2.alloc (.cells #[.int .i64 xa, .int .i64 xb] 79)).cell? ⟨w2.heap.size, 1, none⟩ = some (.int .i64 xb) := by rw [World.cell?_alloc_new]; rfl
      have HB2 : Hid (Below wr.heap.size wr (w2.alloc (.cells #[.int .i64 xa, .int .i64 xb] 79))) := below_then hb2 (below_alloc _ _)
      clear hb2 C1 hc1
      generalize w2.alloc (.cells #[.int .i64 xa, .int .i64 xb] 79) = wq at hn0 hn1 HB2
      have OW1 : Hid (OwM w1.heap.size (wq.alloc (.cells #[.int .i64 xa, .int .i64 xb] 79)) (.slice oa o.length oc) o) := own_step HO.out (below_then HB2.out (below_alloc _ _))
      have NC : Hid (_) := two_cell wq xa xb
      have hzq : w1.heap.size ≤ wq.heap.size := Nat.le_trans hzr HB2.out.size
      go_upto_region 9 with (first
        | (at_builtin; refine wpList_append_own _ rfl _ _ 25 rfl w1.heap.size 79 i1 (.agg #[.int .i64 0, .int .i64 0]) 2 16 Tryz.underlying25 hi1 hy0 hy1 hy2 rfl (by decide) _ _ _ rfl OW1.out ⟨wq.heap.size, 0, none⟩ 1 1 (mcells [(xa, xb)]) rfl rfl NC.out (mcells_one _) (by unfold maxLen; omega) (by omega) (by simp; omega) ?_; intro v' w3 hown' hgrow _; obtain ⟨g', cap', rfl⟩ := ownsRow_succ hown')
        | go_in)
      have OW2 : Hid (OwM w1.heap.size w3 (.slice (some ⟨g', 0, none⟩) (o.length + 1) cap') (o ++ [(xa, xb)])) := by
        show World.ownsRow _ _ _ _ _ _ _
        rw [List.length_append, mcells_app]
        exact hown'
      have HB3 : Hid (Below w1.heap.size w1 w3) := (below_then HB.out (below_then HB2.out (below_alloc wq (.cells #[.int .i64 xa, .int .i64 xb] 79)))).grown (show (wq.alloc (.cells #[.int .i64 xa, .int .i64 xb] 79)).grownBy w3 (Value.slice oa o.length oc).ownBlock from hgrow) (by rw [World.size_alloc]; omega) (fun k q => (World.ownsRow.lt OW1.out k q).1)
      clear hown' hgrow OW1 NC HO HB HB2
      go_wp2
      go_roundw
      case rel => exact ⟨m + 1, by omega, by go_num, HB3.out, by rw [HN.out]; exact OW2.out⟩
      case measure => simp [intOf]; omega
    · have HE : Hid (xs.take m = xs) := List.take_of_length_le (by omega)
      rw [HE.out] at HO
      obtain ⟨oa, oc, rfl⟩ := gotM_form (owm_movs HO.out (by omega)).2
      clear HC
      go_wp2
      go_ret2
      exact ⟨_, rfl, own_base HO.out HB1.out.size, HB1.out.trans (HB.out.mono HB1.out.size)⟩
end Go.Proofs.YtbhfnloheijhdaaGreatDoor

/- The days of a start and a rule: the iterator that package expand's days hands back gives just those that a count and an end leave of the candidates; none where one of the two is not well. -/
namespace Go.Proofs.YtbhfnloheijhdaaGreatDoor
open Go Go.RowKit Go.Shelf Cal
attribute [local go_sem] Oper.semAt_some

theorem fr_len {p : Int → Bool} : ∀ (n : Nat) (a : Int), (fr p a n).length ≤ n
  | 0, a => by simp [fr]
  | n + 1, a => by
    unfold fr
    have := fr_len (p := p) n (a + 1)
    split
    · simp; omega
    · omega
theorem From_len {p : Int → Bool} {a : Int} (h : 0 ≤ a) : (From p a).length ≤ 73049 := by
  unfold From
  have := fr_len (p := p) (73049 - a).toNat a
  omega

/-- the box of a rule -/
def RB (W : World) (B : Nat) (f : ByteArray) (e : Int) (sl : Value) (c u : Int) : Prop := W.heap[B]? = some (.cells #[.string f, .int .i64 e, sl, .int .i64 c, .int .i64 u] 24 (0, 0))

end Go.Proofs.YtbhfnloheijhdaaGreatDoor

/- Package expand's Days for any start and rule: the function that it hands back gives them. -/
namespace Go.Proofs.YtbhfnloheijhdaaGreatDoor
open Go Go.RowKit Go.Shelf Cal
attribute [local go_sem] Oper.semAt_some

/-- these are the days of a start and a rule -/
def IsDays (f : ByteArray) (e : Int) (ds : List Int) (c u s : Int) (xs : List Int) : Prop :=
  (Well (rd f e ds c u) ∧ 0 ≤ s ∧ s ≤ 73048 ∧ xs = cut c u (cds f.toList s e ds)) ∨ (¬ (Well (rd f e ds c u) ∧ 0 ≤ s ∧ s ≤ 73048) ∧ xs = [])
theorem cut_len (c u : Int) (l : List Int) : (cut c u l).length ≤ l.length := by
  have h : (cutU u l).length ≤ l.length := by
    unfold cutU
    split
    · exact (List.takeWhile_sublist _).length_le
    · exact Nat.le_refl _
  unfold cut
  split
  · exact Nat.le_trans (List.length_take_le' _ _) h
  · exact h
theorem IsDays.len {f : ByteArray} {e : Int} {ds : List Int} {c u s : Int} {xs : List Int} (h : IsDays f e ds c u s xs) : xs.length ≤ 73049 := by
  rcases h with ⟨_, h0, _, rfl⟩ | ⟨_, rfl⟩
  · exact Nat.le_trans (cut_len _ _ _) (From_len h0)
  · simp
theorem IsDays.rise {f : ByteArray} {e : Int} {ds : List Int} {c u s : Int} {xs : List Int} (h : IsDays f e ds c u s xs) : xs.Pairwise (· < ·) := by
  rcases h with ⟨_, _, _, rfl⟩ | ⟨_, rfl⟩
  · exact cut_rise (From_rise _ _)
  · exact List.Pairwise.nil

set_option maxHeartbeats 2000000 in
set_option maxRecDepth 100000 in
theorem cloneI_any (ds : List Int) (sl : Value) (w : World) (hd : Days w sl ds) :
    Calls Tryz.prog 93 #[sl] w fun r w' => ∃ v, r = .returned v ∧ Ow w.heap.size w' v ds ∧ Below w.heap.size w w' := by
  obtain ⟨a, cap, rfl, h20, hcap, hc⟩ := hd
  obtain ⟨i0, hi, hz0, hz1, hz2⟩ := info_parts info_int
  have q22 : ∀ (w : World) (a : Option Addr) (n c n' c' : Nat), (binOp .eql 22 (.slice a n c) (.slice none n' c')).run Tryz.prog w = .ok (.bool a.isNone) w := fun w a n c n' c' => Lib.run_eql_slice_nil w _ _ a n c n' c' Tryz.underlying22
  cases a with
  | none =>
    have h0 : ds = [] := by
      cases ds with
      | nil => rfl
      | cons x r => obtain ⟨b, e, _⟩ := hc 0 (by simp); cases e
    subst h0
    clear hc
    go_enter Tryz.func93, Tryz.ntmps93
    go_wp2
    go_ret
    exact ⟨_, rfl, Ow.nil _ _, Below.refl _ _⟩
  | some ad =>
    have HC : Hid (∀ j v, (ds.map (Value.int .i64))[j]? = some v → (w.alloc (.cells #[] 3)).cell? (ad.add j) = some v) := fun j v hv => by
      rw [List.getElem?_map] at hv
      obtain ⟨d, hd, rfl⟩ := Option.map_eq_some_iff.1 hv
      obtain ⟨hj, rfl⟩ := List.getElem?_eq_some_iff.1 hd
      obtain ⟨b, e, hl, hcc⟩ := hc j hj
      cases e
      rw [Addr.add_lit, Nat.zero_add]
      exact cell_alloc _ hcc
    clear hc
    go_enter Tryz.func93, Tryz.ntmps93
    go_wp2_with (at_builtin; refine wpList_append_own _ rfl _ _ 22 rfl w.heap.size 3 i0 (.int .i64 0) 1 8 Tryz.underlying22 hi hz0 hz1 hz2 rfl (by decide) _ _ _ rfl (World.ownsRow_made w #[] 0 (Nat.le_refl _) (Nat.zero_le _) rfl) ad ds.length cap (ds.map (Value.int .i64)) rfl (by simp) HC.out (fun v hv => by obtain ⟨x, _, rfl⟩ := List.mem_map.1 hv; rfl) (by unfold maxLen; omega) (by omega) (by simp) ?_; intro v' w1 hown hgrow _)
    have OW : Hid (Ow w.heap.size w1 v' ds) := by
      show World.ownsRow _ _ _ _ _ _ _
      simpa using hown
    have HB : Hid (Below w.heap.size w w1) := (below_alloc w (.cells #[] 3)).grown (show (w.alloc (.cells #[] 3)).grownBy w1 (Value.slice (some ⟨w.heap.size, 0, none⟩) 0 0).ownBlock from hgrow) (by simp) (fun k q => (World.ownsRow.lt (World.ownsRow_made (e := 3) (size := 1) w #[] 0 (Nat.le_refl _) (Nat.zero_le _) rfl) k q).1)
    obtain ⟨va, vc, rfl⟩ := ow_form OW.out
    clear hown hgrow HC
    go_wp2
    go_ret
    exact ⟨_, rfl, OW.out, HB.out⟩

/-- Days has handed back an iterator over boxes of its own -/
def Made (f : ByteArray) (e : Int) (ds : List Int) (c u s : Int) (n : Nat) (W : World) (sl : Value) : Prop :=
  Boxed W n 3 (.int .i64 s) ∧ RB W (n + 1) f e sl c u ∧ Ow (n + 2) W sl ds ∧ ds.length ≤ 20
theorem Made.step {f : ByteArray} {e : Int} {sl : Value} {c u : Int} {ds : List Int} {s : Int} {n : Nat} {W W' : World} (hm : Made f e ds c u s n W sl) (hb : Below W.heap.size W W') : Made f e ds c u s n W' sl :=
  ⟨(hb.block _ (Boxed.lt hm.1)).trans hm.1, (hb.block _ (Array.getElem?_eq_some_iff.1 hm.2.1).1).trans hm.2.1, Ow.step hm.2.2.1 hb, hm.2.2.2⟩
/-- the rule's days, as the iterator reads them, under steps that keep what lies behind its boxes -/
theorem Made.days {f : ByteArray} {e : Int} {sl : Value} {c u : Int} {ds : List Int} {s : Int} {n : Nat} {W W' : World} (hm : Made f e ds c u s n W sl) (hk : ∀ k, n + 2 ≤ k → k < W.heap.size → W'.heap[k]? = W.heap[k]?) : Days W' sl ds :=
  ow_days (Ow.steps hm.2.2.1 hk) hm.2.2.2

/-- a row of days whose block lies from lo on, below hi -/
def DaysIn (lo hi : Nat) (W : World) (sl : Value) (ds : List Int) : Prop :=
  ds.length ≤ 20 ∧ ∃ (a : Option Addr) (c : Nat), sl = .slice a ds.length c ∧ ds.length ≤ c ∧ (ds = [] ∨ ∃ (b : Nat) (cs : Array Value) (t : TypeId) (fr : Nat × Nat), a = some ⟨b, 0, none⟩ ∧ lo ≤ b ∧ b < hi ∧ W.heap[b]? = some (.cells cs t fr) ∧ ∀ (j : Nat) (h : j < ds.length), W.cell? ⟨b, j, none⟩ = some (.int .i64 ds[j]))
theorem DaysIn.days {lo hi : Nat} {W : World} {sl : Value} {ds : List Int} (h : DaysIn lo hi W sl ds) : Days W sl ds := by
  obtain ⟨h1, a, c, h2, h3, h4⟩ := h
  refine ⟨a, c, h2, h1, h3, fun j hj => ?_⟩
  rcases h4 with rfl | ⟨b, cs, t, fr, e, _, _, hb, hc⟩
  · exact absurd hj (by simp)
  · exact ⟨b, e, (Array.getElem?_eq_some_iff.1 hb).1, hc j hj⟩
theorem DaysIn.steps {lo hi : Nat} {W W' : World} {sl : Value} {ds : List Int} (h : DaysIn lo hi W sl ds) (hk : ∀ k, lo ≤ k → k < hi → k < W.heap.size → W'.heap[k]? = W.heap[k]?) : DaysIn lo hi W' sl ds := by
  obtain ⟨h1, a, c, h2, h3, h4⟩ := h
  refine ⟨h1, a, c, h2, h3, ?_⟩
  rcases h4 with h4 | ⟨b, cs, t, fr, e, p1, p2, hb, hc⟩
  · exact .inl h4
  · have hk' := hk b p1 p2 (Array.getElem?_eq_some_iff.1 hb).1
    exact .inr ⟨b, cs, t, fr, e, p1, p2, hk'.trans hb, fun j hj => (World.cell?_of_block (a := ⟨b, j, none⟩) hk').trans (hc j hj)⟩
theorem Made.row {f : ByteArray} {e : Int} {sl : Value} {c u : Int} {ds : List Int} {s : Int} {n : Nat} {W : World} (hm : Made f e ds c u s n W sl) : DaysIn (n + 2) W.heap.size W sl ds := by
  obtain ⟨_, _, h, h20⟩ := hm
  rcases h.2 with ⟨rfl, h0⟩ | ⟨g, cap, cur, rfl, hb, hg, hcap, hmax, hsz, htake⟩
  · exact ⟨h20, none, 0, by rw [h0], by omega, .inl (List.length_eq_zero_iff.1 h0)⟩
  · refine ⟨h20, _, cap, rfl, hcap, .inr ⟨g, cur, 3, (0, 0), rfl, hb, (Array.getElem?_eq_some_iff.1 hg).1, hg, fun j hj => ?_⟩⟩
    have := World.ownsRow.cellAt h j (by omega)
    rw [this, List.getElem?_map, List.getElem?_eq_getElem hj]; rfl
end Go.Proofs.YtbhfnloheijhdaaGreatDoor
