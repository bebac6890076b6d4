/- Package event's readers of a field's text: readNumber, areMoves, isShaped, readList, readMove. -/
import Derived.Test.YtjhlbkjcchejjaaGreatDoorYaL
import Derived.Test.YtjhlbkjcchejjaaGreatDoorRuleWW
import Derived.Test.YtjhlbkjcchejjaaGreatDoorEvL2W
import Derived.Test.YtjhlbkjcchejjaaGreatDoorYaI
namespace Go.Proofs.YtjhlbkjcchejjaaGreatDoor
open Go Go.RowKit Cal
attribute [local go_sem] Oper.semAt_some

theorem ereadNumber_any (m : Int) (w : World) (h0 : 0 ≤ m) (h1 : m ≤ 100000) (ht : Tab w) :
    Calls Tryz.prog 68 #[.string (bs (Lib.itoa m))] w fun r w' => r = .returned (.tuple #[.int .i64 m, .bool true]) ∧ Below w.heap.size w w' := by
  have hl := itoa_len m h0 (by omega)
  have hsz : (bs (Lib.itoa m)).size ≤ 6 := by rw [Lib.size_eq, bs_data]; exact hl
  have ha := Tryz.strconv_Atoi (bs (Lib.itoa m)) m (by omega) (by rw [bs_data]; exact itoa_atoi m h0) w
  have A : Hid (Calls Tryz.prog 107 #[.string (bs (Lib.itoa m))] w fun e w' => e = .returned (.tuple #[.int .i64 m, .nilIface]) ∧ Below w.heap.size w w') := by
    refine ha.mono ?_
    rintro e w' ⟨rfl, t, rfl⟩
    exact ⟨rfl, bytes_below _ _ _⟩
  have I : Hid (∀ w, Tab w → Calls Tryz.prog 40 #[.int .i64 m] w fun e w' => e = .returned (.string (bs (Lib.itoa m))) ∧ Below w.heap.size w w') := fun w t => itoa_any m w h0 h1 t
  generalize bs (Lib.itoa m) = sb at hsz A I
  have T : Hid (Tab w) := ht
  have hsz' : (sb.size : Int) ≤ 6 := by omega
  clear ha ht hl
  go_enter Tryz.func68, Tryz.ntmps68
  go_wp2_with (first
    | (go_at_call 107; refine Calls.mono A.out ?_; rintro r w1 ⟨rfl, hb1⟩)
    | (go_at_call 40; refine (I.out _ (T.out.step hb1)).mono ?_; rintro r w2 ⟨rfl, hb2⟩))
  go_ret2
  exact ⟨rfl, below_then hb1 hb2⟩

theorem readDay_any (n : Int) (w : World) (h0 : 0 ≤ n) (h1 : n ≤ 73048) :
    Calls Tryz.prog 70 #[.string (bs (dtx n))] w fun r w' => r = .returned (.tuple #[.int .i64 n, .nilIface]) ∧ Below w.heap.size w w' := by
  obtain ⟨y, m, d, hv, hn, e⟩ := dtx_ok h0 h1
  rw [e]
  have hv' := hv
  obtain ⟨h1, h2, h3, h4, h5, h6⟩ := hv
  have h7 := (dim_bd y m).2
  have hD := txt_isDT y m d (by omega) (by omega) (by omega) (by omega) (by omega) (by omega)
  have hN := txt_nums y m d (by omega) (by omega) (by omega) (by omega) (by omega) (by omega)
  have C := read_ok (bs (txt y m d)) w hD (by unfold bs; rw [hN.1, hN.2.1, hN.2.2]; exact hv')
  unfold bs at C
  rw [hN.1, hN.2.1, hN.2.2, hn] at C
  exact C

set_option maxHeartbeats 1000000 in
theorem readMove_any (a b : Int) (w : World) (ha0 : 0 ≤ a) (ha1 : a ≤ 73048) (hb0 : 0 ≤ b) (hb1 : b ≤ 73048) :
    Calls Tryz.prog 74 #[.string (bs (mtx (a, b)))] w fun r w' => r = .returned (.tuple #[.agg #[.int .i64 a, .int .i64 b], .nilIface]) ∧ Below w.heap.size w w' := by
  have CU : Hid (∀ W, _) := fun W => cut_any (a, b) W
  have RA : Hid (∀ W, _) := fun W => readDay_any a W ha0 ha1
  have RB' : Hid (∀ W, _) := fun W => readDay_any b W hb0 hb1
  dsimp only at CU
  generalize bs (mtx (a, b)) = sm at CU ⊢
  generalize bs (dtx a) = sa at CU RA
  generalize bs (dtx b) = sb at CU RB'
  clear ha0 ha1 hb0 hb1
  have hA := below_alloc w (.cells #[.int .i64 0, .int .i64 0] 72)
  have k0 : (w.alloc (.cells #[.int .i64 0, .int .i64 0] 72)).heap[w.heap.size]? = some (.cells #[.int .i64 0, .int .i64 0] 72 (0, 0)) := block_at _ rfl
  have HA : Hid (_) := hA
  have K0 : Hid (_) := k0
  clear hA k0
  have FX : Hid (∀ W, Below (w.alloc (.cells #[.int .i64 0, .int .i64 0] 72)).heap.size (w.alloc (.cells #[.int .i64 0, .int .i64 0] 72)) W → W.heap[w.heap.size]? = some (.cells #[.int .i64 0, .int .i64 0] 72 (0, 0))) := fun W h => (h.block _ (by simp)).trans K0.out
  go_enter Tryz.func74, Tryz.ntmps74
  go_upto_region 8 with (first
    | (go_at_call 115; refine Calls.mono (CU.out _) ?_; rintro r w1 ⟨rfl, hb1⟩)
    | (go_at_call_of 70 (Value.string sa); refine Calls.mono (RA.out _) ?_; rintro r w2 ⟨rfl, hb2⟩)
    | (go_at_call_of 70 (Value.string sb); refine Calls.mono (RB'.out _) ?_; rintro r w3 ⟨rfl, hb3⟩))
  have hB3 := below_then hb1 (below_then hb2 hb3)
  have kk := FX.out _ hB3
  have c0 : w3.cell? ⟨w.heap.size, 0, none⟩ = some (.int .i64 0) := by simp [World.cell?, kk]
  have c1 : w3.cell? ⟨w.heap.size, 1, none⟩ = some (.int .i64 0) := by simp [World.cell?, kk]
  have f0 := blk11_frozen kk 0
  have f1 := blk11_frozen kk 1
  have KK : Hid (_) := kk
  have HB3 : Hid (_) := hB3
  clear kk hB3 hb1 hb2 hb3
  have g0 : (w3.setCell ⟨w.heap.size, 0, none⟩ (.int .i64 a)).heap[w.heap.size]? = some (.cells #[.int .i64 a, .int .i64 0] 72 (0, 0)) := set_block (i := 0) _ KK.out
  have g1 : ((w3.setCell ⟨w.heap.size, 0, none⟩ (.int .i64 a)).setCell ⟨w.heap.size, 1, none⟩ (.int .i64 b)).heap[w.heap.size]? = some (.cells #[.int .i64 a, .int .i64 b] 72 (0, 0)) := set_block (i := 1) _ g0
  have d0 : ((w3.setCell ⟨w.heap.size, 0, none⟩ (.int .i64 a)).setCell ⟨w.heap.size, 1, none⟩ (.int .i64 b)).cell? ⟨w.heap.size, 0, none⟩ = some (.int .i64 a) := by simp [World.cell?, g1]
  have d1 : ((w3.setCell ⟨w.heap.size, 0, none⟩ (.int .i64 a)).setCell ⟨w.heap.size, 1, none⟩ (.int .i64 b)).cell? ⟨w.heap.size, 1, none⟩ = some (.int .i64 b) := by simp [World.cell?, g1]
  have f2 := blk11_frozen g0 1
  clear g0 g1
  go_wp2
  refine bodyPost_ret (v := .tuple #[.agg #[.int .i64 a, .int .i64 b], .nilIface]) (by simp [results, Tryz.f74, go_sem, d0, d1]) rfl ⟨rfl, ?_⟩
  · exact ((below_then HA.out HB3.out).setCell (p := ⟨w.heap.size, 0, none⟩) (Nat.le_refl _) _).setCell (p := ⟨w.heap.size, 1, none⟩) (Nat.le_refl _) _

theorem dtx_ne {n : Int} (h0 : 0 ≤ n) (h1 : n ≤ 73048) : dtx n ≠ [] := by
  obtain ⟨y, m, d, _, _, e⟩ := dtx_ok h0 h1
  rw [e]
  intro h
  have := congrArg List.length h
  rw [txt_length] at this
  simp at this
theorem mtx_ne (m : Int × Int) : mtx m ≠ [] := by unfold mtx; simp
theorem items_sk (xs : List Int) (w : World) (h30 : xs.length ≤ 60) (hv : ∀ x ∈ xs, 0 ≤ x ∧ x ≤ 73048) :
    Calls Tryz.prog 108 #[.string (bs (Lib.join (xs.map dtx) [44]))] w fun r w' => ∃ v, r = .returned v ∧ Wds w' v (xs.map dtx) ∧ Below w.heap.size w w' := by
  refine itemsOf_any (xs.map dtx) w (fun y hy => ?_) (fun y hy => ?_) ?_
  · obtain ⟨x, _, rfl⟩ := List.mem_map.1 hy; exact dtx_no _ _ (by decide)
  · obtain ⟨x, hx, rfl⟩ := List.mem_map.1 hy; exact dtx_ne (hv x hx).1 (hv x hx).2
  · have := joinLen (xs.map dtx) [44] 10 (fun y hy => by obtain ⟨x, _, rfl⟩ := List.mem_map.1 hy; exact dtx_len x)
    rw [List.length_map] at this
    have h31 : xs.length * (10 + [(44 : UInt8)].length) ≤ 60 * 11 := Nat.mul_le_mul h30 (by simp)
    omega
theorem items_mv (xs : List (Int × Int)) (w : World) (h30 : xs.length ≤ 60) :
    Calls Tryz.prog 108 #[.string (bs (Lib.join (xs.map mtx) [44]))] w fun r w' => ∃ v, r = .returned v ∧ Wds w' v (xs.map mtx) ∧ Below w.heap.size w w' := by
  refine itemsOf_any (xs.map mtx) w (fun y hy => ?_) (fun y hy => ?_) ?_
  · obtain ⟨x, _, rfl⟩ := List.mem_map.1 hy; exact mtx_no _ _ (by decide)
  · obtain ⟨x, hx, rfl⟩ := List.mem_map.1 hy; exact mtx_ne x
  · have := joinLen (xs.map mtx) [44] 21 (fun y hy => by obtain ⟨x, _, rfl⟩ := List.mem_map.1 hy; exact mtx_len x)
    rw [List.length_map] at this
    have h31 : xs.length * (21 + [(44 : UInt8)].length) ≤ 60 * 22 := Nat.mul_le_mul h30 (by simp)
    omega

set_option maxHeartbeats 1600000 in
theorem areMoves_any (xs : List (Int × Int)) (w : World) (h30 : xs.length ≤ 60) :
    Calls Tryz.prog 69 #[.string (bs (Lib.join (xs.map mtx) [44]))] w fun r w' => r = .returned (.bool true) ∧ Below w.heap.size w w' := by
  have IT : Hid (Calls _ _ _ _ _) := items_mv xs w h30
  generalize bs (Lib.join (xs.map mtx) [44]) = sb at IT ⊢
  have CN : Hid (∀ (m : Int × Int) (W : World), Calls Tryz.prog 105 #[.string (bs (mtx m)), .string ⟨#[62]⟩] W fun r w' => r = .returned (.int .i64 1) ∧ w' = W) := fun m W => by
    have := Tryz.strings_Count_one (bs (mtx m)) 62 W
    unfold Lib.countByte at this
    rw [bs_data, mtx_count] at this
    exact this
  go_enter Tryz.func69, Tryz.ntmps69
  go_wp2_with (go_at_call 108; refine Calls.mono IT.out ?_; rintro r w1 ⟨v, rfl, hwd, hb1⟩; obtain ⟨wa, wc, rfl, hwl, hwcell⟩ := hwd)
  rw [List.length_map] at hwl
  have HC : Hid (_) := hwcell
  have HB1 : Hid (_) := hb1
  clear hwcell hb1 IT
  go_loopw [4, 8] (fun _ i wr => ∃ m : Nat, m ≤ xs.length ∧ i = .int .i64 m ∧ wr = w1) (fun _ i _ => xs.length - (intOf i).toNat)
  case atStart => exact ⟨0, Nat.zero_le _, rfl, rfl⟩
  case round =>
    obtain ⟨m, hm, rfl, rfl⟩ := hrel
    by_cases hlt : m < xs.length
    · obtain ⟨blk, rfl, hblk, hcl⟩ := HC.out m (by rw [List.length_map]; exact hlt)
      rw [List.getElem_map] at hcl
      unfold sv at hcl
      have C1 : Hid (_) := CN.out xs[m]
      generalize bs (mtx xs[m]) = bt at hcl C1
      clear HC CN
      go_wp2_with (go_at_call 105; refine Calls.mono (C1.out _) ?_; rintro r w' ⟨rfl, rfl⟩)
      go_roundw
      case rel => exact ⟨m + 1, by omega, by go_num, trivial⟩
      case measure => simp [intOf]; omega
    · clear HC
      go_wp2
      go_ret
      exact ⟨rfl, HB1.out⟩

set_option maxHeartbeats 1600000 in
set_option maxRecDepth 100000 in
theorem readListI_any (xs : List Int) (w : World) (h30 : xs.length ≤ 60) (hv : ∀ x ∈ xs, 0 ≤ x ∧ x ≤ 73048) :
    Calls Tryz.prog 72 #[.string (bs (Lib.join (xs.map dtx) [44])), .func (.func 70) #[] #[]] w fun r w' => ∃ v, r = .returned (.tuple #[v, .nilIface]) ∧ Ow w.heap.size w' v xs ∧ Below w.heap.size w w' := by
  obtain ⟨i0, hi, hz0, hz1, hz2⟩ := info_parts info_int
  have IT : Hid (Calls _ _ _ _ _) := items_sk xs w h30 hv
  generalize bs (Lib.join (xs.map dtx) [44]) = sb at IT ⊢
  have HV : Hid (_) := hv
  clear hv
  go_enter Tryz.func72, Tryz.ntmps72
  go_wp2_with (go_at_call 108; refine Calls.mono IT.out ?_; rintro r w1 ⟨v, rfl, hwd, hb1⟩; obtain ⟨wa, wc, rfl, hwl, hwcell⟩ := hwd)
  rw [List.length_map] at hwl
  have HC : Hid (_) := hwcell
  have HB1 : Hid (_) := hb1
  clear hwcell hb1 IT
  go_loopw [6, 8, 9, 10, 14] (fun ov _ _ _ i wr => ∃ m : Nat, m ≤ xs.length ∧ i = .int .i64 m ∧ Hid (Below w1.heap.size w1 wr) ∧ Hid (Ow w1.heap.size wr ov (xs.take m))) (fun _ _ _ _ i _ => xs.length - (intOf i).toNat)
  case atStart => exact ⟨0, Nat.zero_le _, rfl, Below.refl _ _, Ow.nil _ _⟩
  case round =>
    obtain ⟨m, hm, rfl, HB, HO⟩ := hrel
    by_cases hlt : m < xs.length
    · obtain ⟨blk, rfl, hblk, hcl⟩ := HC.out m (by rw [List.length_map]; exact hlt)
      rw [List.getElem_map] at hcl
      unfold sv at hcl
      have hc1 := cell_step hcl HB.out
      have HN : Hid (xs.take (m + 1) = xs.take m ++ [xs[m]]) := List.take_succ_eq_append_getElem hlt
      have hob : (xs.take m).length ≤ 60 := by simp; omega
      obtain ⟨v1, v2⟩ := HV.out xs[m] (List.getElem_mem hlt)
      have C1 : Hid (Calls _ _ _ _ _) := readDay_any xs[m] wr v1 v2
      generalize bs (dtx xs[m]) = bt at hc1 C1
      clear HC hcl HV v1 v2
      generalize xs[m] = x at HN C1
      generalize xs.take m = o at HO HN hob
      obtain ⟨oa, oc, rfl⟩ := ow_form HO.out
      have hzr : w1.heap.size ≤ wr.heap.size := HB.out.size
      go_upto_region 9 with (first
        | (go_at_call 70; refine Calls.mono C1.out ?_; rintro r w2 ⟨rfl, hb2⟩; have OW1 : Hid (Ow w1.heap.size (w2.alloc (.cells #[.int .i64 x] 3)) (.slice oa o.length oc) o) := Ow.step HO.out (below_then hb2 (below_alloc _ _)); have NC : Hid (_) := one_cell w2 x; have hzq : w1.heap.size ≤ w2.heap.size := Nat.le_trans hzr hb2.size; have HB2 : Hid (_) := hb2; clear hb2)
        | (at_builtin; refine wpList_append_own _ rfl _ _ 22 rfl w1.heap.size 3 i0 (.int .i64 0) 1 8 Tryz.underlying22 hi hz0 hz1 hz2 rfl (by decide) _ _ _ rfl OW1.out ⟨w2.heap.size, 0, none⟩ 1 1 [.int .i64 x] rfl rfl NC.out (fun v hv => by rw [List.mem_singleton.1 hv]; rfl) (by unfold maxLen; omega) (by omega) (by simp; omega) ?_; intro v' w3 hown' hgrow _; obtain ⟨g', cap', rfl⟩ := ownsRow_succ hown')
        | go_in)
      have OW2 : Hid (Ow w1.heap.size w3 (.slice (some ⟨g', 0, none⟩) (o.length + 1) cap') (o ++ [x])) := by
        show World.ownsRow _ _ _ _ _ _ _
        rw [List.length_append, List.map_append]
        exact hown'
      have HB3 : Hid (Below w1.heap.size w1 w3) := (below_then HB.out (below_then HB2.out (below_alloc w2 (.cells #[.int .i64 x] 3)))).grown (show (w2.alloc (.cells #[.int .i64 x] 3)).grownBy w3 (Value.slice oa o.length oc).ownBlock from hgrow) (by rw [World.size_alloc]; omega) (fun k q => (World.ownsRow.lt OW1.out k q).1)
      clear hown' hgrow OW1 NC HO HB HB2
      go_wp2
      go_roundw
      case rel => exact ⟨m + 1, by omega, by go_num, HB3.out, by rw [HN.out]; exact OW2.out⟩
      case measure => simp [intOf]; omega
    · have HE : Hid (xs.take m = xs) := List.take_of_length_le (by omega)
      rw [HE.out] at HO
      obtain ⟨oa, oc, rfl⟩ := ow_form HO.out
      clear HC
      go_wp2
      go_ret2
      exact ⟨_, rfl, own_base HO.out HB1.out.size, HB1.out.trans (HB.out.mono HB1.out.size)⟩

theorem two_cell (w : World) (a b : Int) : ∀ (j : Nat) (v : Value), (mcells [(a, b)])[j]? = some v → (w.alloc (.cells #[.int .i64 a, .int .i64 b] 72)).cell? ((⟨w.heap.size, 0, none⟩ : Addr).add j) = some v := fun j v hv => by
  rw [Addr.add_lit, Nat.zero_add, World.cell?_alloc_new]
  have : mcells [(a, b)] = [.int .i64 a, .int .i64 b] := rfl
  rw [this] at hv
  simpa using hv
theorem mcells_app (xs ys : List (Int × Int)) : mcells (xs ++ ys) = mcells xs ++ mcells ys := by
  induction xs with
  | nil => rfl
  | cons x r ih => show _ :: _ :: mcells (r ++ ys) = _; rw [ih]; rfl

set_option maxHeartbeats 1600000 in
set_option maxRecDepth 100000 in
theorem readListM_any (xs : List (Int × Int)) (w : World) (h30 : xs.length ≤ 60) (hv : ∀ m ∈ xs, (0 ≤ m.1 ∧ m.1 ≤ 73048) ∧ 0 ≤ m.2 ∧ m.2 ≤ 73048) :
    Calls Tryz.prog 73 #[.string (bs (Lib.join (xs.map mtx) [44])), .func (.func 74) #[] #[]] w fun r w' => ∃ v, r = .returned (.tuple #[v, .nilIface]) ∧ OwM w.heap.size w' v xs ∧ Below w.heap.size w w' := by
  obtain ⟨i1, hi1, hy0, hy1, hy2⟩ := info_parts info_move
  have IT : Hid (Calls _ _ _ _ _) := items_mv xs w h30
  generalize bs (Lib.join (xs.map mtx) [44]) = sb at IT ⊢
  have HV : Hid (_) := hv
  clear hv
  go_enter Tryz.func73, Tryz.ntmps73
  go_wp2_with (go_at_call 108; refine Calls.mono IT.out ?_; rintro r w1 ⟨v, rfl, hwd, hb1⟩; obtain ⟨wa, wc, rfl, hwl, hwcell⟩ := hwd)
  rw [List.length_map] at hwl
  have HC : Hid (_) := hwcell
  have HB1 : Hid (_) := hb1
  clear hwcell hb1 IT
  go_loopw [6, 8, 9, 10, 14] (fun ov _ _ _ i wr => ∃ m : Nat, m ≤ xs.length ∧ i = .int .i64 m ∧ Hid (Below w1.heap.size w1 wr) ∧ Hid (OwM w1.heap.size wr ov (xs.take m))) (fun _ _ _ _ i _ => xs.length - (intOf i).toNat)
  case atStart => exact ⟨0, Nat.zero_le _, rfl, Below.refl _ _, World.ownsRow_nil _ _ _ _⟩
  case round =>
    obtain ⟨m, hm, rfl, HB, HO⟩ := hrel
    by_cases hlt : m < xs.length
    · obtain ⟨blk, rfl, hblk, hcl⟩ := HC.out m (by rw [List.length_map]; exact hlt)
      rw [List.getElem_map] at hcl
      unfold sv at hcl
      have hc1 := cell_step hcl HB.out
      have HN : Hid (xs.take (m + 1) = xs.take m ++ [xs[m]]) := List.take_succ_eq_append_getElem hlt
      have hob : (xs.take m).length ≤ 60 := by simp; omega
      obtain ⟨⟨v1, v2⟩, v3, v4⟩ := HV.out xs[m] (List.getElem_mem hlt)
      clear HC hcl HV
      generalize xs[m] = x at HN hc1 v1 v2 v3 v4
      obtain ⟨xa, xb⟩ := x
      have C1 : Hid (Calls _ _ _ _ _) := readMove_any xa xb wr v1 v2 v3 v4
      generalize bs (mtx (xa, xb)) = bt at hc1 C1
      clear v1 v2 v3 v4
      generalize xs.take m = o at HO HN hob
      obtain ⟨oa, oc, rfl⟩ := gotM_form (owm_movs HO.out (by omega)).2
      have hzr : w1.heap.size ≤ wr.heap.size := HB.out.size
      go_upto_region 6 with (go_at_call 74; refine Calls.mono C1.out ?_; rintro r w2 ⟨rfl, hb2⟩)
      have hn0 : (w2.alloc (.cells #[.int .i64 xa, .int .i64 xb] 72)).cell? ⟨w2.heap.size, 0, none⟩ = some (.int .i64 xa) := by rw [World.cell?_alloc_new]; rfl
      have hn1 : (w2.alloc (.cells #[.int .i64 xa, .int .i64 xb] 72)).cell? ⟨w2.heap.size, 1, none⟩ = some (.int .i64 xb) := by rw [World.cell?_alloc_new]; rfl
      have HB2 : Hid (Below wr.heap.size wr (w2.alloc (.cells #[.int .i64 xa, .int .i64 xb] 72))) := below_then hb2 (below_alloc _ _)
      clear hb2 C1 hc1
      generalize w2.alloc (.cells #[.int .i64 xa, .int .i64 xb] 72) = wq at hn0 hn1 HB2
      have OW1 : Hid (OwM w1.heap.size (wq.alloc (.cells #[.int .i64 xa, .int .i64 xb] 72)) (.slice oa o.length oc) o) := own_step HO.out (below_then HB2.out (below_alloc _ _))
      have NC : Hid (_) := two_cell wq xa xb
      have hzq : w1.heap.size ≤ wq.heap.size := Nat.le_trans hzr HB2.out.size
      go_upto_region 9 with (first
        | (at_builtin; refine wpList_append_own _ rfl _ _ 25 rfl w1.heap.size 72 i1 (.agg #[.int .i64 0, .int .i64 0]) 2 16 Tryz.underlying25 hi1 hy0 hy1 hy2 rfl (by decide) _ _ _ rfl OW1.out ⟨wq.heap.size, 0, none⟩ 1 1 (mcells [(xa, xb)]) rfl rfl NC.out (mcells_one _) (by unfold maxLen; omega) (by omega) (by simp; omega) ?_; intro v' w3 hown' hgrow _; obtain ⟨g', cap', rfl⟩ := ownsRow_succ hown')
        | go_in)
      have OW2 : Hid (OwM w1.heap.size w3 (.slice (some ⟨g', 0, none⟩) (o.length + 1) cap') (o ++ [(xa, xb)])) := by
        show World.ownsRow _ _ _ _ _ _ _
        rw [List.length_append, mcells_app]
        exact hown'
      have HB3 : Hid (Below w1.heap.size w1 w3) := (below_then HB.out (below_then HB2.out (below_alloc wq (.cells #[.int .i64 xa, .int .i64 xb] 72)))).grown (show (wq.alloc (.cells #[.int .i64 xa, .int .i64 xb] 72)).grownBy w3 (Value.slice oa o.length oc).ownBlock from hgrow) (by rw [World.size_alloc]; omega) (fun k q => (World.ownsRow.lt OW1.out k q).1)
      clear hown' hgrow OW1 NC HO HB HB2
      go_wp2
      go_roundw
      case rel => exact ⟨m + 1, by omega, by go_num, HB3.out, by rw [HN.out]; exact OW2.out⟩
      case measure => simp [intOf]; omega
    · have HE : Hid (xs.take m = xs) := List.take_of_length_le (by omega)
      rw [HE.out] at HO
      obtain ⟨oa, oc, rfl⟩ := gotM_form (owm_movs HO.out (by omega)).2
      clear HC
      go_wp2
      go_ret2
      exact ⟨_, rfl, own_base HO.out HB1.out.size, HB1.out.trans (HB.out.mono HB1.out.size)⟩
end Go.Proofs.YtjhlbkjcchejjaaGreatDoor

/- Package event's fill: a field of an event, read of its text; the fields' names; Copy. -/
namespace Go.Proofs.YtjhlbkjcchejjaaGreatDoor
open Go Go.RowKit Cal
attribute [local go_sem] Oper.semAt_some

/-- an event with one field of another's -/
def upd (E F : EV) : Nat → EV
  | 0 => { E with ti := F.ti }
  | 1 => { E with st := F.st }
  | 2 => { E with lg := F.lg }
  | 3 => { E with f := F.f, e := F.e, ds := F.ds, c := F.c, u := F.u }
  | 4 => { E with sk := F.sk }
  | _ => { E with mv := F.mv }
theorem bs_own (s : ByteArray) : bs s.data.toList = s := ba_ext rfl

theorem shaped_any (E : EV) (k : Nat) (hk : k < 6) (w : World) (hw : EW E) (ht : Tab w) :
    Calls Tryz.prog 32 #[.string (fldB k), .string (bs (fT E k))] w fun r w' => r = .returned (.bool true) ∧ Below w.heap.size w w' := by
  obtain ⟨k20, m20, _⟩ := lk_of hw.ls
  match k, hk with
  | 0, _ =>
    generalize bs (fT E 0) = sb
    unfold fldB
    go_enter Tryz.func32, Tryz.ntmps32
    go_wp2
    go_ret
    exact ⟨rfl, Below.refl _ _⟩
  | 1, _ =>
    generalize bs (fT E 1) = sb
    unfold fldB
    go_enter Tryz.func32, Tryz.ntmps32
    go_wp2
    go_ret
    exact ⟨rfl, Below.refl _ _⟩
  | 2, _ =>
    have R : Hid (Calls _ _ _ _ _) := ereadNumber_any E.lg w (by have := hw.bd.2.1; omega) (by have := hw.bd.2.2; omega) ht
    show Calls _ _ #[.string (fldB 2), .string (bs (Lib.itoa E.lg))] _ _
    generalize bs (Lib.itoa E.lg) = sb at R ⊢
    unfold fldB
    go_enter Tryz.func32, Tryz.ntmps32
    go_wp2_with (go_at_call 68; refine Calls.mono R.out ?_; rintro r w1 ⟨rfl, hb1⟩)
    go_ret
    exact ⟨rfl, hb1⟩
  | 3, _ =>
    generalize bs (fT E 3) = sb
    unfold fldB
    go_enter Tryz.func32, Tryz.ntmps32
    go_wp2
    go_ret
    exact ⟨rfl, Below.refl _ _⟩
  | 4, _ =>
    generalize bs (fT E 4) = sb
    unfold fldB
    go_enter Tryz.func32, Tryz.ntmps32
    go_wp2
    go_ret
    exact ⟨rfl, Below.refl _ _⟩
  | 5, _ =>
    have R : Hid (Calls _ _ _ _ _) := areMoves_any E.mv w (by omega)
    show Calls _ _ #[.string (fldB 5), .string (bs (Lib.join (E.mv.map mtx) [44]))] _ _
    generalize bs (Lib.join (E.mv.map mtx) [44]) = sb at R ⊢
    unfold fldB
    go_enter Tryz.func32, Tryz.ntmps32
    go_wp2_with (go_at_call 69; refine Calls.mono R.out ?_; rintro r w1 ⟨rfl, hb1⟩)
    go_ret
    exact ⟨rfl, hb1⟩

set_option maxHeartbeats 4000000 in
set_option maxRecDepth 100000 in
theorem fill_any (E F : EV) (sl skv mvv : Value) (k : Nat) (hk : k < 6) (B : Nat) (N : Nat → Prop) (hN : N B) (w : World) (hN2 : ∀ n, N n → n < w.heap.size) (g : GlobR w) (hB : EB w B E sl skv mvv) (hO : Off N w E sl skv mvv) (hw : EW F) (h20 : F.ds.length ≤ 20) :
    Calls Tryz.prog 33 #[.pointer (some ⟨B, 0, none⟩), .string (fldB k), .string (bs (fT F k))] w fun r w' => r = .returned .nilIface ∧ w.grownBy w' (some B) ∧ ∃ sl' skv' mvv', EB w' B (upd E F k) sl' skv' mvv' ∧ Off N w' (upd E F k) sl' skv' mvv' := by
  obtain ⟨k20, m20, _, _, kd, md, _⟩ := lk_of hw.ls
  match k, hk with
  | 0, _ =>
    show Calls _ _ #[_, .string (fldB 0), .string (bs F.ti.data.toList)] _ _
    rw [bs_own]
    have HBX : Hid (EB w B E sl skv mvv) := hB
    have HOX : Hid (Off N w E sl skv mvv) := hO
    obtain ⟨x0, x1, x2, x3, x4, x5, x6, x7, x8, x9, x10⟩ := blk11 (show w.heap[B]? = _ from hB)
    have z := blk11_frozen (show w.heap[B]? = _ from hB) 1
    unfold fldB
    go_enter Tryz.func33, Tryz.ntmps33
    go_wp2
    go_ret
    exact ⟨rfl, grown_set _ ⟨B, 1, none⟩ _, sl, skv, mvv, set11_1 (.string F.ti) HBX.out, (HOX.out.grown hN (grown_set _ ⟨B, 1, none⟩ _) : Off N _ E sl skv mvv).d, (HOX.out.grown hN (grown_set _ ⟨B, 1, none⟩ _) : Off N _ E sl skv mvv).s, (HOX.out.grown hN (grown_set _ ⟨B, 1, none⟩ _) : Off N _ E sl skv mvv).m⟩
  | 1, _ =>
    have R : Hid (Calls _ _ _ _ _) := readDay_any F.st w hw.bd.1.1 hw.bd.1.2
    show Calls _ _ #[_, .string (fldB 1), .string (bs (dtx F.st))] _ _
    generalize bs (dtx F.st) = sb at R ⊢
    have HBX : Hid (EB w B E sl skv mvv) := hB
    have HOX : Hid (Off N w E sl skv mvv) := hO
    unfold fldB
    clear hB hO
    go_enter Tryz.func33, Tryz.ntmps33
    go_wp2_with (go_at_call 70; refine Calls.mono R.out ?_; rintro r w1 ⟨rfl, hb1⟩; obtain ⟨x0, x1, x2, x3, x4, x5, x6, x7, x8, x9, x10⟩ := blk11 (show w1.heap[B]? = _ from HBX.out.step hb1); have z := blk11_frozen (show w1.heap[B]? = _ from HBX.out.step hb1) 2)
    go_ret
    have gg : w.grownBy (w1.setCell ⟨B, 2, none⟩ (.int .i64 F.st)) (some B) := grown_then (grown_below hb1 _) (grown_set _ ⟨B, 2, none⟩ _)
    exact ⟨rfl, gg, sl, skv, mvv, set11_2 (.int .i64 F.st) (HBX.out.step hb1), (HOX.out.grown hN gg).d, (HOX.out.grown hN gg).s, (HOX.out.grown hN gg).m⟩
  | 2, _ =>
    have R : Hid (Calls _ _ _ _ _) := ereadNumber_any F.lg w (by have := hw.bd.2.1; omega) (by have := hw.bd.2.2; omega) g.tab
    show Calls _ _ #[_, .string (fldB 2), .string (bs (Lib.itoa F.lg))] _ _
    generalize bs (Lib.itoa F.lg) = sb at R ⊢
    have HBX : Hid (EB w B E sl skv mvv) := hB
    have HOX : Hid (Off N w E sl skv mvv) := hO
    unfold fldB
    clear hB hO
    go_enter Tryz.func33, Tryz.ntmps33
    go_wp2_with (go_at_call 68; refine Calls.mono R.out ?_; rintro r w1 ⟨rfl, hb1⟩; obtain ⟨x0, x1, x2, x3, x4, x5, x6, x7, x8, x9, x10⟩ := blk11 (show w1.heap[B]? = _ from HBX.out.step hb1); have z := blk11_frozen (show w1.heap[B]? = _ from HBX.out.step hb1) 3)
    go_ret
    have gg : w.grownBy (w1.setCell ⟨B, 3, none⟩ (.int .i64 F.lg)) (some B) := grown_then (grown_below hb1 _) (grown_set _ ⟨B, 3, none⟩ _)
    exact ⟨rfl, gg, sl, skv, mvv, set11_3 (.int .i64 F.lg) (HBX.out.step hb1), (HOX.out.grown hN gg).d, (HOX.out.grown hN gg).s, (HOX.out.grown hN gg).m⟩
  | 3, _ =>
    obtain ⟨t, ht, et⟩ := ruT_ok hw.rl
    have R := rread_ow F.f F.e F.ds F.c F.u t w g h20 hw.rl ht
    show Calls _ _ #[_, .string (fldB 3), .string (bs (ruT (rd F.f F.e F.ds F.c F.u)))] _ _
    rw [et]
    generalize bs (rtext (rd F.f F.e F.ds F.c F.u) t) = sb at R ⊢
    unfold rv at R
    have HR : Hid (Calls _ _ _ _ _) := R
    have HBX : Hid (EB w B E sl skv mvv) := hB
    have HOX : Hid (Off N w E sl skv mvv) := hO
    unfold fldB
    clear hB hO R
    go_enter Tryz.func33, Tryz.ntmps33
    go_wp2_with (go_at_call 71; refine Calls.mono HR.out ?_; rintro r w1 ⟨s1, rfl, ho1, hb1⟩; obtain ⟨ra, rc, rfl⟩ := ow_form ho1; obtain ⟨x0, x1, x2, x3, x4, x5, x6, x7, x8, x9, x10⟩ := blk11 (show w1.heap[B]? = _ from HBX.out.step hb1); have z4 := blk11_frozen (show w1.heap[B]? = _ from HBX.out.step hb1) 4; have z5 := blk11_frozen (show w1.heap[B]? = _ from HBX.out.step hb1) 5; have z6 := blk11_frozen (show w1.heap[B]? = _ from HBX.out.step hb1) 6; have z7 := blk11_frozen (show w1.heap[B]? = _ from HBX.out.step hb1) 7; have z8 := blk11_frozen (show w1.heap[B]? = _ from HBX.out.step hb1) 8)
    rw [put5_fold]
    have g5 := put5_grown w1 B (.string F.f) (.int .i64 F.e) (.slice ra F.ds.length rc) (.int .i64 F.c) (.int .i64 F.u)
    have b5 := put5_blk (.string F.f) (.int .i64 F.e) (.slice ra F.ds.length rc) (.int .i64 F.c) (.int .i64 F.u) (show w1.heap[B]? = _ from HBX.out.step hb1)
    generalize put5 w1 B (.string F.f) (.int .i64 F.e) (.slice ra F.ds.length rc) (.int .i64 F.c) (.int .i64 F.u) = w2 at g5 b5 ⊢
    go_ret
    have gg : w.grownBy w2 (some B) := grown_then (grown_below hb1 _) g5
    exact ⟨rfl, gg, .slice ra F.ds.length rc, skv, mvv, b5, (ow_off ho1 hN2 (by omega)).grown hN g5, (HOX.out.grown hN gg).s, (HOX.out.grown hN gg).m⟩
  | 4, _ =>
    have R : Hid (Calls _ _ _ _ _) := readListI_any F.sk w (by omega) kd
    show Calls _ _ #[_, .string (fldB 4), .string (bs (Lib.join (F.sk.map dtx) [44]))] _ _
    generalize bs (Lib.join (F.sk.map dtx) [44]) = sb at R ⊢
    have HBX : Hid (EB w B E sl skv mvv) := hB
    have HOX : Hid (Off N w E sl skv mvv) := hO
    unfold fldB
    clear hB hO
    go_enter Tryz.func33, Tryz.ntmps33
    go_wp2_with (go_at_call 72; refine Calls.mono R.out ?_; rintro r w1 ⟨s1, rfl, ho1, hb1⟩; obtain ⟨ra, rc, rfl⟩ := ow_form ho1; obtain ⟨x0, x1, x2, x3, x4, x5, x6, x7, x8, x9, x10⟩ := blk11 (show w1.heap[B]? = _ from HBX.out.step hb1); have z := blk11_frozen (show w1.heap[B]? = _ from HBX.out.step hb1) 9)
    go_ret
    have gg : w.grownBy (w1.setCell ⟨B, 9, none⟩ (.slice ra F.sk.length rc)) (some B) := grown_then (grown_below hb1 _) (grown_set _ ⟨B, 9, none⟩ _)
    exact ⟨rfl, gg, sl, (.slice ra F.sk.length rc), mvv, set11_9 (.slice ra F.sk.length rc) (HBX.out.step hb1), (HOX.out.grown hN gg).d, (ow_off ho1 hN2 (by omega)).grown hN (grown_set _ ⟨B, 9, none⟩ _), (HOX.out.grown hN gg).m⟩
  | 5, _ =>
    have R : Hid (Calls _ _ _ _ _) := readListM_any F.mv w (by omega) md
    show Calls _ _ #[_, .string (fldB 5), .string (bs (Lib.join (F.mv.map mtx) [44]))] _ _
    generalize bs (Lib.join (F.mv.map mtx) [44]) = sb at R ⊢
    have HBX : Hid (EB w B E sl skv mvv) := hB
    have HOX : Hid (Off N w E sl skv mvv) := hO
    unfold fldB
    clear hB hO
    go_enter Tryz.func33, Tryz.ntmps33
    go_wp2_with (go_at_call 73; refine Calls.mono R.out ?_; rintro r w1 ⟨s1, rfl, ho1, hb1⟩; obtain ⟨ra, rc, rfl⟩ := gotM_form (owm_movs ho1 (by omega)).2; obtain ⟨x0, x1, x2, x3, x4, x5, x6, x7, x8, x9, x10⟩ := blk11 (show w1.heap[B]? = _ from HBX.out.step hb1); have z := blk11_frozen (show w1.heap[B]? = _ from HBX.out.step hb1) 10)
    go_ret
    have gg : w.grownBy (w1.setCell ⟨B, 10, none⟩ (.slice ra F.mv.length rc)) (some B) := grown_then (grown_below hb1 _) (grown_set _ ⟨B, 10, none⟩ _)
    exact ⟨rfl, gg, sl, skv, (.slice ra F.mv.length rc), set11_10 (.slice ra F.mv.length rc) (HBX.out.step hb1), (HOX.out.grown hN gg).d, (HOX.out.grown hN gg).s, (owm_off ho1 hN2 (by omega)).grown hN (grown_set _ ⟨B, 10, none⟩ _)⟩
end Go.Proofs.YtjhlbkjcchejjaaGreatDoor

/- Whether a name is a field's. -/
namespace Go.Proofs.YtjhlbkjcchejjaaGreatDoor
open Go Go.RowKit Cal
attribute [local go_sem] Oper.semAt_some

theorem fld_eq (i k : Nat) (hi : i < 6) (hk : k < 6) : ((fldB k).toList == (fldB i).toList) = decide (i = k) := by
  rw [ByteArray.toList_eq, ByteArray.toList_eq]
  have h : ∀ i : Fin 6, ∀ k : Fin 6, ((fldB k.1).data.toList == (fldB i.1).data.toList) = decide (i.1 = k.1) := by decide
  exact h ⟨i, hi⟩ ⟨k, hk⟩

theorem indexS_any (k : Nat) (hk : k < 6) (nf : Nat) (w : World) (hc : ∀ (i : Nat), i < 6 → w.cell? ⟨nf, i, none⟩ = some (.string (fldB i))) :
    Calls Tryz.prog 78 #[.slice (some ⟨nf, 0, none⟩) 6 6, .string (fldB k)] w fun r w' => r = .returned (.int .i64 k) ∧ w' = w := by
  have HC : Hid (∀ (i : Nat), i < 6 → w.cell? ⟨nf, i, none⟩ = some (.string (fldB i))) := hc
  have HF : Hid (∀ (i : Nat), i < 6 → ((fldB k).toList == (fldB i).toList) = decide (i = k)) := fun i hi => fld_eq i k hi hk
  generalize fldB k = fk at HF ⊢
  clear hc
  go_enter Tryz.func78, Tryz.ntmps78
  go_wp2
  go_loop [5, 8] (fun _ i => ∃ m : Nat, m ≤ k ∧ i = .int .i64 m) (fun _ i => 6 - (intOf i).toNat)
  case atStart => exact ⟨0, Nat.zero_le _, rfl⟩
  case round =>
    obtain ⟨m, hm, rfl⟩ := hrel
    have hc1 := HC.out m (by omega)
    have hq := HF.out m (by omega)
    by_cases hmk : m = k
    · rw [decide_eq_true hmk] at hq
      have HE : Hid (m = k) := hmk
      generalize fldB m = fm at hc1 hq
      clear HC HF hmk
      have hm6 : (m : Int) < 6 := by omega
      go_wp2
      go_ret
      exact ⟨by rw [← HE.out]; rfl, rfl⟩
    · rw [decide_eq_false hmk] at hq
      generalize fldB m = fm at hc1 hq
      clear HC HF
      have hm6 : (m : Int) < 6 := by omega
      go_wp2
      go_round
      case rel => exact ⟨m + 1, by omega, by go_num⟩
      case measure => simp [intOf]; omega
theorem containsS_any (k : Nat) (hk : k < 6) (nf : Nat) (w : World) (hc : ∀ (i : Nat), i < 6 → w.cell? ⟨nf, i, none⟩ = some (.string (fldB i))) :
    Calls Tryz.prog 37 #[.slice (some ⟨nf, 0, none⟩) 6 6, .string (fldB k)] w fun r w' => r = .returned (.bool true) ∧ w' = w := by
  have I : Hid (Calls _ _ _ _ _) := indexS_any k hk nf w hc
  generalize fldB k = fk at I ⊢
  clear hc
  go_enter Tryz.func37, Tryz.ntmps37
  go_wp2_with (go_at_call 78; refine Calls.mono I.out ?_; rintro r w' ⟨rfl, rfl⟩)
  go_ret
  exact ⟨rfl, rfl⟩
end Go.Proofs.YtjhlbkjcchejjaaGreatDoor
