/- The law BookOn: who is on a day is who covers it; what is dropped is on none. -/
import Derived.Test.YtnpecjccajebiaaGreatDoorBpFW
namespace Go.Proofs.YtnpecjccajebiaaGreatDoor
open Go Go.RowKit Go.Maps Cal
attribute [local go_sem] Oper.semAt_some

theorem on_mem {C : List EV} (h : Rises C) (cv : EV → Bool) {E : EV} (hE : E ∈ C) : cv E = true ↔ E.id ∈ (C.filter cv).map EV.id := by
  constructor
  · intro q; exact List.mem_map_of_mem (List.mem_filter.2 ⟨hE, q⟩)
  · intro q
    obtain ⟨F, hF, e⟩ := List.mem_map.1 q
    obtain ⟨h1, h2⟩ := List.mem_filter.1 hF
    rwa [h.uniq h1 hE e] at h2
theorem flt_one (cv : EV → Bool) (E : EV) : ([E].filter cv).length = if cv E then 1 else 0 := by
  cases h : cv E <;> simp [h]
theorem ids_mem {C : List EV} {id : ByteArray} : id ∈ C.map EV.id ↔ ∃ E ∈ C, E.id = id := by
  rw [List.mem_map]
theorem on_gone {C : List EV} (cv : EV → Bool) {id : ByteArray} (h : ∀ E ∈ C, E.id ≠ id) : ¬ id ∈ (C.filter cv).map EV.id := fun q => by
  obtain ⟨F, hF, e⟩ := List.mem_map.1 q
  exact h F (List.mem_filter.1 hF).1 e

set_option maxHeartbeats 8000000 in
set_option maxRecDepth 100000 in
theorem bookOn_all (Es : List EV) (v : Value) (d : Int) (id : ByteArray) (s : Nat → Addr) (p : Addr) (w : World) (g : GlobK s w) (hN : w.cell? ⟨3, 0, none⟩ = some (.iface 288 (.pointer (some p)))) (hE : EvsL w v Es) :
    Calls Tryz.prog 4 #[v, .int .i64 d, .string id] w fun r w' => r = .returned (.bool true) ∧ Below w.heap.size w w' := by
  classical
  have BK : Hid (Calls _ _ _ _ _) := booked_any s w g
  have LE : Hid (∀ W, Below w.heap.size w W → Calls Tryz.prog 7 #[v] W fun r w' => ∃ k : Int, r = .returned (.int .i64 k) ∧ (k = 1 ∨ (k = 0 ∧ Es.length ≤ 70 ∧ ∀ E ∈ Es, lngE E = 0)) ∧ Below W.heap.size W w') := fun W hW => longEvents_any Es v W (hE.step hW)
  have BO : Hid (∀ W, Below w.heap.size w W → Es.length ≤ 70 → (∀ E ∈ Es, lngE E = 0) → Calls Tryz.prog 8 #[v] W fun r w' => ∃ bb mo n vm Xs, r = .returned (.tuple #[.pointer (some ⟨bb, 0, none⟩), .agg #[vm]]) ∧ W.heap.size ≤ bb ∧ BookAt W.heap.size w' bb mo n (calOf Es) ∧ n ≤ 70 ∧ MR W.heap.size w' vm Xs ∧ Xs.map EX.E = calOf Es ∧ (∀ X ∈ Xs, XGot W X) ∧ Below W.heap.size W w') := fun W hW h1 h2 => bookOf_any Es v s W (g.step hW) (hE.step hW) h1 h2
  obtain ⟨a, cap, rfl, _, _, _⟩ := hE
  have HG : Hid (GlobK s w) := g
  have HN : Hid (_) := hN
  clear g hN
  go_enter Tryz.func4, Tryz.ntmps4
  go_upto_region 2 with (go_at_call 6; refine Calls.mono BK.out ?_; rintro r w1 ⟨rfl, hb1⟩)
  have LE1 : Hid (Calls _ _ _ _ _) := LE.out w1 hb1
  have B1 : Hid (Below w.heap.size w w1) := hb1
  clear LE BK hb1
  go_upto_if 31 with (go_at_call 7; refine Calls.mono LE1.out ?_; rintro r w2 ⟨k, rfl, hk, hb2⟩; rcases hk with rfl | ⟨rfl, h70, hl⟩)
  · go_wp2
    go_ret
    exact ⟨rfl, below_then B1.out hb2⟩
  · by_cases hid : (30 : Int) < (id.size : Int)
    · clear BO
      go_wp2
      go_ret
      exact ⟨rfl, below_then B1.out hb2⟩
    · have hid30 : id.size ≤ 30 := by omega
      have B2 : Hid (Below w.heap.size w w2) := below_then B1.out hb2
      have BO2 : Hid (Calls _ _ _ _ _) := BO.out w2 B2.out h70 hl
      have HC60 : Hid ((calOf Es).length ≤ 60) := (calOf_ok Es).2
      clear BO B1 LE1 hb2 hl h70
      generalize calOf Es = C at BO2 HC60
      go_upto_region 5 with (go_at_call 8; refine Calls.mono BO2.out ?_; rintro r w3 ⟨bb, mo, n, vm, Xs, rfl, hbb, hbk, hn, hmr, hsm, _, hb3⟩; obtain ⟨oa, oc, rfl, _, _⟩ := hmr.form)
      have BK3 : Hid (BookAt w2.heap.size (w3.alloc (.cells #[.slice oa Xs.length oc] 27)) bb mo n C) := hbk.step (below_alloc _ _)
      have B3 : Hid (Below w.heap.size w (w3.alloc (.cells #[.slice oa Xs.length oc] 27))) := below_then B2.out (below_then hb3 (below_alloc _ _))
      have HS23 : Hid (w2.heap.size ≤ w3.heap.size) := hb3.size
      clear hbk hmr hsm hb3 BO2
      generalize w3.alloc (.cells #[.slice oa Xs.length oc] 27) = w4 at BK3 B3 ⊢
      obtain ⟨cv, hcv⟩ : ∃ cv : EV → Bool, ∀ E, cv E = true ↔ covers E d := ⟨fun E => decide (covers E d), fun E => decide_eq_true_iff⟩
      have HCV : Hid (∀ E, cv E = true ↔ covers E d) := hcv
      clear hcv
      have ON : Hid (Calls _ _ _ _ _) := on_C w2.heap.size bb n mo C d cv (fun E _ => HCV.out E) s w4 (HG.out.step B3.out) BK3.out (by omega)
      have ID : Hid (∀ W, Below w4.heap.size w4 W → Calls Tryz.prog 12 #[.pointer (some ⟨bb, 0, none⟩)] W fun r w' => ∃ v, r = .returned v ∧ RowV W.heap.size w' v (C.map EV.id) ∧ Below W.heap.size W w') := fun W hW => ids_C w2.heap.size bb n mo C W (BK3.out.step hW) (by omega)
      have hL1 : ((C.filter cv).map EV.id).length ≤ 80000 := by
        rw [List.length_map]
        have := List.length_filter_le cv C
        have := HC60.out
        omega
      have hL2 : (C.map EV.id).length ≤ 80000 := by
        rw [List.length_map]
        have := HC60.out
        omega
      go_upto_region 9 with (first
        | (go_at_call 17; refine Calls.mono ON.out ?_; rintro r w5 ⟨von, rfl, hron, hb5⟩; have HTO : Hid (Txs w5 von ((C.filter cv).map EV.id)) := hron.txs hL1; have ID5 : Hid (Calls _ _ _ _ _) := ID.out w5 hb5; obtain ⟨oa5, oc5, rfl, _⟩ := hron.txs hL1)
        | (go_at_call 12; refine Calls.mono ID5.out ?_; rintro r w6 ⟨vid, rfl, hrid, hb6⟩; have HTI : Hid (Txs w6 vid (C.map EV.id)) := hrid.txs hL2; obtain ⟨ia, ic, rfl, hil, hic, hcl⟩ := hrid.txs hL2))
      have BK6 : Hid (BookAt w2.heap.size w6 bb mo n C) := BK3.out.step (below_then hb5 hb6)
      have B6 : Hid (Below w.heap.size w w6) := below_then B3.out (below_then hb5 hb6)
      have HTO6 : Hid (Txs w6 _ ((C.filter cv).map EV.id)) := HTO.out.step hb6
      have HCL : Hid (_) := hcl
      have HRS : Hid (Rises C ∧ ∀ E ∈ C, EW E) := BK3.out.rises
      clear ON ID ID5 HTO hron hrid hb5 hb6 hcl BK3 B3
      rw [List.length_map] at hil hic
      have hfl : ((C.filter cv).map EV.id).length = (C.filter cv).length := List.length_map _
      have hcl60 : C.length ≤ 60 := HC60.out
      rw [hfl] at HTO6
      rw [show (C.map EV.id).length = C.length from List.length_map _] at HTI
      have HCL2 : Hid (∀ (j : Nat) (h : j < C.length), ∃ b : Nat, ia = some ⟨b, 0, none⟩ ∧ b < w6.heap.size ∧ w6.cell? ⟨b, j, none⟩ = some (.string C[j].id)) := fun j hj => by
        obtain ⟨b, q1, q2, q3⟩ := HCL.out j (by rw [List.length_map]; exact hj)
        rw [List.getElem_map] at q3
        exact ⟨b, q1, q2, q3⟩
      have HFL : Hid ((C.filter cv).length = (C.filter cv).length) := rfl
      generalize hFL : (C.filter cv).length = fl at HTO6 hfl HFL ⊢
      have HFL2 : Hid ((C.filter cv).length = fl) := hFL
      have hfl60 : fl ≤ 60 := by rw [← hFL]; exact Nat.le_trans (List.length_filter_le _ _) hcl60
      clear hFL HFL hfl HCL hL1 hL2
      go_wp2
      go_loopw [12, 13] (fun nn i wr => ∃ m c : Nat, m ≤ C.length ∧ i = .int .i64 m ∧ nn = .int .i64 c ∧ c ≤ m ∧ Hid (c = ((C.take m).filter cv).length) ∧ Hid (Below w6.heap.size w6 wr)) (fun _ i _ => C.length - (intOf i).toNat)
      case atStart => exact ⟨0, 0, Nat.zero_le _, rfl, rfl, Nat.le_refl _, rfl, Below.refl _ _⟩
      case round =>
        obtain ⟨m, c, hm, rfl, rfl, hcm, HCN, HBr⟩ := hrel
        by_cases hlt : m < C.length
        · obtain ⟨ib, rfl, hib, hcell⟩ := HCL2.out m hlt
          have hcr := cell_step hcell HBr.out
          have hE : C[m] ∈ C := List.getElem_mem hlt
          have hCN : ((C.take (m + 1)).filter cv).length = c + (if cv C[m] then 1 else 0) := by
            rw [HCN.out, List.take_succ_eq_append_getElem hlt, List.filter_append, List.length_append]
            rw [flt_one]
          have HCN' : Hid (((C.take (m + 1)).filter cv).length = c + (if cv C[m] then 1 else 0)) := hCN
          have hw := HRS.out.2 _ hE
          obtain ⟨i12, t40, k20, m20⟩ := ew_bd hw
          have GT : Hid (Calls _ _ _ _ _) := get_C w2.heap.size bb n mo C C[m] hE wr (BK6.out.step HBr.out)
          have CV : Hid (∀ (W : World) (sl skv mvv : Value), Below wr.heap.size wr W → Ls W C[m] sl skv mvv → Calls Tryz.prog 18 #[ev C[m] sl skv mvv, .int .i64 d] W fun r w' => r = .returned (.bool (cv C[m])) ∧ Below W.heap.size W w') := fun W sl skv mvv hW hL => covers_any C[m] sl skv mvv d s W (HG.out.step (below_then B6.out (below_then HBr.out hW))) hL.d hL.s hL.m (by omega) (by omega) _ (HCV.out _)
          have IT : Hid (∀ W, Below wr.heap.size wr W → Calls Tryz.prog 19 #[.string C[m].id, .slice oa5 fl oc5] W fun r w' => r = .returned (.bool (cv C[m])) ∧ Below W.heap.size W w') := fun W hW => isInTexts_any _ _ _ W (HTO6.out.step (below_then HBr.out hW)) _ (on_mem HRS.out.1 cv hE)
          clear hCN hw hcell HCL2 hE
          generalize C[m] = E at hcr HCN' i12 t40 k20 m20 GT CV IT
          generalize cv E = b at HCN' CV IT
          unfold ev at GT CV
          go_upto_region 14 with (go_at_call 14; refine Calls.mono GT.out ?_; rintro r w7 ⟨sl7, sk7, mv7, rfl, hL7, hb7⟩; have HL7 : Hid (Ls w7 E sl7 sk7 mv7) := hL7; obtain ⟨r7, rc7, rfl, _⟩ := hL7.d; obtain ⟨s7, sc7, rfl, _⟩ := hL7.s; obtain ⟨m7, mc7, rfl, _⟩ := hL7.m)
          have hB8 : Below wr.heap.size wr (w7.alloc (.cells #[.string E.id, .string E.ti, .int .i64 E.st, .int .i64 E.lg, .string E.f, .int .i64 E.e, .slice r7 E.ds.length rc7, .int .i64 E.c, .int .i64 E.u, .slice s7 E.sk.length sc7, .slice m7 E.mv.length mc7] 44)) := below_then hb7 (below_alloc _ _)
          have kE := EB.new w7 E (.slice r7 E.ds.length rc7) (.slice s7 E.sk.length sc7) (.slice m7 E.mv.length mc7)
          have CV8 : Hid (Calls _ _ _ _ _) := CV.out _ _ _ _ hB8 (HL7.out.step (below_alloc _ _))
          have HB8 : Hid (_) := hB8
          have hcr8 := cell_step hcr hB8
          generalize w7.alloc (.cells #[.string E.id, .string E.ti, .int .i64 E.st, .int .i64 E.lg, .string E.f, .int .i64 E.e, .slice r7 E.ds.length rc7, .int .i64 E.c, .int .i64 E.u, .slice s7 E.sk.length sc7, .slice m7 E.mv.length mc7] 44) = w8 at kE CV8 HB8 hcr8 hB8 ⊢
          obtain ⟨x0, x1, x2, x3, x4, x5, x6, x7, x8, x9, x10⟩ := blk11 (show w8.heap[w7.heap.size]? = _ from kE)
          clear kE hb7 hL7 HL7 CV GT hB8 hcr
          cases b with
          | true =>
            go_wp2_with (first
              | (go_at_call 18; refine Calls.mono CV8.out ?_; rintro r w9 ⟨rfl, hb9⟩; have IT9 : Hid (Calls _ _ _ _ _) := IT.out w9 (below_then HB8.out hb9); have hcr9 := cell_step hcr8 hb9; have HB9 : Hid (Below wr.heap.size wr w9) := below_then HB8.out hb9)
              | (go_at_call 19; refine Calls.mono IT9.out ?_; rintro r w10 ⟨rfl, hb10⟩))
            go_roundw
            case rel => exact ⟨m + 1, c + 1, by omega, by go_num, by go_num, by omega, by rw [HCN'.out]; rfl, below_then HBr.out (below_then HB9.out hb10)⟩
            case measure => simp [intOf]; omega
          | false =>
            go_wp2_with (first
              | (go_at_call 18; refine Calls.mono CV8.out ?_; rintro r w9 ⟨rfl, hb9⟩; have IT9 : Hid (Calls _ _ _ _ _) := IT.out w9 (below_then HB8.out hb9); have hcr9 := cell_step hcr8 hb9; have HB9 : Hid (Below wr.heap.size wr w9) := below_then HB8.out hb9)
              | (go_at_call 19; refine Calls.mono IT9.out ?_; rintro r w10 ⟨rfl, hb10⟩))
            go_roundw
            case rel => exact ⟨m + 1, c, by omega, by go_num, rfl, by omega, by rw [HCN'.out]; rfl, below_then HBr.out (below_then HB9.out hb10)⟩
            case measure => simp [intOf]; omega
        · have hmC : m = C.length := by omega
          have hcf : c = fl := by
            rw [HCN.out, List.take_of_length_le (by omega), HFL2.out]
          have hcf' : (c : Int) = (fl : Int) := by omega
          have BKr : Hid (BookAt w2.heap.size wr bb mo n C) := BK6.out.step HBr.out
          have Br : Hid (Below w.heap.size w wr) := below_then B6.out HBr.out
          have IT2 : Hid (Calls Tryz.prog 19 #[.string id, .slice ia C.length ic] wr fun r w' => r = .returned (.bool (decide (∃ E ∈ C, E.id = id))) ∧ Below wr.heap.size wr w') := isInTexts_any id _ _ wr (HTI.out.step HBr.out) _ (by rw [decide_eq_true_iff]; exact ids_mem.symm)
          have DR : Hid (∀ W, Below wr.heap.size wr W → Calls Tryz.prog 16 #[.pointer (some ⟨bb, 0, none⟩), .string id] W fun r w' => ((∃ E ∈ C, E.id = id) ∧ r = .returned .nilIface ∧ BookAt w2.heap.size w' bb mo n (woC id C) ∧ Kept W w' bb mo) ∨ ((¬ ∃ E ∈ C, E.id = id) ∧ r = .returned (.iface 288 (.pointer (some p))) ∧ Below W.heap.size W w')) := fun W hW => drop_C w2.heap.size bb n mo C id (by omega) p W (BKr.out.step hW) (cell_step HN.out (below_then Br.out hW))
          have HLO : Hid (∀ mb, mo = some mb → w2.heap.size ≤ mb) := by
            obtain ⟨_, _, _, q, _⟩ := BKr.out
            exact q
          have TAIL : Hid (∀ (C' : List EV) (W : World), BookAt w2.heap.size W bb mo n C' → Below w.heap.size w W → C'.length ≤ 60 → (∀ E ∈ C', E.id ≠ id) → (Calls Tryz.prog 17 #[.pointer (some ⟨bb, 0, none⟩), .int .i64 d] W fun r w' => ∃ v, r = .returned v ∧ (Calls Tryz.prog 19 #[.string id, v] w' fun r w'' => r = .returned (.bool false) ∧ (Calls Tryz.prog 12 #[.pointer (some ⟨bb, 0, none⟩)] w'' fun r w3 => ∃ a c, r = .returned (.slice a C'.length c) ∧ Below w.heap.size w w3)))) := fun C' W hbk hB hl hno => by
            refine Calls.mono (on_C w2.heap.size bb n mo C' d cv (fun E _ => HCV.out E) s W (HG.out.step hB) hbk (by omega)) ?_
            rintro r w' ⟨v, rfl, hr, hb'⟩
            refine ⟨v, rfl, ?_⟩
            refine Calls.mono (isInTexts_any id _ _ w' (hr.txs (by rw [List.length_map]; have := List.length_filter_le cv C'; omega)) false ⟨(fun q => by cases q), fun q => absurd q (on_gone cv hno)⟩) ?_
            rintro r w'' ⟨rfl, hb''⟩
            refine ⟨rfl, ?_⟩
            refine Calls.mono (ids_C w2.heap.size bb n mo C' w'' (hbk.step (below_then hb' hb'')) (by omega)) ?_
            rintro r w3 ⟨v3, rfl, hr3, hb3⟩
            obtain ⟨a3, c3, rfl, _⟩ := hr3.txs (by rw [List.length_map]; omega)
            rw [List.length_map]
            exact ⟨a3, c3, rfl, below_then hB (below_then hb' (below_then hb'' hb3))⟩
          clear HCL2 HTI HTO6 BK6 B6 HFL2
          by_cases hx : ∃ E ∈ C, E.id = id
          · have HX : Hid (∃ E ∈ C, E.id = id) := hx
            rw [decide_eq_true hx] at IT2
            have hwl : (woC id C).length ≤ C.length := List.length_filter_le _ _
            have hwl60 : (woC id C).length ≤ 60 := by omega
            clear hx
            go_upto_region 25 with (first
              | (go_at_call 19; refine Calls.mono IT2.out ?_; rintro r w11 ⟨rfl, hb11⟩; have DR11 : Hid (Calls _ _ _ _ _) := DR.out w11 hb11)
              | (go_at_call 16; refine Calls.mono DR11.out ?_; rintro r w12 (⟨_, rfl, hbk12, hK12⟩ | ⟨hno, _⟩); rotate_left; exact absurd HX.out hno))
            have hBW : Below w.heap.size w w12 := hK12.below (below_then Br.out hb11) (Nat.le_trans B2.out.size hbb) (fun mb e => Nat.le_trans B2.out.size (HLO.out mb e))
            have hwlI : ((woC id C).length : Int) ≤ (C.length : Int) := by omega
            have T12 : Hid (Calls _ _ _ _ _) := TAIL.out (woC id C) w12 hbk12 hBW hwl60 (fun E hE => (woC_mem.1 hE).2)
            clear TAIL DR IT2 hbk12
            go_wp2_with (first
              | (go_at_call 17; refine Calls.mono T12.out ?_; rintro r w13 ⟨v13, rfl, h13⟩; have H13 : Hid (Calls _ _ _ _ _) := h13; clear h13)
              | (go_at_call 19; refine Calls.mono H13.out ?_; rintro r w14 ⟨rfl, h14⟩; have H14 : Hid (Calls _ _ _ _ _) := h14; clear h14)
              | (go_at_call 12; refine Calls.mono H14.out ?_; rintro r w15 ⟨a15, c15, rfl, hb15⟩))
            go_ret
            exact ⟨rfl, hb15⟩
          · have HX : Hid (¬ ∃ E ∈ C, E.id = id) := hx
            rw [decide_eq_false hx] at IT2
            clear hx
            go_upto_region 25 with (first
              | (go_at_call 19; refine Calls.mono IT2.out ?_; rintro r w11 ⟨rfl, hb11⟩; have DR11 : Hid (Calls _ _ _ _ _) := DR.out w11 hb11)
              | (go_at_call 16; refine Calls.mono DR11.out ?_; rintro r w12 (⟨hno, _⟩ | ⟨_, rfl, hb12⟩); exact absurd hno HX.out))
            have hBW : Below w.heap.size w w12 := below_then Br.out (below_then hb11 hb12)
            have hbk12 := BKr.out.step (below_then hb11 hb12)
            have T12 : Hid (Calls _ _ _ _ _) := TAIL.out C w12 hbk12 hBW hcl60 (fun E hE q => HX.out ⟨E, hE, q⟩)
            clear TAIL DR IT2 hbk12
            go_wp2_with (first
              | (go_at_call 17; refine Calls.mono T12.out ?_; rintro r w13 ⟨v13, rfl, h13⟩; have H13 : Hid (Calls _ _ _ _ _) := h13; clear h13)
              | (go_at_call 19; refine Calls.mono H13.out ?_; rintro r w14 ⟨rfl, h14⟩; have H14 : Hid (Calls _ _ _ _ _) := h14; clear h14)
              | (go_at_call 12; refine Calls.mono H14.out ?_; rintro r w15 ⟨a15, c15, rfl, hb15⟩))
            go_ret
            exact ⟨rfl, hb15⟩
end Go.Proofs.YtnpecjccajebiaaGreatDoor
