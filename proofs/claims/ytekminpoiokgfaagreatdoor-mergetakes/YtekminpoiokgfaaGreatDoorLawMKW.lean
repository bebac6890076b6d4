/- The law MergeTakes (written by wip/gen/mkLMK.py). -/
import Derived.Test.YtekminpoiokgfaaGreatDoorYbE
import Derived.Test.YtekminpoiokgfaaGreatDoorYbG
import Derived.Test.YtekminpoiokgfaaGreatDoorMgXW
namespace Go.Proofs.YtekminpoiokgfaaGreatDoor
open Go Go.RowKit Go.Maps Go.Sort Cal
attribute [local go_sem] Oper.semAt_some

theorem ows_txs {base : Nat} {W : World} {v : Value} {ss : List (List UInt8)} (h : OwS base W v ss) (h8 : ss.length ≤ 1000) : Txs W v (ss.map bs) := (rowV_own h).txs (by rw [List.length_map]; omega)
/-- the IDs of three calendars, one behind the other -/
def ids3 (X Y Z : List EV) : List ByteArray := ((([] ++ (X.map EV.id).map fun y : ByteArray => y.data.toList) ++ (Y.map EV.id).map fun y : ByteArray => y.data.toList) ++ (Z.map EV.id).map fun y : ByteArray => y.data.toList).map bs
theorem ids3_in {X Y Z : List EV} {id : ByteArray} (h : id ∈ ids3 X Y Z) : ∃ E, (E ∈ X ∨ E ∈ Y ∨ E ∈ Z) ∧ E.id = id := by
  unfold ids3 at h
  obtain ⟨x, hx, rfl⟩ := List.mem_map.1 h
  rw [List.nil_append, List.mem_append, List.mem_append] at hx
  rcases hx with (q | q) | q
  all_goals
    obtain ⟨y, hy, rfl⟩ := List.mem_map.1 q
    obtain ⟨E, hE, rfl⟩ := List.mem_map.1 hy
  · exact ⟨E, .inl hE, rfl⟩
  · exact ⟨E, .inr (.inl hE), rfl⟩
  · exact ⟨E, .inr (.inr hE), rfl⟩
theorem ids3_len (X Y Z : List EV) (hX : X.length ≤ 60) (hY : Y.length ≤ 60) (hZ : Z.length ≤ 60) : (ids3 X Y Z).length ≤ 180 := by
  unfold ids3
  simp
  omega
open Classical in
theorem bool_of (P : Prop) : ∃ s : Bool, (s = true ↔ P) := ⟨decide P, decide_eq_true_iff⟩
open Classical in
theorem sameEvent_ex (E F : EV) : ∃ e : Bool, (e = true ↔ E = F) ∧ ∀ (sl skv mvv sl' skv' mvv' : Value) (w : World), Ls w E sl skv mvv → Ls w F sl' skv' mvv' → Calls Tryz.prog 12 #[ev E sl skv mvv, ev F sl' skv' mvv'] w fun r w' => r = .returned (.bool e) ∧ Below w.heap.size w w' :=
  ⟨decide (E = F), decide_eq_true_iff, fun sl skv mvv sl' skv' mvv' w h1 h2 => sameEvent_dec E F sl skv mvv sl' skv' mvv' w h1 h2⟩
open Classical in
/-- two of one flag are one where their events are -/
theorem opt_same {p q : Option EV} : ((p.isSome = q.isSome) ∧ p.getD zE = q.getD zE) ↔ p = q := by
  constructor
  · rintro ⟨h1, h2⟩
    cases p with
    | none => cases q with
      | none => rfl
      | some F => cases h1
    | some E => cases q with
      | none => cases h1
      | some F => exact congrArg some h2
  · rintro rfl
    exact ⟨rfl, rfl⟩

set_option maxHeartbeats 4000000 in
set_option maxRecDepth 100000 in
theorem mtakes_all (E1 E2 E3 : List EV) (v1 v2 v3 : Value) (s : Nat → Addr) (w : World) (g : GlobM s w) (h1 : EvsL w v1 E1) (h2 : EvsL w v2 E2) (h3 : EvsL w v3 E3) :
    Calls Tryz.prog 4 #[v1, v2, v3] w fun r w' => r = .returned (.bool true) ∧ Below w.heap.size w w' := by
  have DF : Hid (Calls _ _ _ _ _) := merged_any s w g
  have HG : Hid (GlobM s w) := g
  have LE : Hid (∀ (v : Value) (E : List EV) W, EvsL w v E → Below w.heap.size w W → Calls Tryz.prog 6 #[v] W fun r w' => ∃ k : Int, r = .returned (.int .i64 k) ∧ (k = 1 ∨ (k = 0 ∧ E.length ≤ 70 ∧ ∀ F ∈ E, lngE F = 0)) ∧ Below W.heap.size W w') := fun v E W h hW => longEvents_any E v W (h.step hW)
  have HV1 : Hid (EvsL w v1 E1) := h1
  have HV2 : Hid (EvsL w v2 E2) := h2
  have HV3 : Hid (EvsL w v3 E3) := h3
  clear g h1 h2 h3
  go_enter Tryz.func4, Tryz.ntmps4
  go_upto_region 2 with (go_at_call 5; refine Calls.mono DF.out ?_; rintro r w1 ⟨rfl, hb1⟩)
  have B1 : Hid (Below w.heap.size w w1) := hb1
  clear hb1 DF
  go_upto_if 41 with (first
    | (go_at_call_of 6 v1; refine Calls.mono (LE.out v1 E1 _ HV1.out B1.out) ?_; rintro r w2 ⟨k1, rfl, hk1, hb2⟩; have B2 : Hid (Below w.heap.size w w2) := below_then B1.out hb2; have HK1 : Hid (k1 = 1 ∨ (k1 = 0 ∧ E1.length ≤ 70 ∧ ∀ F ∈ E1, lngE F = 0)) := hk1; have p1 : 0 ≤ k1 ∧ k1 ≤ 1 := (by rcases hk1 with rfl | ⟨rfl, _⟩ <;> decide); clear hk1 hb2)
    | (go_at_call_of 6 v2; refine Calls.mono (LE.out v2 E2 _ HV2.out B2.out) ?_; rintro r w3 ⟨k2, rfl, hk2, hb3⟩; have B3 : Hid (Below w.heap.size w w3) := below_then B2.out hb3; have HK2 : Hid (k2 = 1 ∨ (k2 = 0 ∧ E2.length ≤ 70 ∧ ∀ F ∈ E2, lngE F = 0)) := hk2; have p2 : 0 ≤ k2 ∧ k2 ≤ 1 := (by rcases hk2 with rfl | ⟨rfl, _⟩ <;> decide); clear hk2 hb3)
    | (go_at_call_of 6 v3; refine Calls.mono (LE.out v3 E3 _ HV3.out B3.out) ?_; rintro r w4 ⟨k3, rfl, hk3, hb4⟩; have B4 : Hid (Below w.heap.size w w4) := below_then B3.out hb4; have HK3 : Hid (k3 = 1 ∨ (k3 = 0 ∧ E3.length ≤ 70 ∧ ∀ F ∈ E3, lngE F = 0)) := hk3; have p3 : 0 ≤ k3 ∧ k3 ≤ 1 := (by rcases hk3 with rfl | ⟨rfl, _⟩ <;> decide); clear hk3 hb4))
  by_cases hz : 0 < k1 + k2 + k3
  · go_wp2
    go_ret
    exact ⟨rfl, B4.out⟩
  · obtain ⟨a1, b1⟩ : E1.length ≤ 70 ∧ ∀ F ∈ E1, lngE F = 0 := by
      rcases HK1.out with q | ⟨_, q⟩
      · omega
      · exact q
    obtain ⟨a2, b2⟩ : E2.length ≤ 70 ∧ ∀ F ∈ E2, lngE F = 0 := by
      rcases HK2.out with q | ⟨_, q⟩
      · omega
      · exact q
    obtain ⟨a3, b3⟩ : E3.length ≤ 70 ∧ ∀ F ∈ E3, lngE F = 0 := by
      rcases HK3.out with q | ⟨_, q⟩
      · omega
      · exact q
    have BO1 : Hid (∀ W, Below w.heap.size w W → _) := fun W hW => bookOf_C E1 v1 s W (HG.out.step hW).gk (HV1.out.step hW) a1 b1
    have BO2 : Hid (∀ W, Below w.heap.size w W → _) := fun W hW => bookOf_C E2 v2 s W (HG.out.step hW).gk (HV2.out.step hW) a2 b2
    have BO3 : Hid (∀ W, Below w.heap.size w W → _) := fun W hW => bookOf_C E3 v3 s W (HG.out.step hW).gk (HV3.out.step hW) a3 b3
    have HX60 : Hid ((calOf E1).length ≤ 60) := (calOf_ok E1).2
    have HY60 : Hid ((calOf E2).length ≤ 60) := (calOf_ok E2).2
    have HZ60 : Hid ((calOf E3).length ≤ 60) := (calOf_ok E3).2
    clear a1 b1 a2 b2 a3 b3 HK1 HK2 HK3 p1 p2 p3 LE HV1 HV2 HV3
    generalize calOf E1 = X at BO1 HX60
    generalize calOf E2 = Y at BO2 HY60
    generalize calOf E3 = Z at BO3 HZ60
    go_upto_region 7 with (first
      | (go_at_call_of 7 v1; refine Calls.mono (BO1.out _ B4.out) ?_; rintro r w5 ⟨lx, xb, xm, xn, xa, xl, xc, rfl, hX, hxn, hb5⟩; have B5 : Hid (Below w.heap.size w (w5.alloc (.cells #[.slice xa xl xc] 27))) := below_then (below_then B4.out hb5) (below_alloc _ _); have X5 : Hid (BookAt lx (w5.alloc (.cells #[.slice xa xl xc] 27)) xb xm xn X) := hX.step (below_alloc _ _); have NX : Hid (xn ≤ 70) := hxn; clear hX hxn hb5)
      | (go_at_call_of 7 v2; refine Calls.mono (BO2.out _ B5.out) ?_; rintro r w6 ⟨ly, yb, ym, yn, ya, yl, yc, rfl, hY, hyn, hb6⟩; have B6 : Hid (Below w.heap.size w (w6.alloc (.cells #[.slice ya yl yc] 27))) := below_then (below_then B5.out hb6) (below_alloc _ _); have X6 : Hid (BookAt lx (w6.alloc (.cells #[.slice ya yl yc] 27)) xb xm xn X) := X5.out.step (below_then hb6 (below_alloc _ _)); have Y6 : Hid (BookAt ly (w6.alloc (.cells #[.slice ya yl yc] 27)) yb ym yn Y) := hY.step (below_alloc _ _); have NY : Hid (yn ≤ 70) := hyn; clear hY hyn hb6)
      | (go_at_call_of 7 v3; refine Calls.mono (BO3.out _ B6.out) ?_; rintro r w7 ⟨lz, zb, zm, zn, za, zl, zc, rfl, hZ, hzn, hb7⟩; have B7 : Hid (Below w.heap.size w (w7.alloc (.cells #[.slice za zl zc] 27))) := below_then (below_then B6.out hb7) (below_alloc _ _); have X7 : Hid (BookAt lx (w7.alloc (.cells #[.slice za zl zc] 27)) xb xm xn X) := X6.out.step (below_then hb7 (below_alloc _ _)); have Y7 : Hid (BookAt ly (w7.alloc (.cells #[.slice za zl zc] 27)) yb ym yn Y) := Y6.out.step (below_then hb7 (below_alloc _ _)); have Z7 : Hid (BookAt lz (w7.alloc (.cells #[.slice za zl zc] 27)) zb zm zn Z) := hZ.step (below_alloc _ _); have NZ : Hid (zn ≤ 70) := hzn; clear hZ hzn hb7))
    generalize w7.alloc (.cells #[.slice za zl zc] 27) = w8 at *
    generalize w7.heap.size = c7 at *
    generalize w6.heap.size = c6 at *
    generalize w5.heap.size = c5 at *
    clear B1 B2 B3 B4 B5 B6 X5 X6 Y6 BO1 BO2 BO3
    have G8 : Hid (GlobM s w8) := HG.out.step B7.out
    have T4 : Hid (Calls Tryz.prog 8 #[.pointer (some ⟨xb, 0, none⟩), .pointer (some ⟨yb, 0, none⟩), .pointer (some ⟨zb, 0, none⟩)] w8 fun r w' => Below w8.heap.size w8 w' ∧ ThrIs w8.heap.size (thr X Y Z (idsU Y Z)) r w') := three_C (some ⟨xb, 0, none⟩) X ly yb yn ym Y lz zb zn zm Z s w8 G8.out.gk G8.out.gr (getC_book X7.out) (book_ok X7.out) Y7.out Z7.out (Nat.le_trans NY.out (by decide)) (Nat.le_trans NZ.out (by decide)) HY60.out HZ60.out
    have HTK : Hid (∀ C, thr X Y Z (idsU Y Z) = (C, []) → ∀ id, (lkC X id = lkC Y id → lkC C id = lkC Z id) ∧ (lkC X id = lkC Z id → lkC C id = lkC Y id)) := fun C h id => thr_takes X7.out.allw Z7.out.allw h id
    have IX : Hid (∀ W, Below w8.heap.size w8 W → Calls Tryz.prog 10 #[.pointer (some ⟨xb, 0, none⟩)] W fun r w' => ∃ v, r = .returned v ∧ RowV W.heap.size w' v (X.map EV.id) ∧ Below W.heap.size W w') := fun W hW => ids_C lx xb xn xm X W (X7.out.step hW) (Nat.le_trans NX.out (by decide))
    have IY : Hid (∀ W, Below w8.heap.size w8 W → Calls Tryz.prog 10 #[.pointer (some ⟨yb, 0, none⟩)] W fun r w' => ∃ v, r = .returned v ∧ RowV W.heap.size w' v (Y.map EV.id) ∧ Below W.heap.size W w') := fun W hW => ids_C ly yb yn ym Y W (Y7.out.step hW) (Nat.le_trans NY.out (by decide))
    have IZ : Hid (∀ W, Below w8.heap.size w8 W → Calls Tryz.prog 10 #[.pointer (some ⟨zb, 0, none⟩)] W fun r w' => ∃ v, r = .returned v ∧ RowV W.heap.size w' v (Z.map EV.id) ∧ Below W.heap.size W w') := fun W hW => ids_C lz zb zn zm Z W (Z7.out.step hW) (Nat.le_trans NZ.out (by decide))
    have HIDS : Hid (∀ id ∈ ids3 X Y Z, id.size ≤ 1000) := fun id h => by
      obtain ⟨E, hE, rfl⟩ := ids3_in h
      have hw : EW E := by
        rcases hE with q | q | q
        · exact X7.out.allw E q
        · exact Y7.out.allw E q
        · exact Z7.out.allw E q
      have := hw.id.2.2
      omega
    have HI3 : Hid ((ids3 X Y Z).length ≤ 180) := ids3_len X Y Z HX60.out HY60.out HZ60.out
    have HLX : Hid ((X.map EV.id).length ≤ 60) := by show _ ≤ _; rw [List.length_map]; exact HX60.out
    have HLY : Hid ((Y.map EV.id).length ≤ 60) := by show _ ≤ _; rw [List.length_map]; exact HY60.out
    have HLZ : Hid ((Z.map EV.id).length ≤ 60) := by show _ ≤ _; rw [List.length_map]; exact HZ60.out
    have HEQ : Hid (ids3 X Y Z = ((([] ++ (X.map EV.id).map fun y : ByteArray => y.data.toList) ++ (Y.map EV.id).map fun y : ByteArray => y.data.toList) ++ (Z.map EV.id).map fun y : ByteArray => y.data.toList).map bs) := rfl
    clear HX60 HY60 HZ60 NX NY NZ
    obtain ⟨a, ha⟩ : ∃ a, thr X Y Z (idsU Y Z) = a := ⟨_, rfl⟩
    rw [ha] at T4 HTK
    clear ha
    obtain ⟨C, cl⟩ := a
    generalize ids3 X Y Z = ids at HIDS HI3 HEQ
    generalize X.map EV.id = LX at IX HLX HEQ
    generalize Y.map EV.id = LY at IY HLY HEQ
    generalize Z.map EV.id = LZ at IZ HLZ HEQ
    go_wp2_with fail
    go_at_call 8
    refine Calls.mono T4.out ?_
    rintro r w9 ⟨hb9, ⟨hc0, mm, mn, rfl, hM, hmn⟩ | ⟨hc0, vs, rfl, hS⟩⟩
    · have hcl : cl = [] := hc0
      subst hcl
      have B9 : Hid (Below w8.heap.size w8 w9) := hb9
      have M9 : Hid (BookAt w8.heap.size w9 w8.heap.size mm mn C) := hM
      have HTK2 : Hid (∀ id, (lkC X id = lkC Y id → lkC C id = lkC Z id) ∧ (lkC X id = lkC Z id → lkC C id = lkC Y id)) := HTK.out C rfl
      clear hc0 hb9 hM hmn T4 HTK
      obtain ⟨A1, hA1⟩ : ∃ A : List (List UInt8), [] ++ LX.map (fun y : ByteArray => y.data.toList) = A := ⟨_, rfl⟩
      obtain ⟨A2, hA2⟩ : ∃ A : List (List UInt8), A1 ++ LY.map (fun y : ByteArray => y.data.toList) = A := ⟨_, rfl⟩
      obtain ⟨A3, hA3⟩ : ∃ A : List (List UInt8), A2 ++ LZ.map (fun y : ByteArray => y.data.toList) = A := ⟨_, rfl⟩
      have HE3 : Hid (ids = A3.map bs) := by
        show ids = _
        rw [← hA3, ← hA2, ← hA1]
        exact HEQ.out
      have HN1 : Hid (A1.length ≤ 60) := by show _ ≤ _; rw [← hA1]; have := HLX.out; simpa using this
      have HN2 : Hid (A2.length ≤ 120) := by show _ ≤ _; rw [← hA2]; have := HN1.out; have := HLY.out; rw [List.length_append, List.length_map]; omega
      have HN3 : Hid (A3.length ≤ 180) := by show _ ≤ _; rw [← hA3]; have := HN2.out; have := HLZ.out; rw [List.length_append, List.length_map]; omega
      have HA1 : Hid ([] ++ LX.map (fun y : ByteArray => y.data.toList) = A1) := hA1
      have HA2 : Hid (A1 ++ LY.map (fun y : ByteArray => y.data.toList) = A2) := hA2
      have HA3 : Hid (A2 ++ LZ.map (fun y : ByteArray => y.data.toList) = A3) := hA3
      clear hA1 hA2 hA3 HEQ
      go_upto_region 14 with (first
        | (go_at_call 10; refine Calls.mono (IX.out w9 (B9.out)) ?_; rintro r w10 ⟨v1, rfl, hr, hb⟩; have R1B : Hid (Below w9.heap.size w9 w10) := hb; have R1 : Hid (RowV w9.heap.size w10 v1 LX) := hr; have CB1 : Hid (Below w9.heap.size w9 w10) := below_then (Below.refl _ _) hb; obtain ⟨y1a, y1b, rfl⟩ := rowV_form hr; clear hr hb)
        | (at_builtin; refine app_ows rfl _ _ rfl w9.heap.size _ [] LX _ _ rfl (OwS.nil _ _) rfl R1.out (by rw [List.length_nil]; have := HLX.out; omega) CB1.out.size ?_; rw [HA1.out]; intro va w11 hO hb; have O1 : Hid (OwS w9.heap.size w11 va A1) := hO; have C1 : Hid (Below w9.heap.size w9 w11) := below_two CB1.out hb; obtain ⟨z1a, z1b, rfl⟩ := own_form hO; clear hO hb))
      go_upto_region 15 with (first
        | (go_at_call 10; refine Calls.mono (IY.out w11 (below_then B9.out C1.out)) ?_; rintro r w12 ⟨v2, rfl, hr, hb⟩; have R2B : Hid (Below w11.heap.size w11 w12) := hb; have R2 : Hid (RowV w11.heap.size w12 v2 LY) := hr; have CB2 : Hid (Below w9.heap.size w9 w12) := below_then (C1.out) hb; obtain ⟨y2a, y2b, rfl⟩ := rowV_form hr; clear hr hb)
        | (at_builtin; refine app_ows rfl _ _ rfl w9.heap.size _ A1 LY _ _ rfl (O1.out.far (fun k _ hk => R2B.out.block k hk)) rfl R2.out (by have := HN1.out; have := HLY.out; omega) CB2.out.size ?_; rw [HA2.out]; intro vb w13 hO hb; have O2 : Hid (OwS w9.heap.size w13 vb A2) := hO; have C2 : Hid (Below w9.heap.size w9 w13) := below_two CB2.out hb; obtain ⟨z2a, z2b, rfl⟩ := own_form hO; clear hO hb))
      go_upto_region 16 with (first
        | (go_at_call 10; refine Calls.mono (IZ.out w13 (below_then B9.out C2.out)) ?_; rintro r w14 ⟨v3, rfl, hr, hb⟩; have R3B : Hid (Below w13.heap.size w13 w14) := hb; have R3 : Hid (RowV w13.heap.size w14 v3 LZ) := hr; have CB3 : Hid (Below w9.heap.size w9 w14) := below_then (C2.out) hb; obtain ⟨y3a, y3b, rfl⟩ := rowV_form hr; clear hr hb)
        | (at_builtin; refine app_ows rfl _ _ rfl w9.heap.size _ A2 LZ _ _ rfl (O2.out.far (fun k _ hk => R3B.out.block k hk)) rfl R3.out (by have := HN2.out; have := HLZ.out; omega) CB3.out.size ?_; rw [HA3.out]; intro vc w15 hO hb; have O3 : Hid (OwS w9.heap.size w15 vc A3) := hO; have C3 : Hid (Below w9.heap.size w9 w15) := below_two CB3.out hb; obtain ⟨z3a, z3b, rfl⟩ := own_form hO; clear hO hb))
      have TX : Hid (Txs w15 (.slice z3a A3.length z3b) ids) := by
        show Txs _ _ _
        rw [HE3.out]
        exact ows_txs O3.out (by have := HN3.out; omega)
      have HLI : Hid (ids.length = A3.length) := by show _ = _; rw [HE3.out, List.length_map]
      have HL8 : Hid (A3.length ≤ 180) := HN3.out
      have HT : Hid (∀ (j : Nat) (h : j < ids.length), ∃ b : Nat, z3a = some ⟨b, 0, none⟩ ∧ b < w15.heap.size ∧ w15.cell? ⟨b, j, none⟩ = some (.string ids[j])) := by
        obtain ⟨a9, c9, e9, _, _, h9⟩ := TX.out
        injection e9 with e91 e92 e93
        rw [e91]
        exact h9
      have HCA : A3.length ≤ z3b := by
        obtain ⟨a9, c9, e9, _, h8, _⟩ := TX.out
        injection e9 with e91 e92 e93
        rw [e92, e93]
        exact h8
      have G1 : Hid (∀ id : ByteArray, id.size ≤ 1000 → ∀ W, Below w15.heap.size w15 W → Calls Tryz.prog 11 #[.pointer (some ⟨xb, 0, none⟩), .string id] W fun r w' => ∃ sl skv mvv, r = .returned (.tuple #[ev ((lkC X id).getD zE) sl skv mvv, .bool (lkC X id).isSome]) ∧ Ls w' ((lkC X id).getD zE) sl skv mvv ∧ ((lkC X id).isSome = true → Got w' skv ((lkC X id).getD zE).sk) ∧ Below W.heap.size W w') := fun id hid W hW => getO_C lx xb xn xm X id hid W (X7.out.step (below_then (below_then B9.out C3.out) hW))
      have G2 : Hid (∀ id : ByteArray, id.size ≤ 1000 → ∀ W, Below w15.heap.size w15 W → Calls Tryz.prog 11 #[.pointer (some ⟨yb, 0, none⟩), .string id] W fun r w' => ∃ sl skv mvv, r = .returned (.tuple #[ev ((lkC Y id).getD zE) sl skv mvv, .bool (lkC Y id).isSome]) ∧ Ls w' ((lkC Y id).getD zE) sl skv mvv ∧ ((lkC Y id).isSome = true → Got w' skv ((lkC Y id).getD zE).sk) ∧ Below W.heap.size W w') := fun id hid W hW => getO_C ly yb yn ym Y id hid W (Y7.out.step (below_then (below_then B9.out C3.out) hW))
      have G3 : Hid (∀ id : ByteArray, id.size ≤ 1000 → ∀ W, Below w15.heap.size w15 W → Calls Tryz.prog 11 #[.pointer (some ⟨zb, 0, none⟩), .string id] W fun r w' => ∃ sl skv mvv, r = .returned (.tuple #[ev ((lkC Z id).getD zE) sl skv mvv, .bool (lkC Z id).isSome]) ∧ Ls w' ((lkC Z id).getD zE) sl skv mvv ∧ ((lkC Z id).isSome = true → Got w' skv ((lkC Z id).getD zE).sk) ∧ Below W.heap.size W w') := fun id hid W hW => getO_C lz zb zn zm Z id hid W (Z7.out.step (below_then (below_then B9.out C3.out) hW))
      have G4 : Hid (∀ id : ByteArray, id.size ≤ 1000 → ∀ W, Below w15.heap.size w15 W → Calls Tryz.prog 11 #[.pointer (some ⟨w8.heap.size, 0, none⟩), .string id] W fun r w' => ∃ sl skv mvv, r = .returned (.tuple #[ev ((lkC C id).getD zE) sl skv mvv, .bool (lkC C id).isSome]) ∧ Ls w' ((lkC C id).getD zE) sl skv mvv ∧ ((lkC C id).isSome = true → Got w' skv ((lkC C id).getD zE).sk) ∧ Below W.heap.size W w') := fun id hid W hW => getO_C w8.heap.size w8.heap.size mn mm C id hid W (M9.out.step (below_then C3.out hW))
      have BF : Hid (Below w.heap.size w w15) := below_then B7.out (below_then B9.out C3.out)
      clear TX HE3 HN1 HN2 HN3 HA1 HA2 HA3 O1 O2 O3 C1 C2 C3 CB1 CB2 CB3 R1 R2 R3 R1B R2B R3B B9 M9 X7 Y7 Z7 IX IY IZ HLX HLY HLZ HI3 G8 B7 HG
      generalize w8.heap.size = mb at *
      obtain ⟨L, hL⟩ : ∃ L, A3.length = L := ⟨_, rfl⟩
      rw [hL] at HLI HL8 HCA ⊢
      clear hL
      go_wp2
      go_loopw [17, 18, 19, 20, 21, 22, 23, 24, 25, 26, 27] (fun i _ _ _ _ _ _ _ _ _ _ wr => ∃ k : Nat, k ≤ L ∧ i = .int .i64 k ∧ Hid (Below w15.heap.size w15 wr)) (fun i _ _ _ _ _ _ _ _ _ _ _ => L - (intOf i).toNat)
      case atStart => exact ⟨0, Nat.zero_le _, rfl, Below.refl _ _⟩
      case round =>
        obtain ⟨k, hk, rfl, HBR⟩ := hrel
        by_cases hlt : k < L
        · have hki : k < ids.length := by rw [HLI.out]; exact hlt
          obtain ⟨b, rfl, hbl, hbc⟩ := HT.out k hki
          have HIM : Hid (ids[k].size ≤ 1000) := HIDS.out _ (List.getElem_mem hki)
          have h180 : L ≤ 180 := HL8.out
          generalize ids[k] = id at hbc HIM
          have HC0 : Hid (∀ W, Below w15.heap.size w15 W → W.cell? ⟨b, k, none⟩ = some (.string id)) := fun W hW => cell_step hbc hW
          have HTK3 : Hid (_) := HTK2.out id
          have GG1 : Hid (∀ W, Below w15.heap.size w15 W → _) := G1.out id HIM.out
          have GG2 : Hid (∀ W, Below w15.heap.size w15 W → _) := G2.out id HIM.out
          have GG3 : Hid (∀ W, Below w15.heap.size w15 W → _) := G3.out id HIM.out
          have GG4 : Hid (∀ W, Below w15.heap.size w15 W → _) := G4.out id HIM.out
          clear G1 G2 G3 G4 HTK2 HT HIDS hbc HLI
          generalize lkC X id = p1 at GG1 HTK3
          generalize lkC Y id = p2 at GG2 HTK3
          generalize lkC Z id = p3 at GG3 HTK3
          generalize lkC C id = p4 at GG4 HTK3
          obtain ⟨E1, hE1⟩ : ∃ E, p1.getD zE = E := ⟨_, rfl⟩
          obtain ⟨f1, hf1⟩ : ∃ f, p1.isSome = f := ⟨_, rfl⟩
          rw [hE1, hf1] at GG1
          obtain ⟨E2, hE2⟩ : ∃ E, p2.getD zE = E := ⟨_, rfl⟩
          obtain ⟨f2, hf2⟩ : ∃ f, p2.isSome = f := ⟨_, rfl⟩
          rw [hE2, hf2] at GG2
          obtain ⟨E3, hE3⟩ : ∃ E, p3.getD zE = E := ⟨_, rfl⟩
          obtain ⟨f3, hf3⟩ : ∃ f, p3.isSome = f := ⟨_, rfl⟩
          rw [hE3, hf3] at GG3
          obtain ⟨E4, hE4⟩ : ∃ E, p4.getD zE = E := ⟨_, rfl⟩
          obtain ⟨f4, hf4⟩ : ∃ f, p4.isSome = f := ⟨_, rfl⟩
          rw [hE4, hf4] at GG4
          have HS12 : Hid ((f1 = f2 ∧ E1 = E2) ↔ p1 = p2) := by show _ ↔ _; rw [← hf1, ← hf2, ← hE1, ← hE2]; exact opt_same
          have HS13 : Hid ((f1 = f3 ∧ E1 = E3) ↔ p1 = p3) := by show _ ↔ _; rw [← hf1, ← hf3, ← hE1, ← hE3]; exact opt_same
          have HS43 : Hid ((f4 = f3 ∧ E4 = E3) ↔ p4 = p3) := by show _ ↔ _; rw [← hf4, ← hf3, ← hE4, ← hE3]; exact opt_same
          have HS42 : Hid ((f4 = f2 ∧ E4 = E2) ↔ p4 = p2) := by show _ ↔ _; rw [← hf4, ← hf2, ← hE4, ← hE2]; exact opt_same
          have HA43 : Hid (f1 = f2 ∧ E1 = E2 → f4 = f3 ∧ E4 = E3) := fun z => HS43.out.2 (HTK3.out.1 (HS12.out.1 z))
          have HB42 : Hid (f1 = f3 ∧ E1 = E3 → f4 = f2 ∧ E4 = E2) := fun z => HS42.out.2 (HTK3.out.2 (HS13.out.1 z))
          clear HS12 HS13 HS43 HS42 HTK3 hE1 hE2 hE3 hE4 hf1 hf2 hf3 hf4
          have cb := HC0.out wr HBR.out
          go_wp2_with fail
          go_at_call 11
          refine Calls.mono (GG1.out _ HBR.out) ?_
          rintro r u1 ⟨x1, y1, z1, rfl, hL1, _, hb1⟩
          have hLc := hL1
          obtain ⟨ld, ls, lm⟩ := hLc
          obtain ⟨r1, rc1, rfl, _⟩ := ld
          obtain ⟨s1, sc1, rfl, _⟩ := ls
          obtain ⟨m1, mc1, rfl, _⟩ := lm
          have HW1 : Hid (Below w15.heap.size w15 (u1.alloc (.cells #[.string E1.id, .string E1.ti, .int .i64 E1.st, .int .i64 E1.lg, .string E1.f, .int .i64 E1.e, .slice r1 E1.ds.length rc1, .int .i64 E1.c, .int .i64 E1.u, .slice s1 E1.sk.length sc1, .slice m1 E1.mv.length mc1] 44))) := below_then (below_then HBR.out hb1) (below_alloc _ _)
          have KB1 : Hid ((u1.alloc (.cells #[.string E1.id, .string E1.ti, .int .i64 E1.st, .int .i64 E1.lg, .string E1.f, .int .i64 E1.e, .slice r1 E1.ds.length rc1, .int .i64 E1.c, .int .i64 E1.u, .slice s1 E1.sk.length sc1, .slice m1 E1.mv.length mc1] 44)).heap[u1.heap.size]? = some (.cells #[.string E1.id, .string E1.ti, .int .i64 E1.st, .int .i64 E1.lg, .string E1.f, .int .i64 E1.e, .slice r1 E1.ds.length rc1, .int .i64 E1.c, .int .i64 E1.u, .slice s1 E1.sk.length sc1, .slice m1 E1.mv.length mc1] 44 (0, 0))) := block_at _ rfl
          have LB1 : Hid (Ls (u1.alloc (.cells #[.string E1.id, .string E1.ti, .int .i64 E1.st, .int .i64 E1.lg, .string E1.f, .int .i64 E1.e, .slice r1 E1.ds.length rc1, .int .i64 E1.c, .int .i64 E1.u, .slice s1 E1.sk.length sc1, .slice m1 E1.mv.length mc1] 44)) E1 (.slice r1 E1.ds.length rc1) (.slice s1 E1.sk.length sc1) (.slice m1 E1.mv.length mc1)) := hL1.step (below_alloc _ _)
          unfold ev
          go_upto_region 20 with (fail)
          clear hL1 hb1 cb
          generalize u1.alloc (.cells #[.string E1.id, .string E1.ti, .int .i64 E1.st, .int .i64 E1.lg, .string E1.f, .int .i64 E1.e, .slice r1 E1.ds.length rc1, .int .i64 E1.c, .int .i64 E1.u, .slice s1 E1.sk.length sc1, .slice m1 E1.mv.length mc1] 44) = t1 at *
          generalize u1.heap.size = d1 at *
          have cb := HC0.out t1 HW1.out
          go_wp2_with fail
          go_at_call 11
          refine Calls.mono (GG2.out _ HW1.out) ?_
          rintro r u2 ⟨x2, y2, z2, rfl, hL2, _, hb2⟩
          have hLc := hL2
          obtain ⟨ld, ls, lm⟩ := hLc
          obtain ⟨r2, rc2, rfl, _⟩ := ld
          obtain ⟨s2, sc2, rfl, _⟩ := ls
          obtain ⟨m2, mc2, rfl, _⟩ := lm
          have HW2 : Hid (Below w15.heap.size w15 (u2.alloc (.cells #[.string E2.id, .string E2.ti, .int .i64 E2.st, .int .i64 E2.lg, .string E2.f, .int .i64 E2.e, .slice r2 E2.ds.length rc2, .int .i64 E2.c, .int .i64 E2.u, .slice s2 E2.sk.length sc2, .slice m2 E2.mv.length mc2] 44))) := below_then (below_then HW1.out hb2) (below_alloc _ _)
          have KB2 : Hid ((u2.alloc (.cells #[.string E2.id, .string E2.ti, .int .i64 E2.st, .int .i64 E2.lg, .string E2.f, .int .i64 E2.e, .slice r2 E2.ds.length rc2, .int .i64 E2.c, .int .i64 E2.u, .slice s2 E2.sk.length sc2, .slice m2 E2.mv.length mc2] 44)).heap[u2.heap.size]? = some (.cells #[.string E2.id, .string E2.ti, .int .i64 E2.st, .int .i64 E2.lg, .string E2.f, .int .i64 E2.e, .slice r2 E2.ds.length rc2, .int .i64 E2.c, .int .i64 E2.u, .slice s2 E2.sk.length sc2, .slice m2 E2.mv.length mc2] 44 (0, 0))) := block_at _ rfl
          have LB2 : Hid (Ls (u2.alloc (.cells #[.string E2.id, .string E2.ti, .int .i64 E2.st, .int .i64 E2.lg, .string E2.f, .int .i64 E2.e, .slice r2 E2.ds.length rc2, .int .i64 E2.c, .int .i64 E2.u, .slice s2 E2.sk.length sc2, .slice m2 E2.mv.length mc2] 44)) E2 (.slice r2 E2.ds.length rc2) (.slice s2 E2.sk.length sc2) (.slice m2 E2.mv.length mc2)) := hL2.step (below_alloc _ _)
          have KN : Hid ((u2.alloc (.cells #[.string E2.id, .string E2.ti, .int .i64 E2.st, .int .i64 E2.lg, .string E2.f, .int .i64 E2.e, .slice r2 E2.ds.length rc2, .int .i64 E2.c, .int .i64 E2.u, .slice s2 E2.sk.length sc2, .slice m2 E2.mv.length mc2] 44)).heap[d1]? = some (.cells #[.string E1.id, .string E1.ti, .int .i64 E1.st, .int .i64 E1.lg, .string E1.f, .int .i64 E1.e, .slice r1 E1.ds.length rc1, .int .i64 E1.c, .int .i64 E1.u, .slice s1 E1.sk.length sc1, .slice m1 E1.mv.length mc1] 44 (0, 0))) := ((below_then hb2 (below_alloc _ _)).block _ (Array.getElem?_eq_some_iff.1 KB1.out).1).trans KB1.out
          clear KB1
          have KB1 := KN
          clear KN
          have LN : Hid (Ls (u2.alloc (.cells #[.string E2.id, .string E2.ti, .int .i64 E2.st, .int .i64 E2.lg, .string E2.f, .int .i64 E2.e, .slice r2 E2.ds.length rc2, .int .i64 E2.c, .int .i64 E2.u, .slice s2 E2.sk.length sc2, .slice m2 E2.mv.length mc2] 44)) _ _ _ _) := LB1.out.step (below_then hb2 (below_alloc _ _))
          clear LB1
          have LB1 := LN
          clear LN
          unfold ev
          go_upto_region 21 with (fail)
          clear hL2 hb2 cb
          generalize u2.alloc (.cells #[.string E2.id, .string E2.ti, .int .i64 E2.st, .int .i64 E2.lg, .string E2.f, .int .i64 E2.e, .slice r2 E2.ds.length rc2, .int .i64 E2.c, .int .i64 E2.u, .slice s2 E2.sk.length sc2, .slice m2 E2.mv.length mc2] 44) = t2 at *
          generalize u2.heap.size = d2 at *
          have cb := HC0.out t2 HW2.out
          go_wp2_with fail
          go_at_call 11
          refine Calls.mono (GG3.out _ HW2.out) ?_
          rintro r u3 ⟨x3, y3, z3, rfl, hL3, _, hb3⟩
          have hLc := hL3
          obtain ⟨ld, ls, lm⟩ := hLc
          obtain ⟨r3, rc3, rfl, _⟩ := ld
          obtain ⟨s3, sc3, rfl, _⟩ := ls
          obtain ⟨m3, mc3, rfl, _⟩ := lm
          have HW3 : Hid (Below w15.heap.size w15 (u3.alloc (.cells #[.string E3.id, .string E3.ti, .int .i64 E3.st, .int .i64 E3.lg, .string E3.f, .int .i64 E3.e, .slice r3 E3.ds.length rc3, .int .i64 E3.c, .int .i64 E3.u, .slice s3 E3.sk.length sc3, .slice m3 E3.mv.length mc3] 44))) := below_then (below_then HW2.out hb3) (below_alloc _ _)
          have KB3 : Hid ((u3.alloc (.cells #[.string E3.id, .string E3.ti, .int .i64 E3.st, .int .i64 E3.lg, .string E3.f, .int .i64 E3.e, .slice r3 E3.ds.length rc3, .int .i64 E3.c, .int .i64 E3.u, .slice s3 E3.sk.length sc3, .slice m3 E3.mv.length mc3] 44)).heap[u3.heap.size]? = some (.cells #[.string E3.id, .string E3.ti, .int .i64 E3.st, .int .i64 E3.lg, .string E3.f, .int .i64 E3.e, .slice r3 E3.ds.length rc3, .int .i64 E3.c, .int .i64 E3.u, .slice s3 E3.sk.length sc3, .slice m3 E3.mv.length mc3] 44 (0, 0))) := block_at _ rfl
          have LB3 : Hid (Ls (u3.alloc (.cells #[.string E3.id, .string E3.ti, .int .i64 E3.st, .int .i64 E3.lg, .string E3.f, .int .i64 E3.e, .slice r3 E3.ds.length rc3, .int .i64 E3.c, .int .i64 E3.u, .slice s3 E3.sk.length sc3, .slice m3 E3.mv.length mc3] 44)) E3 (.slice r3 E3.ds.length rc3) (.slice s3 E3.sk.length sc3) (.slice m3 E3.mv.length mc3)) := hL3.step (below_alloc _ _)
          have KN : Hid ((u3.alloc (.cells #[.string E3.id, .string E3.ti, .int .i64 E3.st, .int .i64 E3.lg, .string E3.f, .int .i64 E3.e, .slice r3 E3.ds.length rc3, .int .i64 E3.c, .int .i64 E3.u, .slice s3 E3.sk.length sc3, .slice m3 E3.mv.length mc3] 44)).heap[d1]? = some (.cells #[.string E1.id, .string E1.ti, .int .i64 E1.st, .int .i64 E1.lg, .string E1.f, .int .i64 E1.e, .slice r1 E1.ds.length rc1, .int .i64 E1.c, .int .i64 E1.u, .slice s1 E1.sk.length sc1, .slice m1 E1.mv.length mc1] 44 (0, 0))) := ((below_then hb3 (below_alloc _ _)).block _ (Array.getElem?_eq_some_iff.1 KB1.out).1).trans KB1.out
          clear KB1
          have KB1 := KN
          clear KN
          have LN : Hid (Ls (u3.alloc (.cells #[.string E3.id, .string E3.ti, .int .i64 E3.st, .int .i64 E3.lg, .string E3.f, .int .i64 E3.e, .slice r3 E3.ds.length rc3, .int .i64 E3.c, .int .i64 E3.u, .slice s3 E3.sk.length sc3, .slice m3 E3.mv.length mc3] 44)) _ _ _ _) := LB1.out.step (below_then hb3 (below_alloc _ _))
          clear LB1
          have LB1 := LN
          clear LN
          have KN : Hid ((u3.alloc (.cells #[.string E3.id, .string E3.ti, .int .i64 E3.st, .int .i64 E3.lg, .string E3.f, .int .i64 E3.e, .slice r3 E3.ds.length rc3, .int .i64 E3.c, .int .i64 E3.u, .slice s3 E3.sk.length sc3, .slice m3 E3.mv.length mc3] 44)).heap[d2]? = some (.cells #[.string E2.id, .string E2.ti, .int .i64 E2.st, .int .i64 E2.lg, .string E2.f, .int .i64 E2.e, .slice r2 E2.ds.length rc2, .int .i64 E2.c, .int .i64 E2.u, .slice s2 E2.sk.length sc2, .slice m2 E2.mv.length mc2] 44 (0, 0))) := ((below_then hb3 (below_alloc _ _)).block _ (Array.getElem?_eq_some_iff.1 KB2.out).1).trans KB2.out
          clear KB2
          have KB2 := KN
          clear KN
          have LN : Hid (Ls (u3.alloc (.cells #[.string E3.id, .string E3.ti, .int .i64 E3.st, .int .i64 E3.lg, .string E3.f, .int .i64 E3.e, .slice r3 E3.ds.length rc3, .int .i64 E3.c, .int .i64 E3.u, .slice s3 E3.sk.length sc3, .slice m3 E3.mv.length mc3] 44)) _ _ _ _) := LB2.out.step (below_then hb3 (below_alloc _ _))
          clear LB2
          have LB2 := LN
          clear LN
          unfold ev
          go_upto_region 22 with (fail)
          clear hL3 hb3 cb
          generalize u3.alloc (.cells #[.string E3.id, .string E3.ti, .int .i64 E3.st, .int .i64 E3.lg, .string E3.f, .int .i64 E3.e, .slice r3 E3.ds.length rc3, .int .i64 E3.c, .int .i64 E3.u, .slice s3 E3.sk.length sc3, .slice m3 E3.mv.length mc3] 44) = t3 at *
          generalize u3.heap.size = d3 at *
          have cb := HC0.out t3 HW3.out
          go_wp2_with fail
          go_at_call 11
          refine Calls.mono (GG4.out _ HW3.out) ?_
          rintro r u4 ⟨x4, y4, z4, rfl, hL4, _, hb4⟩
          have hLc := hL4
          obtain ⟨ld, ls, lm⟩ := hLc
          obtain ⟨r4, rc4, rfl, _⟩ := ld
          obtain ⟨s4, sc4, rfl, _⟩ := ls
          obtain ⟨m4, mc4, rfl, _⟩ := lm
          have HW4 : Hid (Below w15.heap.size w15 (u4.alloc (.cells #[.string E4.id, .string E4.ti, .int .i64 E4.st, .int .i64 E4.lg, .string E4.f, .int .i64 E4.e, .slice r4 E4.ds.length rc4, .int .i64 E4.c, .int .i64 E4.u, .slice s4 E4.sk.length sc4, .slice m4 E4.mv.length mc4] 44))) := below_then (below_then HW3.out hb4) (below_alloc _ _)
          have KB4 : Hid ((u4.alloc (.cells #[.string E4.id, .string E4.ti, .int .i64 E4.st, .int .i64 E4.lg, .string E4.f, .int .i64 E4.e, .slice r4 E4.ds.length rc4, .int .i64 E4.c, .int .i64 E4.u, .slice s4 E4.sk.length sc4, .slice m4 E4.mv.length mc4] 44)).heap[u4.heap.size]? = some (.cells #[.string E4.id, .string E4.ti, .int .i64 E4.st, .int .i64 E4.lg, .string E4.f, .int .i64 E4.e, .slice r4 E4.ds.length rc4, .int .i64 E4.c, .int .i64 E4.u, .slice s4 E4.sk.length sc4, .slice m4 E4.mv.length mc4] 44 (0, 0))) := block_at _ rfl
          have LB4 : Hid (Ls (u4.alloc (.cells #[.string E4.id, .string E4.ti, .int .i64 E4.st, .int .i64 E4.lg, .string E4.f, .int .i64 E4.e, .slice r4 E4.ds.length rc4, .int .i64 E4.c, .int .i64 E4.u, .slice s4 E4.sk.length sc4, .slice m4 E4.mv.length mc4] 44)) E4 (.slice r4 E4.ds.length rc4) (.slice s4 E4.sk.length sc4) (.slice m4 E4.mv.length mc4)) := hL4.step (below_alloc _ _)
          have KN : Hid ((u4.alloc (.cells #[.string E4.id, .string E4.ti, .int .i64 E4.st, .int .i64 E4.lg, .string E4.f, .int .i64 E4.e, .slice r4 E4.ds.length rc4, .int .i64 E4.c, .int .i64 E4.u, .slice s4 E4.sk.length sc4, .slice m4 E4.mv.length mc4] 44)).heap[d1]? = some (.cells #[.string E1.id, .string E1.ti, .int .i64 E1.st, .int .i64 E1.lg, .string E1.f, .int .i64 E1.e, .slice r1 E1.ds.length rc1, .int .i64 E1.c, .int .i64 E1.u, .slice s1 E1.sk.length sc1, .slice m1 E1.mv.length mc1] 44 (0, 0))) := ((below_then hb4 (below_alloc _ _)).block _ (Array.getElem?_eq_some_iff.1 KB1.out).1).trans KB1.out
          clear KB1
          have KB1 := KN
          clear KN
          have LN : Hid (Ls (u4.alloc (.cells #[.string E4.id, .string E4.ti, .int .i64 E4.st, .int .i64 E4.lg, .string E4.f, .int .i64 E4.e, .slice r4 E4.ds.length rc4, .int .i64 E4.c, .int .i64 E4.u, .slice s4 E4.sk.length sc4, .slice m4 E4.mv.length mc4] 44)) _ _ _ _) := LB1.out.step (below_then hb4 (below_alloc _ _))
          clear LB1
          have LB1 := LN
          clear LN
          have KN : Hid ((u4.alloc (.cells #[.string E4.id, .string E4.ti, .int .i64 E4.st, .int .i64 E4.lg, .string E4.f, .int .i64 E4.e, .slice r4 E4.ds.length rc4, .int .i64 E4.c, .int .i64 E4.u, .slice s4 E4.sk.length sc4, .slice m4 E4.mv.length mc4] 44)).heap[d2]? = some (.cells #[.string E2.id, .string E2.ti, .int .i64 E2.st, .int .i64 E2.lg, .string E2.f, .int .i64 E2.e, .slice r2 E2.ds.length rc2, .int .i64 E2.c, .int .i64 E2.u, .slice s2 E2.sk.length sc2, .slice m2 E2.mv.length mc2] 44 (0, 0))) := ((below_then hb4 (below_alloc _ _)).block _ (Array.getElem?_eq_some_iff.1 KB2.out).1).trans KB2.out
          clear KB2
          have KB2 := KN
          clear KN
          have LN : Hid (Ls (u4.alloc (.cells #[.string E4.id, .string E4.ti, .int .i64 E4.st, .int .i64 E4.lg, .string E4.f, .int .i64 E4.e, .slice r4 E4.ds.length rc4, .int .i64 E4.c, .int .i64 E4.u, .slice s4 E4.sk.length sc4, .slice m4 E4.mv.length mc4] 44)) _ _ _ _) := LB2.out.step (below_then hb4 (below_alloc _ _))
          clear LB2
          have LB2 := LN
          clear LN
          have KN : Hid ((u4.alloc (.cells #[.string E4.id, .string E4.ti, .int .i64 E4.st, .int .i64 E4.lg, .string E4.f, .int .i64 E4.e, .slice r4 E4.ds.length rc4, .int .i64 E4.c, .int .i64 E4.u, .slice s4 E4.sk.length sc4, .slice m4 E4.mv.length mc4] 44)).heap[d3]? = some (.cells #[.string E3.id, .string E3.ti, .int .i64 E3.st, .int .i64 E3.lg, .string E3.f, .int .i64 E3.e, .slice r3 E3.ds.length rc3, .int .i64 E3.c, .int .i64 E3.u, .slice s3 E3.sk.length sc3, .slice m3 E3.mv.length mc3] 44 (0, 0))) := ((below_then hb4 (below_alloc _ _)).block _ (Array.getElem?_eq_some_iff.1 KB3.out).1).trans KB3.out
          clear KB3
          have KB3 := KN
          clear KN
          have LN : Hid (Ls (u4.alloc (.cells #[.string E4.id, .string E4.ti, .int .i64 E4.st, .int .i64 E4.lg, .string E4.f, .int .i64 E4.e, .slice r4 E4.ds.length rc4, .int .i64 E4.c, .int .i64 E4.u, .slice s4 E4.sk.length sc4, .slice m4 E4.mv.length mc4] 44)) _ _ _ _) := LB3.out.step (below_then hb4 (below_alloc _ _))
          clear LB3
          have LB3 := LN
          clear LN
          unfold ev
          go_upto_region 23 with (fail)
          clear hL4 hb4 cb
          generalize u4.alloc (.cells #[.string E4.id, .string E4.ti, .int .i64 E4.st, .int .i64 E4.lg, .string E4.f, .int .i64 E4.e, .slice r4 E4.ds.length rc4, .int .i64 E4.c, .int .i64 E4.u, .slice s4 E4.sk.length sc4, .slice m4 E4.mv.length mc4] 44) = t4 at *
          generalize u4.heap.size = d4 at *
          have cb := HC0.out t4 HW4.out
          have KK1 : Hid (∀ W, Below t4.heap.size t4 W → W.heap[d1]? = some (.cells #[.string E1.id, .string E1.ti, .int .i64 E1.st, .int .i64 E1.lg, .string E1.f, .int .i64 E1.e, .slice r1 E1.ds.length rc1, .int .i64 E1.c, .int .i64 E1.u, .slice s1 E1.sk.length sc1, .slice m1 E1.mv.length mc1] 44 (0, 0))) := fun W hW => (hW.block _ (Array.getElem?_eq_some_iff.1 KB1.out).1).trans KB1.out
          have KK2 : Hid (∀ W, Below t4.heap.size t4 W → W.heap[d2]? = some (.cells #[.string E2.id, .string E2.ti, .int .i64 E2.st, .int .i64 E2.lg, .string E2.f, .int .i64 E2.e, .slice r2 E2.ds.length rc2, .int .i64 E2.c, .int .i64 E2.u, .slice s2 E2.sk.length sc2, .slice m2 E2.mv.length mc2] 44 (0, 0))) := fun W hW => (hW.block _ (Array.getElem?_eq_some_iff.1 KB2.out).1).trans KB2.out
          have KK3 : Hid (∀ W, Below t4.heap.size t4 W → W.heap[d3]? = some (.cells #[.string E3.id, .string E3.ti, .int .i64 E3.st, .int .i64 E3.lg, .string E3.f, .int .i64 E3.e, .slice r3 E3.ds.length rc3, .int .i64 E3.c, .int .i64 E3.u, .slice s3 E3.sk.length sc3, .slice m3 E3.mv.length mc3] 44 (0, 0))) := fun W hW => (hW.block _ (Array.getElem?_eq_some_iff.1 KB3.out).1).trans KB3.out
          have KK4 : Hid (∀ W, Below t4.heap.size t4 W → W.heap[d4]? = some (.cells #[.string E4.id, .string E4.ti, .int .i64 E4.st, .int .i64 E4.lg, .string E4.f, .int .i64 E4.e, .slice r4 E4.ds.length rc4, .int .i64 E4.c, .int .i64 E4.u, .slice s4 E4.sk.length sc4, .slice m4 E4.mv.length mc4] 44 (0, 0))) := fun W hW => (hW.block _ (Array.getElem?_eq_some_iff.1 KB4.out).1).trans KB4.out
          obtain ⟨e12, he12, hd12⟩ := sameEvent_ex E1 E2
          have D12 : Hid (∀ W, Below t4.heap.size t4 W → Calls Tryz.prog 12 #[.agg #[.string E1.id, .string E1.ti, .int .i64 E1.st, .int .i64 E1.lg, .string E1.f, .int .i64 E1.e, .slice r1 E1.ds.length rc1, .int .i64 E1.c, .int .i64 E1.u, .slice s1 E1.sk.length sc1, .slice m1 E1.mv.length mc1], .agg #[.string E2.id, .string E2.ti, .int .i64 E2.st, .int .i64 E2.lg, .string E2.f, .int .i64 E2.e, .slice r2 E2.ds.length rc2, .int .i64 E2.c, .int .i64 E2.u, .slice s2 E2.sk.length sc2, .slice m2 E2.mv.length mc2]] W fun r w' => r = .returned (.bool e12) ∧ Below W.heap.size W w') := fun W hW => hd12 _ _ _ _ _ _ W (LB1.out.step hW) (LB2.out.step hW)
          clear hd12
          obtain ⟨e13, he13, hd13⟩ := sameEvent_ex E1 E3
          have D13 : Hid (∀ W, Below t4.heap.size t4 W → Calls Tryz.prog 12 #[.agg #[.string E1.id, .string E1.ti, .int .i64 E1.st, .int .i64 E1.lg, .string E1.f, .int .i64 E1.e, .slice r1 E1.ds.length rc1, .int .i64 E1.c, .int .i64 E1.u, .slice s1 E1.sk.length sc1, .slice m1 E1.mv.length mc1], .agg #[.string E3.id, .string E3.ti, .int .i64 E3.st, .int .i64 E3.lg, .string E3.f, .int .i64 E3.e, .slice r3 E3.ds.length rc3, .int .i64 E3.c, .int .i64 E3.u, .slice s3 E3.sk.length sc3, .slice m3 E3.mv.length mc3]] W fun r w' => r = .returned (.bool e13) ∧ Below W.heap.size W w') := fun W hW => hd13 _ _ _ _ _ _ W (LB1.out.step hW) (LB3.out.step hW)
          clear hd13
          obtain ⟨e43, he43, hd43⟩ := sameEvent_ex E4 E3
          have D43 : Hid (∀ W, Below t4.heap.size t4 W → Calls Tryz.prog 12 #[.agg #[.string E4.id, .string E4.ti, .int .i64 E4.st, .int .i64 E4.lg, .string E4.f, .int .i64 E4.e, .slice r4 E4.ds.length rc4, .int .i64 E4.c, .int .i64 E4.u, .slice s4 E4.sk.length sc4, .slice m4 E4.mv.length mc4], .agg #[.string E3.id, .string E3.ti, .int .i64 E3.st, .int .i64 E3.lg, .string E3.f, .int .i64 E3.e, .slice r3 E3.ds.length rc3, .int .i64 E3.c, .int .i64 E3.u, .slice s3 E3.sk.length sc3, .slice m3 E3.mv.length mc3]] W fun r w' => r = .returned (.bool e43) ∧ Below W.heap.size W w') := fun W hW => hd43 _ _ _ _ _ _ W (LB4.out.step hW) (LB3.out.step hW)
          clear hd43
          obtain ⟨e42, he42, hd42⟩ := sameEvent_ex E4 E2
          have D42 : Hid (∀ W, Below t4.heap.size t4 W → Calls Tryz.prog 12 #[.agg #[.string E4.id, .string E4.ti, .int .i64 E4.st, .int .i64 E4.lg, .string E4.f, .int .i64 E4.e, .slice r4 E4.ds.length rc4, .int .i64 E4.c, .int .i64 E4.u, .slice s4 E4.sk.length sc4, .slice m4 E4.mv.length mc4], .agg #[.string E2.id, .string E2.ti, .int .i64 E2.st, .int .i64 E2.lg, .string E2.f, .int .i64 E2.e, .slice r2 E2.ds.length rc2, .int .i64 E2.c, .int .i64 E2.u, .slice s2 E2.sk.length sc2, .slice m2 E2.mv.length mc2]] W fun r w' => r = .returned (.bool e42) ∧ Below W.heap.size W w') := fun W hW => hd42 _ _ _ _ _ _ W (LB4.out.step hW) (LB2.out.step hW)
          clear hd42
          obtain ⟨sA, hsA⟩ : ∃ s : Bool, (s = true ↔ f1 = f2 ∧ E1 = E2) := bool_of _
          obtain ⟨sB, hsB⟩ : ∃ s : Bool, (s = true ↔ f1 = f3 ∧ E1 = E3) := bool_of _
          have HA1 : Hid (f1 = f2 → sA = e12) := fun z => by rw [Bool.eq_iff_iff, hsA, he12]; exact ⟨fun q => q.2, fun q => ⟨z, q⟩⟩
          have HA0 : Hid (f1 ≠ f2 → sA = false) := fun z => by rw [← Bool.not_eq_true, hsA]; exact fun q => z q.1
          have HB1 : Hid (f1 = f3 → sB = e13) := fun z => by rw [Bool.eq_iff_iff, hsB, he13]; exact ⟨fun q => q.2, fun q => ⟨z, q⟩⟩
          have HB0 : Hid (f1 ≠ f3 → sB = false) := fun z => by rw [← Bool.not_eq_true, hsB]; exact fun q => z q.1
          have HA4 : Hid (sA = true → f4 = f3 ∧ e43 = true) := fun z => ⟨(HA43.out (hsA.1 z)).1, he43.2 (HA43.out (hsA.1 z)).2⟩
          have HB4 : Hid (sB = true → f4 = f2 ∧ e42 = true) := fun z => ⟨(HB42.out (hsB.1 z)).1, he42.2 (HB42.out (hsB.1 z)).2⟩
          clear hsA hsB he12 he13 he43 he42 HA43 HB42 KB1 KB2 KB3 KB4 LB1 LB2 LB3 LB4 HC0 cb GG1 GG2 GG3 GG4 HW1 HW2 HW3
          go_cut [26] (fun v wx => v = .bool sA ∧ Hid (Below t4.heap.size t4 wx))
          case first =>
            obtain ⟨a0, a1, a2, a3, a4, a5, a6, a7, a8, a9, a10⟩ := blk11 (KK1.out t4 (Below.refl _ _))
            obtain ⟨b0, b1, b2, b3, b4, b5, b6, b7, b8, b9, b10⟩ := blk11 (KK2.out t4 (Below.refl _ _))
            have HD : Hid (Calls _ _ _ _ _) := D12.out t4 (Below.refl _ _)
            cases f1 with
            | false =>
              cases f2 with
              | false =>
                have HQ : Hid (sA = e12) := HA1.out rfl
                go_wp2_with (go_at_call 12; refine Calls.mono HD.out ?_; rintro r wx ⟨rfl, hbx⟩)
                go_meet
                case rel => exact ⟨by rw [HQ.out], below_then (Below.refl _ _) hbx⟩
              | true =>
                have HQ : Hid (sA = false) := HA0.out (by decide)
                go_wp2
                go_meet
                case rel => exact ⟨by rw [HQ.out], (Below.refl _ _)⟩
            | true =>
              cases f2 with
              | false =>
                have HQ : Hid (sA = false) := HA0.out (by decide)
                go_wp2
                go_meet
                case rel => exact ⟨by rw [HQ.out], (Below.refl _ _)⟩
              | true =>
                have HQ : Hid (sA = e12) := HA1.out rfl
                go_wp2_with (go_at_call 12; refine Calls.mono HD.out ?_; rintro r wx ⟨rfl, hbx⟩)
                go_meet
                case rel => exact ⟨by rw [HQ.out], below_then (Below.refl _ _) hbx⟩
          case rest =>
            obtain ⟨rfl, HB24⟩ := hcut
            go_upto_region 24 with (fail)
            go_cut [27] (fun v wx => v = .bool sB ∧ Hid (Below t4.heap.size t4 wx))
            case first =>
              obtain ⟨a0, a1, a2, a3, a4, a5, a6, a7, a8, a9, a10⟩ := blk11 (KK1.out wc HB24.out)
              obtain ⟨b0, b1, b2, b3, b4, b5, b6, b7, b8, b9, b10⟩ := blk11 (KK3.out wc HB24.out)
              have HD : Hid (Calls _ _ _ _ _) := D13.out wc HB24.out
              cases f1 with
              | false =>
                cases f3 with
                | false =>
                  have HQ : Hid (sB = e13) := HB1.out rfl
                  go_wp2_with (go_at_call 12; refine Calls.mono HD.out ?_; rintro r wx ⟨rfl, hbx⟩)
                  go_meet
                  case rel => exact ⟨by rw [HQ.out], below_then HB24.out hbx⟩
                | true =>
                  have HQ : Hid (sB = false) := HB0.out (by decide)
                  go_wp2
                  go_meet
                  case rel => exact ⟨by rw [HQ.out], HB24.out⟩
              | true =>
                cases f3 with
                | false =>
                  have HQ : Hid (sB = false) := HB0.out (by decide)
                  go_wp2
                  go_meet
                  case rel => exact ⟨by rw [HQ.out], HB24.out⟩
                | true =>
                  have HQ : Hid (sB = e13) := HB1.out rfl
                  go_wp2_with (go_at_call 12; refine Calls.mono HD.out ?_; rintro r wx ⟨rfl, hbx⟩)
                  go_meet
                  case rel => exact ⟨by rw [HQ.out], below_then HB24.out hbx⟩
            case rest =>
              obtain ⟨rfl, HB25⟩ := hcut
              clear HB24
              go_upto_region 25 with (fail)
              go_cut [153] (fun v wx => v = .bool false ∧ Hid (Below t4.heap.size t4 wx))
              case first =>
                obtain ⟨a0, a1, a2, a3, a4, a5, a6, a7, a8, a9, a10⟩ := blk11 (KK4.out wc HB25.out)
                obtain ⟨b0, b1, b2, b3, b4, b5, b6, b7, b8, b9, b10⟩ := blk11 (KK3.out wc HB25.out)
                have HD : Hid (Calls _ _ _ _ _) := D43.out wc HB25.out
                cases sA with
                | false =>
                  go_wp2
                  go_meet
                  case rel => exact ⟨rfl, HB25.out⟩
                | true =>
                  obtain ⟨hff, hee⟩ := HA4.out rfl
                  rw [hee] at HD
                  have HF : Hid (f4 = f3) := hff
                  clear hff hee
                  cases f4 with
                  | false =>
                    cases f3 with
                    | true => exact absurd HF.out (by decide)
                    | false =>
                      go_wp2_with (go_at_call 12; refine Calls.mono HD.out ?_; rintro r wx ⟨rfl, hbx⟩)
                      go_meet
                      case rel => exact ⟨rfl, below_then HB25.out hbx⟩
                  | true =>
                    cases f3 with
                    | false => exact absurd HF.out (by decide)
                    | true =>
                      go_wp2_with (go_at_call 12; refine Calls.mono HD.out ?_; rintro r wx ⟨rfl, hbx⟩)
                      go_meet
                      case rel => exact ⟨rfl, below_then HB25.out hbx⟩
              case rest =>
                obtain ⟨rfl, HB27⟩ := hcut
                clear HB25
                go_upto_region 27 with (fail)
                go_cut [165] (fun v wx => v = .bool false ∧ Hid (Below t4.heap.size t4 wx))
                case first =>
                  obtain ⟨a0, a1, a2, a3, a4, a5, a6, a7, a8, a9, a10⟩ := blk11 (KK4.out wc HB27.out)
                  obtain ⟨b0, b1, b2, b3, b4, b5, b6, b7, b8, b9, b10⟩ := blk11 (KK2.out wc HB27.out)
                  have HD : Hid (Calls _ _ _ _ _) := D42.out wc HB27.out
                  cases sB with
                  | false =>
                    go_wp2
                    go_meet
                    case rel => exact ⟨rfl, HB27.out⟩
                  | true =>
                    obtain ⟨hff, hee⟩ := HB4.out rfl
                    rw [hee] at HD
                    have HF : Hid (f4 = f2) := hff
                    clear hff hee
                    cases f4 with
                    | false =>
                      cases f2 with
                      | true => exact absurd HF.out (by decide)
                      | false =>
                        go_wp2_with (go_at_call 12; refine Calls.mono HD.out ?_; rintro r wx ⟨rfl, hbx⟩)
                        go_meet
                        case rel => exact ⟨rfl, below_then HB27.out hbx⟩
                    | true =>
                      cases f2 with
                      | false => exact absurd HF.out (by decide)
                      | true =>
                        go_wp2_with (go_at_call 12; refine Calls.mono HD.out ?_; rintro r wx ⟨rfl, hbx⟩)
                        go_meet
                        case rel => exact ⟨rfl, below_then HB27.out hbx⟩
                case rest =>
                  obtain ⟨rfl, HB28⟩ := hcut
                  clear HB27
                  go_wp2
                  go_roundw
                  case rel => exact ⟨k + 1, by omega, by go_num, below_then HW4.out HB28.out⟩
                  case measure => simp [intOf]; omega
        · clear G1 G2 G3 G4 HTK2 HT HIDS
          go_wp2
          go_ret
          exact ⟨rfl, below_then BF.out HBR.out⟩
    · have hcl : cl ≠ [] := hc0
      have hcp : 0 < cl.length := List.length_pos_iff.2 hcl
      obtain ⟨sa, sc, rfl, hsc, _⟩ := hS.cells
      have B9 : Hid (Below w.heap.size w w9) := below_then B7.out hb9
      clear hc0 hb9 hS HTK T4
      go_wp2
      go_ret
      exact ⟨rfl, B9.out⟩
end Go.Proofs.YtekminpoiokgfaaGreatDoor
