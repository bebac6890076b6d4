/- Package event's Read: an event is read as it was written. -/
import Derived.Test.YtekminpoiokgfaaGreatDoorYaT
namespace Go.Proofs.YtekminpoiokgfaaGreatDoor
open Go Go.RowKit Cal
attribute [local go_sem] Oper.semAt_some

/-- an event, read up to its m-th field -/
def part (E : EV) (m : Nat) : EV := ⟨E.id, if 0 < m then E.ti else ⟨#[]⟩, if 1 < m then E.st else 0, if 2 < m then E.lg else 0, if 3 < m then E.f else ⟨#[]⟩, if 3 < m then E.e else 0, if 3 < m then E.ds else [], if 3 < m then E.c else 0, if 3 < m then E.u else 0, if 4 < m then E.sk else [], if 5 < m then E.mv else []⟩
theorem part_upd (E : EV) (m : Nat) (h : m < 6) : upd (part E m) E m = part E (m + 1) := by
  match m, h with
  | 0, _ => rfl
  | 1, _ => rfl
  | 2, _ => rfl
  | 3, _ => rfl
  | 4, _ => rfl
  | 5, _ => rfl
theorem part_all (E : EV) : part E 6 = E := rfl
theorem pc_cell (E : EV) (w : World) (m : Nat) (h : m < 6) : (w.alloc (pcO (E.id.data.toList :: pT E))).cell? ⟨w.heap.size, 1 + m, none⟩ = some (.string (bs (fT E m))) := by
  unfold pcO pT
  rw [World.cell?_alloc_new]
  match m, h with
  | 0, _ => rfl
  | 1, _ => rfl
  | 2, _ => rfl
  | 3, _ => rfl
  | 4, _ => rfl
  | 5, _ => rfl
theorem pc_id (E : EV) (w : World) : (w.alloc (pcO (E.id.data.toList :: pT E))).cell? ⟨w.heap.size, 0, none⟩ = some (.string E.id) := by
  unfold pcO
  rw [World.cell?_alloc_new]
  show some (sv _) = _
  unfold sv
  rw [bs_own]

set_option maxHeartbeats 4000000 in
set_option maxRecDepth 100000 in
theorem eread_any (E : EV) (s : Nat → Addr) (w : World) (gk : GlobK s w) (g : GlobR w) (hE : EW E) (h20 : E.ds.length ≤ 20) :
    Calls Tryz.prog 43 #[.string (bs (eT E))] w fun r w' => ∃ sl skv mvv, r = .returned (.tuple #[ev E sl skv mvv, .nilIface]) ∧ Ls w' E sl skv mvv ∧ Below w.heap.size w w' := by
  obtain ⟨k20, m20, _⟩ := lk_of hE.ls
  have GK : Hid (GlobK s w) := gk
  have GR : Hid (GlobR w) := g
  have HW : Hid (EW E) := hE
  have SP : Hid (∀ W, Calls Tryz.prog 69 #[.string (bs (eT E)), .string ⟨#[124]⟩] W fun r w' => r = .returned (.slice (some ⟨W.heap.size, 0, none⟩) 7 7) ∧ w' = W.alloc (pcO (E.id.data.toList :: pT E))) := fun W => by
    have := split_any (bs (eT E)) 124 W (by rw [Lib.size_eq, bs_data]; have := eT_len hE h20; omega)
    rw [bs_data, eT_pieces hE] at this
    exact this
  have SH : Hid (∀ (m : Nat), m < 6 → ∀ W, Tab W → Calls Tryz.prog 70 #[.string (fldB m), .string (bs (fT E m))] W fun r w' => r = .returned (.bool true) ∧ Below W.heap.size W w') := fun m hm W h => shaped_any E m hm W hE h
  have FI : Hid (∀ (m : Nat), m < 6 → ∀ (B : Nat) (N : Nat → Prop), N B → ∀ (W : World), (∀ n, N n → n < W.heap.size) → GlobR W → ∀ sl skv mvv, EB W B (part E m) sl skv mvv → Off N W (part E m) sl skv mvv → Calls Tryz.prog 71 #[.pointer (some ⟨B, 0, none⟩), .string (fldB m), .string (bs (fT E m))] W fun r w' => r = .returned .nilIface ∧ W.grownBy w' (some B) ∧ ∃ sl' skv' mvv', EB w' B (part E (m + 1)) sl' skv' mvv' ∧ Off N w' (part E (m + 1)) sl' skv' mvv') :=
    fun m hm B N hN W hN2 hg sl skv mvv hB hO => by
      have := fill_any (part E m) E sl skv mvv m hm B N hN W hN2 hg hB hO hE h20
      rw [part_upd E m hm] at this
      exact this
  have CK : Hid (∀ sl skv mvv W, GlobK s W → Ls W E sl skv mvv → Calls Tryz.prog 30 #[ev E sl skv mvv] W fun r w' => r = .returned .nilIface ∧ Below W.heap.size W w') := fun sl skv mvv W hg hl => by
    have := evCheck_k E sl skv mvv 0 s W hg hl.d hl.s hl.m (by have := hE.id.2.2; omega) (by have := hE.ti.2; omega) (by obtain ⟨k, hk⟩ := evK_ex E; have := (evK_0 hk).2 hE; subst this; exact hk)
    rw [errV_0] at this
    exact this
  generalize bs (eT E) = sb at SP ⊢
  clear gk g hE
  have hA := below_alloc w (.cells #[.string ⟨#[]⟩, .string ⟨#[]⟩, .int .i64 0, .int .i64 0, .string ⟨#[]⟩, .int .i64 0, .slice none 0 0, .int .i64 0, .int .i64 0, .slice none 0 0, .slice none 0 0] 44)
  have kR : (w.alloc (.cells #[.string ⟨#[]⟩, .string ⟨#[]⟩, .int .i64 0, .int .i64 0, .string ⟨#[]⟩, .int .i64 0, .slice none 0 0, .int .i64 0, .int .i64 0, .slice none 0 0, .slice none 0 0] 44)).heap[w.heap.size]? = some (.cells #[.string ⟨#[]⟩, .string ⟨#[]⟩, .int .i64 0, .int .i64 0, .string ⟨#[]⟩, .int .i64 0, .slice none 0 0, .int .i64 0, .int .i64 0, .slice none 0 0, .slice none 0 0] 44 (0, 0)) := block_at _ rfl
  have hz : (w.alloc (.cells #[.string ⟨#[]⟩, .string ⟨#[]⟩, .int .i64 0, .int .i64 0, .string ⟨#[]⟩, .int .i64 0, .slice none 0 0, .int .i64 0, .int .i64 0, .slice none 0 0, .slice none 0 0] 44)).heap.size = w.heap.size + 1 := World.size_alloc _ _
  have HA : Hid (_) := hA
  have KR : Hid (_) := kR
  have HZ : Hid (_) := hz
  clear hA kR hz
  go_enter Tryz.func43, Tryz.ntmps43
  generalize hw0 : w.alloc (.cells #[.string ⟨#[]⟩, .string ⟨#[]⟩, .int .i64 0, .int .i64 0, .string ⟨#[]⟩, .int .i64 0, .slice none 0 0, .int .i64 0, .int .i64 0, .slice none 0 0, .slice none 0 0] 44) = w0 at HA KR HZ
  go_upto_region 2 with (go_at_call 65; refine Calls.mono (fields_any _) ?_; rintro r w' ⟨rfl, rfl⟩)
  have FC1 : Hid (∀ (i : Nat), i < 6 → (w0.alloc fldO).cell? ⟨w0.heap.size, i, none⟩ = some (.string (fldB i))) := fun i hi => fld_cell w0 i hi
  have HB1 : Hid (Below w0.heap.size w0 (w0.alloc fldO)) := below_alloc _ _
  have hz1 : (w0.alloc fldO).heap.size = w0.heap.size + 1 := World.size_alloc _ _
  generalize w0.alloc fldO = w1 at FC1 HB1 hz1 ⊢
  have HZ1 : Hid (_) := hz1
  clear hz1
  go_upto_region 3 with (go_at_call 69; refine Calls.mono (SP.out _) ?_; rintro r w' ⟨rfl, rfl⟩)
  have PC : Hid (∀ (m : Nat), m < 6 → (w1.alloc (pcO (E.id.data.toList :: pT E))).cell? ⟨w1.heap.size, 1 + m, none⟩ = some (.string (bs (fT E m)))) := fun m hm => pc_cell E w1 m hm
  have pc0 := pc_id E w1
  have HB2 : Hid (Below w1.heap.size w1 (w1.alloc (pcO (E.id.data.toList :: pT E)))) := below_alloc _ _
  have HZ2 : Hid ((w1.alloc (pcO (E.id.data.toList :: pT E))).heap.size = w1.heap.size + 1) := World.size_alloc _ _
  generalize w1.alloc (pcO (E.id.data.toList :: pT E)) = w2 at PC pc0 HB2 HZ2 ⊢
  have HDEF : Hid (part E 0 = ⟨E.id, ⟨#[]⟩, 0, 0, ⟨#[]⟩, 0, [], 0, 0, [], []⟩) := rfl
  generalize hid : E.id = idn at pc0 HDEF
  clear SP hw0 hid
  go_upto_region 8 with (fail)
  have KE : Hid (EB (w2.alloc (.cells #[.string idn, .string ⟨#[]⟩, .int .i64 0, .int .i64 0, .string ⟨#[]⟩, .int .i64 0, .slice none 0 0, .int .i64 0, .int .i64 0, .slice none 0 0, .slice none 0 0] 44)) w2.heap.size (part E 0) (.slice none 0 0) (.slice none 0 0) (.slice none 0 0)) := by
    show EB _ _ _ _ _ _
    rw [HDEF.out]
    exact block_at _ rfl
  have HB3 : Hid (Below w2.heap.size w2 (w2.alloc (.cells #[.string idn, .string ⟨#[]⟩, .int .i64 0, .int .i64 0, .string ⟨#[]⟩, .int .i64 0, .slice none 0 0, .int .i64 0, .int .i64 0, .slice none 0 0, .slice none 0 0] 44))) := below_alloc _ _
  have HZ3 : Hid ((w2.alloc (.cells #[.string idn, .string ⟨#[]⟩, .int .i64 0, .int .i64 0, .string ⟨#[]⟩, .int .i64 0, .slice none 0 0, .int .i64 0, .int .i64 0, .slice none 0 0, .slice none 0 0] 44)).heap.size = w2.heap.size + 1) := World.size_alloc _ _
  have OF0 : Hid (∀ N, Off N (w2.alloc (.cells #[.string idn, .string ⟨#[]⟩, .int .i64 0, .int .i64 0, .string ⟨#[]⟩, .int .i64 0, .slice none 0 0, .int .i64 0, .int .i64 0, .slice none 0 0, .slice none 0 0] 44)) (part E 0) (.slice none 0 0) (.slice none 0 0) (.slice none 0 0)) := fun N => by
    rw [HDEF.out]
    exact ⟨OffI.nil _ _ _, OffI.nil _ _ _, OffM.nil _ _ _⟩
  clear pc0
  generalize w2.alloc (.cells #[.string idn, .string ⟨#[]⟩, .int .i64 0, .int .i64 0, .string ⟨#[]⟩, .int .i64 0, .slice none 0 0, .int .i64 0, .int .i64 0, .slice none 0 0, .slice none 0 0] 44) = w3 at KE HB3 HZ3 OF0 ⊢
  -- the worlds' sizes
  obtain ⟨nf, hnf⟩ : ∃ n, n = w0.heap.size := ⟨_, rfl⟩
  obtain ⟨np, hnp⟩ : ∃ n, n = w1.heap.size := ⟨_, rfl⟩
  obtain ⟨be, hbe⟩ : ∃ n, n = w2.heap.size := ⟨_, rfl⟩
  have e1 := HZ.out
  have e2 := HZ1.out
  have e3 := HZ2.out
  have e4 := HZ3.out
  have B23 : Hid (Below w1.heap.size w1 w3) := below_then HB2.out HB3.out
  have B13 : Hid (Below w0.heap.size w0 w3) := below_then HB1.out B23.out
  have BW3 : Hid (Below w.heap.size w w3) := below_then HA.out B13.out
  have FC3 : Hid (∀ (i : Nat), i < 6 → w3.cell? ⟨nf, i, none⟩ = some (.string (fldB i))) := fun i hi => by rw [hnf]; exact cell_step (FC1.out i hi) B23.out
  have PC3 : Hid (∀ (m : Nat), m < 6 → w3.cell? ⟨np, 1 + m, none⟩ = some (.string (bs (fT E m)))) := fun i hi => by rw [hnp]; exact cell_step (PC.out i hi) HB3.out
  have KR3 : Hid (w3.heap[w.heap.size]? = some (.cells #[.string ⟨#[]⟩, .string ⟨#[]⟩, .int .i64 0, .int .i64 0, .string ⟨#[]⟩, .int .i64 0, .slice none 0 0, .int .i64 0, .int .i64 0, .slice none 0 0, .slice none 0 0] 44 (0, 0))) := (B13.out.block _ (by omega)).trans KR.out
  have KE3 : Hid (EB w3 be (part E 0) (.slice none 0 0) (.slice none 0 0) (.slice none 0 0)) := by show EB _ _ _ _ _ _; rw [hbe]; exact KE.out
  have hs1 : w.heap.size + 1 = nf := by omega
  have hs2 : nf + 1 = np := by omega
  have hs3 : np + 1 = be := by omega
  have hs4 : be + 1 = w3.heap.size := by omega
  rw [← hnf, ← hnp, ← hbe]
  have HS1 : Hid (w.heap.size < nf ∧ nf < np ∧ np < be ∧ be < w3.heap.size) := by show _ ∧ _; omega
  clear HZ HZ1 HZ2 HZ3 e1 e2 e3 e4 HA KR HB1 HB2 HB3 B23 B13 FC1 PC KE hnf hnp hbe hs1 hs2 hs3 hs4 HDEF
  go_loopw [8, 9, 33] (fun _ _ i wr => ∃ m : Nat, m ≤ 6 ∧ i = .int .i64 m ∧ Hid (Below w3.heap.size w3 wr)) (fun _ _ i _ => 6 - (intOf i).toNat)
  case atStart => exact ⟨0, Nat.zero_le _, rfl, Below.refl _ _⟩
  case round =>
    obtain ⟨m, hm, rfl, HB⟩ := hrel
    by_cases hlt : m < 6
    · have hc1 := cell_step (FC3.out m hlt) HB.out
      have hc2 := cell_step (PC3.out m hlt) HB.out
      have SM : Hid (Calls _ _ _ _ _) := SH.out m hlt wr (GR.out.tab.step (below_then BW3.out HB.out))
      generalize fldB m = fb at hc1 SM
      generalize bs (fT E m) = tb at hc2 SM
      have hm6 : (m : Int) < 6 := by omega
      clear FC3 PC3 SH FI CK GK GR BW3 KR3 KE3 OF0
      go_wp2_with (go_at_call 70; refine Calls.mono SM.out ?_; rintro r w4 ⟨rfl, hb4⟩)
      go_roundw
      case rel => exact ⟨m + 1, by omega, by go_num, below_then HB.out hb4⟩
      case measure => simp [intOf]; omega
    · obtain ⟨m0, hm0⟩ : ∃ x, x = m := ⟨m, rfl⟩
      subst hm0
      have hm6 : (6 : Int) ≤ (m0 : Int) := by omega
      obtain ⟨w4, hw4⟩ : ∃ x, x = wr := ⟨wr, rfl⟩
      subst hw4
      have FC4 : Hid (∀ (i : Nat), i < 6 → w4.cell? ⟨nf, i, none⟩ = some (.string (fldB i))) := fun i hi => cell_step (FC3.out i hi) HB.out
      have PC4 : Hid (∀ (m : Nat), m < 6 → w4.cell? ⟨np, 1 + m, none⟩ = some (.string (bs (fT E m)))) := fun i hi => cell_step (PC3.out i hi) HB.out
      have KR4 : Hid (w4.heap[w.heap.size]? = some (.cells #[.string ⟨#[]⟩, .string ⟨#[]⟩, .int .i64 0, .int .i64 0, .string ⟨#[]⟩, .int .i64 0, .slice none 0 0, .int .i64 0, .int .i64 0, .slice none 0 0, .slice none 0 0] 44 (0, 0))) := (HB.out.block _ (by have := HS1.out; omega)).trans KR3.out
      have KE4 : Hid (EB w4 be (part E 0) (.slice none 0 0) (.slice none 0 0) (.slice none 0 0)) := KE3.out.step HB.out
      have BW4 : Hid (Below w.heap.size w w4) := below_then BW3.out HB.out
      have HS4 : Hid (w.heap.size < nf ∧ nf < np ∧ np < be ∧ be < w4.heap.size) := by
        obtain ⟨q1, q2, q3, q4⟩ := HS1.out
        exact ⟨q1, q2, q3, Nat.lt_of_lt_of_le q4 HB.out.size⟩
      have OF4 : Hid (Off (fun n => n = w.heap.size ∨ n = be) w4 (part E 0) (.slice none 0 0) (.slice none 0 0) (.slice none 0 0)) := (OF0.out _).grown (B := be) (.inr rfl) (grown_below HB.out _)
      clear FC3 PC3 KR3 KE3 BW3 HS1 OF0 SH HB hlt hm
      go_upto_region 14 with (fail)
      clear hm6
      go_loopw [10, 11, 12, 50] (fun _ _ _ i wx => ∃ m : Nat, m ≤ 6 ∧ i = .int .i64 m ∧ Hid (w4.grownBy wx (some be)) ∧ Hid (∃ sl skv mvv, EB wx be (part E m) sl skv mvv ∧ Off (fun n => n = w.heap.size ∨ n = be) wx (part E m) sl skv mvv)) (fun _ _ _ i _ => 6 - (intOf i).toNat)
      case atStart => exact ⟨0, Nat.zero_le _, rfl, grown_below (Below.refl _ _) _, _, _, _, KE4.out, OF4.out⟩
      case round =>
        obtain ⟨m, hm, rfl, HG, HEO⟩ := hrel
        obtain ⟨sl, skv, mvv, he, ho⟩ := HEO.out
        have HE : Hid (EB wr be (part E m) sl skv mvv) := he
        have HO : Hid (Off (fun n => n = w.heap.size ∨ n = be) wr (part E m) sl skv mvv) := ho
        clear HEO he ho
        have hs := HS4.out
        have BWX : Hid (Below w.heap.size w wr) := BW4.out.grown HG.out BW4.out.size (fun k q => by cases q; omega)
        by_cases hlt : m < 6
        · have hc1 : wr.cell? ⟨nf, m, none⟩ = _ := grown_cell HG.out (FC4.out m hlt) (by omega)
          have hc2 : wr.cell? ⟨np, 1 + m, none⟩ = _ := grown_cell HG.out (PC4.out m hlt) (by omega)
          have FM : Hid (Calls _ _ _ _ _) := FI.out m hlt be (fun n => n = w.heap.size ∨ n = be) (.inr rfl) wr (fun n h => by have := HG.out.size; rcases h with h | h <;> omega) (GR.out.step BWX.out) sl skv mvv HE.out HO.out
          generalize fldB m = fb at hc1 FM
          generalize bs (fT E m) = tb at hc2 FM
          have hm6 : (m : Int) < 6 := by omega
          clear FC4 PC4 FI CK GK GR BW4 KR4 KE4 OF4 BWX hs HS4
          go_wp2_with (go_at_call 71; refine Calls.mono FM.out ?_; rintro r w5 ⟨rfl, hg5, sl', skv', mvv', hE5, hO5⟩)
          go_roundw
          case rel => exact ⟨m + 1, by omega, by go_num, grown_then HG.out hg5, sl', skv', mvv', hE5, hO5⟩
          case measure => simp [intOf]; omega
        · have hm6 : m = 6 := by omega
          subst hm6
          rw [part_all] at HE HO
          have LS : Ls wr E sl skv mvv := ⟨ints_days HO.out.d.ints h20, HO.out.s.ints, HO.out.m.movs⟩
          have C0 := CK.out sl skv mvv wr (GK.out.step BWX.out) LS
          have KR5 : Hid (wr.heap[w.heap.size]? = some (.cells #[.string ⟨#[]⟩, .string ⟨#[]⟩, .int .i64 0, .int .i64 0, .string ⟨#[]⟩, .int .i64 0, .slice none 0 0, .int .i64 0, .int .i64 0, .slice none 0 0, .slice none 0 0] 44 (0, 0))) := (HG.out.block _ (by omega) (fun q => by have q' : w.heap.size = be := Option.some.inj q; omega)).trans KR4.out
          have hsz := HG.out.size
          have hb1 : w.heap.size < be := by omega
          have hb2 : be < wr.heap.size := by omega
          clear FC4 PC4 FI CK GK GR BW4 KR4 KE4 OF4 HS4 hs hlt HG hsz
          obtain ⟨ra, rc, rfl, _⟩ := LS.d
          obtain ⟨sa, sc, rfl, _⟩ := LS.s
          obtain ⟨ma, mc, rfl, _⟩ := LS.m
          obtain ⟨idn', ti', st', lg', f', e', ds', c', u', sk', mv'⟩ := E
          unfold ev at C0
          dsimp only at *
          obtain ⟨x0, x1, x2, x3, x4, x5, x6, x7, x8, x9, x10⟩ := blk11 (show wr.heap[be]? = _ from HE.out)
          have HC0 : Hid (Calls _ _ _ _ _) := C0
          clear C0 LS
          go_upto_region 23 with (go_at_call 30; refine Calls.mono HC0.out ?_; rintro r w6 ⟨rfl, hb6⟩)
          have KE6 := HE.out.step hb6
          have KR6 : Hid (w6.heap[w.heap.size]? = some (.cells #[.string ⟨#[]⟩, .string ⟨#[]⟩, .int .i64 0, .int .i64 0, .string ⟨#[]⟩, .int .i64 0, .slice none 0 0, .int .i64 0, .int .i64 0, .slice none 0 0, .slice none 0 0] 44 (0, 0))) := (hb6.block _ (by omega)).trans KR5.out
          have BW6 : Hid (Below w.heap.size w w6) := below_then BWX.out hb6
          have OF6 : Hid (Off (fun n => n = w.heap.size ∨ n = be) w6 _ _ _ _) := HO.out.grown (B := be) (.inr rfl) (grown_below hb6 _)
          clear x0 x1 x2 x3 x4 x5 x6 x7 x8 x9 x10 HC0 HE HO KR5 BWX
          obtain ⟨x0, x1, x2, x3, x4, x5, x6, x7, x8, x9, x10⟩ := blk11 (show w6.heap[be]? = _ from KE6)
          obtain ⟨t0, t1, t2, t3, t4, t5, t6, t7, t8, t9, t10⟩ := blk11 KR6.out
          have f0 := blk11_frozen KR6.out 0
          have f1 := blk11_frozen KR6.out 1
          have f2 := blk11_frozen KR6.out 2
          have f3 := blk11_frozen KR6.out 3
          have f4 := blk11_frozen KR6.out 4
          have f5 := blk11_frozen KR6.out 5
          have f6 := blk11_frozen KR6.out 6
          have f7 := blk11_frozen KR6.out 7
          have f8 := blk11_frozen KR6.out 8
          have f9 := blk11_frozen KR6.out 9
          have f10 := blk11_frozen KR6.out 10
          clear KE6
          go_wp2
          rw [put11_fold]
          have n10 := put11_blk (.string idn') (.string ti') (.int .i64 st') (.int .i64 lg') (.string f') (.int .i64 e') ((.slice ra ds'.length rc)) (.int .i64 c') (.int .i64 u') ((.slice sa sk'.length sc)) ((.slice ma mv'.length mc)) KR6.out
          have g7 := put11_grown w6 w.heap.size (.string idn') (.string ti') (.int .i64 st') (.int .i64 lg') (.string f') (.int .i64 e') ((.slice ra ds'.length rc)) (.int .i64 c') (.int .i64 u') ((.slice sa sk'.length sc)) ((.slice ma mv'.length mc))
          clear x0 x1 x2 x3 x4 x5 x6 x7 x8 x9 x10 t0 t1 t2 t3 t4 t5 t6 t7 t8 t9 t10 f0 f1 f2 f3 f4 f5 f6 f7 f8 f9 f10
          generalize put11 w6 w.heap.size (.string idn') (.string ti') (.int .i64 st') (.int .i64 lg') (.string f') (.int .i64 e') ((.slice ra ds'.length rc)) (.int .i64 c') (.int .i64 u') ((.slice sa sk'.length sc)) ((.slice ma mv'.length mc)) = w7 at n10 g7 ⊢
          obtain ⟨c0, c1, c2, c3, c4, c5, c6, c7, c8, c9, c10⟩ := blk11 n10
          have OF7 := OF6.out.grown (B := w.heap.size) (.inl rfl) g7
          refine bodyPost_ret (v := .tuple #[.agg #[.string idn', .string ti', .int .i64 st', .int .i64 lg', .string f', .int .i64 e', (.slice ra ds'.length rc), .int .i64 c', .int .i64 u', (.slice sa sk'.length sc), (.slice ma mv'.length mc)], .nilIface]) (by simp [results, Tryz.f43, go_sem, c0, c1, c2, c3, c4, c5, c6, c7, c8, c9, c10]) rfl ⟨_, _, _, rfl, ⟨ints_days OF7.d.ints h20, OF7.s.ints, OF7.m.movs⟩, BW6.out.grown g7 BW6.out.size (fun k q => by cases q; exact Nat.le_refl _)⟩
end Go.Proofs.YtekminpoiokgfaaGreatDoor

/- Package diff's textOf and find: a field of an event, or all of it, as a change names it. -/
namespace Go.Proofs.YtekminpoiokgfaaGreatDoor
open Go Go.RowKit Go.Maps Go.Sort Cal
attribute [local go_sem] Oper.semAt_some

/-- the name of the whole event -/
def allW : ByteArray := ⟨#[97, 108, 108]⟩
/-- field k of the fields' names, or (6) all of an event -/
def fieldB : Nat → ByteArray
  | 6 => allW
  | k => fldB k
/-- an event's text in a field, or (6) all of it -/
noncomputable def cT (E : EV) : Nat → List UInt8
  | 6 => eT E
  | k => fT E k

end Go.Proofs.YtekminpoiokgfaaGreatDoor
