/- Package event's Set: a field of an event, set as another one's is. -/
import Derived.Test.YtjhlbkjcchejjaaGreatDoorYaO
namespace Go.Proofs.YtjhlbkjcchejjaaGreatDoor
open Go Go.RowKit Cal
attribute [local go_sem] Oper.semAt_some

theorem upd_id (E F : EV) (k : Nat) : (upd E F k).id = E.id := by
  match k with
  | 0 => rfl
  | 1 => rfl
  | 2 => rfl
  | 3 => rfl
  | 4 => rfl
  | k + 5 => rfl
theorem upd_ti (E F : EV) (k : Nat) : (upd E F k).ti = E.ti ∨ (upd E F k).ti = F.ti := by
  match k with
  | 0 => exact .inr rfl
  | 1 => exact .inl rfl
  | 2 => exact .inl rfl
  | 3 => exact .inl rfl
  | 4 => exact .inl rfl
  | k + 5 => exact .inl rfl
theorem upd_self (E : EV) (k : Nat) : upd E E k = E := by
  match k with
  | 0 => rfl
  | 1 => rfl
  | 2 => rfl
  | 3 => rfl
  | 4 => rfl
  | k + 5 => rfl
theorem upd_fT (E F : EV) (k : Nat) (hk : k < 6) : fT (upd E F k) k = fT F k := by
  match k, hk with
  | 0, _ => rfl
  | 1, _ => rfl
  | 2, _ => rfl
  | 3, _ => rfl
  | 4, _ => rfl
  | 5, _ => rfl
theorem upd_ds (E F : EV) (k : Nat) : (upd E F k).ds = E.ds ∨ (upd E F k).ds = F.ds := by
  match k with
  | 0 => exact .inl rfl
  | 1 => exact .inl rfl
  | 2 => exact .inl rfl
  | 3 => exact .inr rfl
  | 4 => exact .inl rfl
  | k + 5 => exact .inl rfl

set_option maxHeartbeats 4000000 in
set_option maxRecDepth 100000 in
theorem eset_any (E F : EV) (sl skv mvv : Value) (k : Nat) (hk : k < 6) (s : Nat → Addr) (w : World) (gk : GlobK s w) (g : GlobR w) (hL : Ls w E sl skv mvv) (hE : EW E) (hF : EW F) (h20 : F.ds.length ≤ 20) :
    Calls Tryz.prog 14 #[ev E sl skv mvv, .string (fldB k), .string (bs (fT F k))] w fun r w' => Below w.heap.size w w' ∧
      ((EW (upd E F k) ∧ ∃ sl' skv' mvv', r = .returned (.tuple #[ev (upd E F k) sl' skv' mvv', .nilIface]) ∧ Ow w.heap.size w' sl' (upd E F k).ds ∧ Ow w.heap.size w' skv' (upd E F k).sk ∧ OwM w.heap.size w' mvv' (upd E F k).mv) ∨ (¬ EW (upd E F k) ∧ ∃ p, r = .returned (.tuple #[zV, .iface 236 (.pointer (some p))]))) := by
  obtain ⟨hd, hs, hm⟩ := hL
  obtain ⟨k20, m20, _⟩ := lk_of hE.ls
  have d20 : E.ds.length ≤ 20 := by obtain ⟨_, _, _, h, _⟩ := hd; exact h
  have OFW : Hid (Off (· = w.heap.size) w E sl skv mvv) := ⟨ints_off (days_ints hd) (by omega) (fun n h => Nat.le_of_eq h.symm), ints_off hs (by omega) (fun n h => Nat.le_of_eq h.symm), movs_off hm (by omega) (fun n h => Nat.le_of_eq h.symm)⟩
  have GK : Hid (GlobK s w) := gk
  have GR : Hid (GlobR w) := g
  have CO : Hid (∀ (nf : Nat) (W : World), (∀ (i : Nat), i < 6 → W.cell? ⟨nf, i, none⟩ = some (.string (fldB i))) → Calls Tryz.prog 37 #[.slice (some ⟨nf, 0, none⟩) 6 6, .string (fldB k)] W fun r w' => r = .returned (.bool true) ∧ w' = W) := fun nf W h => containsS_any k hk nf W h
  have SH : Hid (∀ W, Tab W → Calls Tryz.prog 32 #[.string (fldB k), .string (bs (fT F k))] W fun r w' => r = .returned (.bool true) ∧ Below W.heap.size W w') := fun W h => shaped_any F k hk W hF h
  have FI : Hid (∀ W, GlobR W → EB W w.heap.size E sl skv mvv → Off (· = w.heap.size) W E sl skv mvv → Calls Tryz.prog 33 #[.pointer (some ⟨w.heap.size, 0, none⟩), .string (fldB k), .string (bs (fT F k))] W fun r w' => r = .returned .nilIface ∧ W.grownBy w' (some w.heap.size) ∧ ∃ sl' skv' mvv', EB w' w.heap.size (upd E F k) sl' skv' mvv' ∧ Off (· = w.heap.size) w' (upd E F k) sl' skv' mvv') :=
    fun W h1 h2 h3 => fill_any E F sl skv mvv k hk w.heap.size (· = w.heap.size) rfl W (fun n h => by have h' : n = w.heap.size := h; rw [h']; exact h2.lt) h1 h2 h3 hF h20
  have HI : Hid ((upd E F k).id.size ≤ 60) := by show _ ≤ _; rw [upd_id]; have := hE.id.2.2; omega
  have HT : Hid ((upd E F k).ti.size ≤ 60) := by
    show _ ≤ _
    rcases upd_ti E F k with q | q
    · rw [q]; have := hE.ti.2; omega
    · rw [q]; have := hF.ti.2; omega
  have HDS : Hid ((upd E F k).ds.length ≤ 20) := by
    show _ ≤ _
    rcases upd_ds E F k with q | q <;> rw [q] <;> assumption
  generalize upd E F k = E' at FI HI HT HDS ⊢
  generalize bs (fT F k) = tb at SH FI ⊢
  generalize fldB k = fb at CO SH FI ⊢
  have k0 := EB.new w E sl skv mvv
  obtain ⟨ra, rc, rfl, _⟩ := hd
  obtain ⟨sa, sc, rfl, _⟩ := hs
  obtain ⟨ma, mc, rfl, _⟩ := hm
  obtain ⟨idn, ti, st, lg, f, e, ds, c, u, sk, mv⟩ := E
  unfold ev at *
  dsimp only at *
  clear gk g hE hF k20 m20 d20 h20
  have hA := below_box2 w (.cells #[.string idn, .string ti, .int .i64 st, .int .i64 lg, .string f, .int .i64 e, .slice ra ds.length rc, .int .i64 c, .int .i64 u, .slice sa sk.length sc, .slice ma mv.length mc] 27) (.cells #[.string ⟨#[]⟩, .string ⟨#[]⟩, .int .i64 0, .int .i64 0, .string ⟨#[]⟩, .int .i64 0, .slice none 0 0, .int .i64 0, .int .i64 0, .slice none 0 0, .slice none 0 0] 27)
  have kB : EB ((w.alloc (.cells #[.string idn, .string ti, .int .i64 st, .int .i64 lg, .string f, .int .i64 e, .slice ra ds.length rc, .int .i64 c, .int .i64 u, .slice sa sk.length sc, .slice ma mv.length mc] 27)).alloc (.cells #[.string ⟨#[]⟩, .string ⟨#[]⟩, .int .i64 0, .int .i64 0, .string ⟨#[]⟩, .int .i64 0, .slice none 0 0, .int .i64 0, .int .i64 0, .slice none 0 0, .slice none 0 0] 27)) w.heap.size ⟨idn, ti, st, lg, f, e, ds, c, u, sk, mv⟩ (.slice ra ds.length rc) (.slice sa sk.length sc) (.slice ma mv.length mc) := block_alloc _ k0
  have kR : ((w.alloc (.cells #[.string idn, .string ti, .int .i64 st, .int .i64 lg, .string f, .int .i64 e, .slice ra ds.length rc, .int .i64 c, .int .i64 u, .slice sa sk.length sc, .slice ma mv.length mc] 27)).alloc (.cells #[.string ⟨#[]⟩, .string ⟨#[]⟩, .int .i64 0, .int .i64 0, .string ⟨#[]⟩, .int .i64 0, .slice none 0 0, .int .i64 0, .int .i64 0, .slice none 0 0, .slice none 0 0] 27)).heap[w.heap.size + 1]? = some (.cells #[.string ⟨#[]⟩, .string ⟨#[]⟩, .int .i64 0, .int .i64 0, .string ⟨#[]⟩, .int .i64 0, .slice none 0 0, .int .i64 0, .int .i64 0, .slice none 0 0, .slice none 0 0] 27 (0, 0)) := block_at _ (by simp)
  have hz : ((w.alloc (.cells #[.string idn, .string ti, .int .i64 st, .int .i64 lg, .string f, .int .i64 e, .slice ra ds.length rc, .int .i64 c, .int .i64 u, .slice sa sk.length sc, .slice ma mv.length mc] 27)).alloc (.cells #[.string ⟨#[]⟩, .string ⟨#[]⟩, .int .i64 0, .int .i64 0, .string ⟨#[]⟩, .int .i64 0, .slice none 0 0, .int .i64 0, .int .i64 0, .slice none 0 0, .slice none 0 0] 27)).heap.size = w.heap.size + 2 := by simp
  have HA : Hid (_) := hA
  have HZ : Hid (_) := hz
  have KB : Hid (EB _ _ _ _ _ _) := kB
  have KR : Hid (_) := kR
  clear hA hz kB kR k0
  go_enter Tryz.func14, Tryz.ntmps14
  generalize hw0 : (w.alloc (.cells #[.string idn, .string ti, .int .i64 st, .int .i64 lg, .string f, .int .i64 e, .slice ra ds.length rc, .int .i64 c, .int .i64 u, .slice sa sk.length sc, .slice ma mv.length mc] 27)).alloc (.cells #[.string ⟨#[]⟩, .string ⟨#[]⟩, .int .i64 0, .int .i64 0, .string ⟨#[]⟩, .int .i64 0, .slice none 0 0, .int .i64 0, .int .i64 0, .slice none 0 0, .slice none 0 0] 27) = w0 at HA KB KR HZ
  go_upto_region 3 with (first
    | (go_at_call 13; refine Calls.mono (fields_any _) ?_; rintro r w' ⟨rfl, rfl⟩)
    | (go_at_call 37; refine Calls.mono (CO.out _ _ (fun i hi => fld_cell w0 i hi)) ?_; rintro r w' ⟨rfl, rfl⟩))
  have HF1 : Hid (Below w0.heap.size w0 (w0.alloc fldO)) := below_alloc _ _
  generalize w0.alloc fldO = w1 at HF1 ⊢
  go_upto_region 5 with (go_at_call 32; refine Calls.mono (SH.out _ (GR.out.tab.step (below_then HA.out HF1.out))) ?_; rintro r w2 ⟨rfl, hb2⟩)
  have B02 : Hid (Below w0.heap.size w0 w2) := below_then HF1.out hb2
  have BW2 : Hid (Below w.heap.size w w2) := below_then HA.out B02.out
  have KB2 : Hid (EB w2 w.heap.size ⟨idn, ti, st, lg, f, e, ds, c, u, sk, mv⟩ (.slice ra ds.length rc) (.slice sa sk.length sc) (.slice ma mv.length mc)) := KB.out.step B02.out
  have KR2 : Hid (w2.heap[w.heap.size + 1]? = some (.cells #[.string ⟨#[]⟩, .string ⟨#[]⟩, .int .i64 0, .int .i64 0, .string ⟨#[]⟩, .int .i64 0, .slice none 0 0, .int .i64 0, .int .i64 0, .slice none 0 0, .slice none 0 0] 27 (0, 0))) := (B02.out.block _ (by rw [HZ.out]; omega)).trans KR.out
  have hz2 : w.heap.size + 2 ≤ w2.heap.size := by have := B02.out.size; rw [HZ.out] at this; exact this
  have OF2 : Hid (Off (· = w.heap.size) w2 ⟨idn, ti, st, lg, f, e, ds, c, u, sk, mv⟩ (.slice ra ds.length rc) (.slice sa sk.length sc) (.slice ma mv.length mc)) := OFW.out.grown rfl ⟨BW2.out.os, BW2.out.tape, BW2.out.output, BW2.out.size, fun i hi _ => BW2.out.block i hi⟩
  have FC : Hid (Calls _ _ _ _ _) := FI.out w2 (GR.out.step BW2.out) KB2.out OF2.out
  clear HF1 hb2 KB KR HA HZ CO SH FI OFW B02 hw0
  go_upto_region 8 with (go_at_call 33; refine Calls.mono FC.out ?_; rintro r w3 ⟨rfl, hg3, sl1, sk1, mv1, hB3, hO3⟩)
  have BW3 : Hid (Below w.heap.size w w3) := BW2.out.grown hg3 BW2.out.size (fun k q => by cases q; exact Nat.le_refl _)
  have KR3 : Hid (w3.heap[w.heap.size + 1]? = some (.cells #[.string ⟨#[]⟩, .string ⟨#[]⟩, .int .i64 0, .int .i64 0, .string ⟨#[]⟩, .int .i64 0, .slice none 0 0, .int .i64 0, .int .i64 0, .slice none 0 0, .slice none 0 0] 27 (0, 0))) := (hg3.block _ (by omega) (fun q => by have q' : w.heap.size + 1 = w.heap.size := Option.some.inj q; omega)).trans KR2.out
  have hz3 : w.heap.size + 2 ≤ w3.heap.size := Nat.le_trans hz2 hg3.size
  obtain ⟨k', hk'⟩ := evK_ex E'
  have h0 := evK_0 hk'
  have LS3 : Ls w3 E' sl1 sk1 mv1 := ⟨ints_days hO3.d.ints HDS.out, hO3.s.ints, hO3.m.movs⟩
  have CK := evCheck_k E' sl1 sk1 mv1 k' s w3 (GK.out.step BW3.out) LS3.d LS3.s LS3.m HI.out HT.out hk'
  have HL3 : Hid (Ls w3 E' sl1 sk1 mv1) := LS3
  have HB3 : Hid (EB w3 w.heap.size E' sl1 sk1 mv1) := hB3
  obtain ⟨ra1, rc1, rfl, _⟩ := LS3.d
  obtain ⟨sa1, sc1, rfl, _⟩ := LS3.s
  obtain ⟨ma1, mc1, rfl, _⟩ := LS3.m
  obtain ⟨idn', ti', st', lg', f', e', ds', c', u', sk', mv'⟩ := E'
  unfold ev at CK
  dsimp only at *
  clear LS3 hO3 hg3 KB2 KR2 OF2 FC BW2 hk' GK HI HT
  obtain ⟨x0, x1, x2, x3, x4, x5, x6, x7, x8, x9, x10⟩ := blk11 (show w3.heap[w.heap.size]? = _ from hB3)
  have HCK : Hid (Calls _ _ _ _ _) := CK
  clear CK hB3
  by_cases hk0 : k' = 0
  · have hW := h0.1 hk0
    rw [hk0, errV_0] at HCK
    obtain ⟨k20, m20, _⟩ := lk_of hW.ls
    dsimp only at k20 m20
    have HW : Hid (EW _) := hW
    clear hW h0 hk0
    go_upto_region 11 with (go_at_call 9; refine Calls.mono HCK.out ?_; rintro r w4 ⟨rfl, hb4⟩)
    have CP := copy_any _ _ _ _ w4 (HL3.out.step hb4) k20 m20
    unfold ev at CP
    dsimp only at CP
    have HCP : Hid (Calls _ _ _ _ _) := CP
    have KA4 : Hid (EB w4 w.heap.size _ _ _ _) := HB3.out.step hb4
    have KR4' : Hid (w4.heap[w.heap.size + 1]? = some (.cells #[.string ⟨#[]⟩, .string ⟨#[]⟩, .int .i64 0, .int .i64 0, .string ⟨#[]⟩, .int .i64 0, .slice none 0 0, .int .i64 0, .int .i64 0, .slice none 0 0, .slice none 0 0] 27 (0, 0))) := (hb4.block _ (by omega)).trans KR3.out
    have BW4 : Hid (Below w.heap.size w w4) := below_then BW3.out hb4
    have hz4 : w.heap.size + 2 ≤ w4.heap.size := Nat.le_trans hz3 hb4.size
    clear x0 x1 x2 x3 x4 x5 x6 x7 x8 x9 x10 CP hb4 KR3 HB3 HL3 BW3 HCK
    obtain ⟨x0, x1, x2, x3, x4, x5, x6, x7, x8, x9, x10⟩ := blk11 (show w4.heap[w.heap.size]? = _ from KA4.out)
    go_wp2_with (go_at_call 38; refine Calls.mono HCP.out ?_; rintro r w5 ⟨sl2, sk2, mv2, rfl, ho1, ho2, ho3, hb5⟩; obtain ⟨ra2, rc2, rfl⟩ := ow_form ho1; obtain ⟨sa2, sc2, rfl⟩ := ow_form ho2; obtain ⟨ma2, mc2, rfl⟩ := gotM_form (owm_movs ho3 (by omega)).2; have kr5 : w5.heap[w.heap.size + 1]? = some (.cells #[.string ⟨#[]⟩, .string ⟨#[]⟩, .int .i64 0, .int .i64 0, .string ⟨#[]⟩, .int .i64 0, .slice none 0 0, .int .i64 0, .int .i64 0, .slice none 0 0, .slice none 0 0] 27 (0, 0)) := (hb5.block _ (by omega)).trans KR4'.out; have KR4 : Hid (_) := kr5; clear kr5; obtain ⟨t0, t1, t2, t3, t4, t5, t6, t7, t8, t9, t10⟩ := blk11 KR4.out; have f0 := blk11_frozen KR4.out 0; have f1 := blk11_frozen KR4.out 1; have f2 := blk11_frozen KR4.out 2; have f3 := blk11_frozen KR4.out 3; have f4 := blk11_frozen KR4.out 4; have f5 := blk11_frozen KR4.out 5; have f6 := blk11_frozen KR4.out 6; have f7 := blk11_frozen KR4.out 7; have f8 := blk11_frozen KR4.out 8; have f9 := blk11_frozen KR4.out 9; have f10 := blk11_frozen KR4.out 10)
    rw [put11_fold]
    have n10 := put11_blk (.string idn') (.string ti') (.int .i64 st') (.int .i64 lg') (.string f') (.int .i64 e') ((.slice ra2 ds'.length rc2)) (.int .i64 c') (.int .i64 u') ((.slice sa2 sk'.length sc2)) ((.slice ma2 mv'.length mc2)) KR4.out
    have g7 := put11_grown w5 (w.heap.size + 1) (.string idn') (.string ti') (.int .i64 st') (.int .i64 lg') (.string f') (.int .i64 e') ((.slice ra2 ds'.length rc2)) (.int .i64 c') (.int .i64 u') ((.slice sa2 sk'.length sc2)) ((.slice ma2 mv'.length mc2))
    clear x0 x1 x2 x3 x4 x5 x6 x7 x8 x9 x10 t0 t1 t2 t3 t4 t5 t6 t7 t8 t9 t10 f0 f1 f2 f3 f4 f5 f6 f7 f8 f9 f10
    have o1 := own_base (Ow.grown ho1 g7 (by omega)) (show w.heap.size ≤ w4.heap.size by omega)
    have o2 := own_base (Ow.grown ho2 g7 (by omega)) (show w.heap.size ≤ w4.heap.size by omega)
    have o3 := own_base (OwM.grown ho3 g7 (by omega)) (show w.heap.size ≤ w4.heap.size by omega)
    generalize put11 w5 (w.heap.size + 1) (.string idn') (.string ti') (.int .i64 st') (.int .i64 lg') (.string f') (.int .i64 e') ((.slice ra2 ds'.length rc2)) (.int .i64 c') (.int .i64 u') ((.slice sa2 sk'.length sc2)) ((.slice ma2 mv'.length mc2)) = w7 at n10 g7 o1 o2 o3 ⊢
    obtain ⟨c0, c1, c2, c3, c4, c5, c6, c7, c8, c9, c10⟩ := blk11 n10
    refine bodyPost_ret (v := .tuple #[.agg #[.string idn', .string ti', .int .i64 st', .int .i64 lg', .string f', .int .i64 e', (.slice ra2 ds'.length rc2), .int .i64 c', .int .i64 u', (.slice sa2 sk'.length sc2), (.slice ma2 mv'.length mc2)], .nilIface]) (by simp [results, Tryz.f14, go_sem, c0, c1, c2, c3, c4, c5, c6, c7, c8, c9, c10]) rfl ⟨(below_then BW4.out hb5).grown g7 (below_then BW4.out hb5).size (fun k q => by cases q; omega), .inl ⟨HW.out, _, _, _, rfl, ?_⟩⟩
    exact ⟨o1, o2, o3⟩
  · obtain ⟨p, hp⟩ := errV_ne (s := s) hk0
    have HN : Hid (¬ EW ⟨idn', ti', st', lg', f', e', ds', c', u', sk', mv'⟩) := fun q => hk0 (h0.2 q)
    rw [hp] at HCK
    clear hk0 h0 hp
    go_upto_region 10 with (go_at_call 9; refine Calls.mono HCK.out ?_; rintro r w4 ⟨rfl, hb4⟩)
    have KR4 : Hid (w4.heap[w.heap.size + 1]? = some (.cells #[.string ⟨#[]⟩, .string ⟨#[]⟩, .int .i64 0, .int .i64 0, .string ⟨#[]⟩, .int .i64 0, .slice none 0 0, .int .i64 0, .int .i64 0, .slice none 0 0, .slice none 0 0] 27 (0, 0))) := (hb4.block _ (by omega)).trans KR3.out
    have BW4 : Hid (Below w.heap.size w w4) := below_then BW3.out hb4
    clear x0 x1 x2 x3 x4 x5 x6 x7 x8 x9 x10 KR3 HB3 HL3 BW3 HCK
    obtain ⟨t0, t1, t2, t3, t4, t5, t6, t7, t8, t9, t10⟩ := blk11 KR4.out
    have f0 := blk11_frozen KR4.out 0
    have f1 := blk11_frozen KR4.out 1
    have f2 := blk11_frozen KR4.out 2
    have f3 := blk11_frozen KR4.out 3
    have f4 := blk11_frozen KR4.out 4
    have f5 := blk11_frozen KR4.out 5
    have f6 := blk11_frozen KR4.out 6
    have f7 := blk11_frozen KR4.out 7
    have f8 := blk11_frozen KR4.out 8
    have f9 := blk11_frozen KR4.out 9
    have f10 := blk11_frozen KR4.out 10
    go_wp2
    rw [put11_fold]
    have n10 := put11_blk (.string ⟨#[]⟩) (.string ⟨#[]⟩) (.int .i64 0) (.int .i64 0) (.string ⟨#[]⟩) (.int .i64 0) (.slice none 0 0) (.int .i64 0) (.int .i64 0) (.slice none 0 0) (.slice none 0 0) KR4.out
    have g7 := put11_grown w4 (w.heap.size + 1) (.string ⟨#[]⟩) (.string ⟨#[]⟩) (.int .i64 0) (.int .i64 0) (.string ⟨#[]⟩) (.int .i64 0) (.slice none 0 0) (.int .i64 0) (.int .i64 0) (.slice none 0 0) (.slice none 0 0)
    clear t0 t1 t2 t3 t4 t5 t6 t7 t8 t9 t10 f0 f1 f2 f3 f4 f5 f6 f7 f8 f9 f10
    generalize put11 w4 (w.heap.size + 1) (.string ⟨#[]⟩) (.string ⟨#[]⟩) (.int .i64 0) (.int .i64 0) (.string ⟨#[]⟩) (.int .i64 0) (.slice none 0 0) (.int .i64 0) (.int .i64 0) (.slice none 0 0) (.slice none 0 0) = w7 at n10 g7 ⊢
    obtain ⟨c0, c1, c2, c3, c4, c5, c6, c7, c8, c9, c10⟩ := blk11 n10
    refine bodyPost_ret (v := .tuple #[zV, .iface 236 (.pointer (some p))]) (by simp [results, zV, Tryz.f14, go_sem, c0, c1, c2, c3, c4, c5, c6, c7, c8, c9, c10]) rfl ⟨BW4.out.grown g7 BW4.out.size (fun k q => by cases q; omega), .inr ⟨HN.out, p, rfl⟩⟩
end Go.Proofs.YtjhlbkjcchejjaaGreatDoor
