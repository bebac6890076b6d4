/- Reading a calendar: no event's text has a line's end; book.Same, readLine, Read. -/
import Derived.Test.YtpdcjnkgkpbdgaaGreatDoorQbD
import Derived.Test.YtpdcjnkgkpbdgaaGreatDoorOffBP
import Derived.Test.YtpdcjnkgkpbdgaaGreatDoorBpLP
import Derived.Test.YtpdcjnkgkpbdgaaGreatDoorQcG
namespace Go.Proofs.YtpdcjnkgkpbdgaaGreatDoor
open Go Go.RowKit Go.Maps Go.Shelf Cal
attribute [local go_sem] Oper.semAt_some

theorem ut_least {r : RV} {t : List UInt8} (h : UT r t) : ∀ c ∈ t, 45 ≤ c.toNat := by
  rcases h with ⟨_, rfl⟩ | ⟨_, y, m, d, hv, _, rfl⟩
  · intro c hc; simp at hc
  · exact txt_signs hv
theorem words_nl {r : RV} {t : List UInt8} (h : Well r) (ht : ∀ c ∈ t, 45 ≤ c.toNat) : ∀ x ∈ words r t, (10 : UInt8) ∉ x := by
  intro x hx
  unfold words at hx
  split at hx
  · simp at hx; subst hx; decide
  · rcases List.mem_cons.1 hx with rfl | hx
    · rcases h.fr with e | e | e | e | e <;> rw [e] <;> decide
    rcases List.mem_cons.1 hx with rfl | hx
    · intro hm; have := itoa_digs _ (show 0 ≤ r.every by have := h.ev; omega) _ hm; revert this; decide
    rcases List.mem_append.1 hx with hx | hx
    · unfold wDays at hx
      split at hx
      · simp at hx
      · simp at hx; subst hx
        refine join_no 10 44 (by decide) _ (fun y hy => ?_)
        obtain ⟨d, _, rfl⟩ := List.mem_map.1 hy
        unfold nm
        repeat' split
        all_goals decide
    rcases List.mem_append.1 hx with hx | hx
    · unfold wCount at hx
      split at hx
      · simp at hx
      · simp at hx
        rcases hx with rfl | rfl
        · decide
        · intro hm; have := itoa_digs _ (show 0 ≤ r.count by have := h.co; omega) _ hm; revert this; decide
    · unfold wUntil at hx
      split at hx
      · simp at hx
      · simp at hx
        rcases hx with rfl | rfl
        · decide
        · intro hm; have := ht _ hm; revert this; decide
theorem ruT_nl {r : RV} (h : Well r) : (10 : UInt8) ∉ ruT r := by
  obtain ⟨t, ht, e⟩ := ruT_ok h
  rw [e]
  exact join_no 10 32 (by decide) _ (words_nl h (ut_least ht))
theorem fT_nl {E : EV} (h : EW E) (k : Nat) : (10 : UInt8) ∉ fT E k := by
  match k with
  | 0 =>
    intro hm
    change (10 : UInt8) ∈ E.ti.data.toList at hm
    obtain ⟨j, hj, he⟩ := List.mem_iff_getElem.1 hm
    have := h.ti.1 j (by simpa using hj)
    unfold okt at this
    have e2 : E.ti[j]'(by simpa using hj) = 10 := by
      show E.ti.data[j] = 10
      simpa using he
    rw [e2] at this
    simp at this
  | 1 => exact dtx_no _ _ (by decide)
  | 2 => intro hm; have := itoa_digs _ (show 0 ≤ E.lg by have := h.bd.2.1; omega) _ hm; revert this; decide
  | 3 => exact ruT_nl h.rl
  | 4 => exact join_no 10 44 (by decide) _ (fun y hy => by obtain ⟨d, _, rfl⟩ := List.mem_map.1 hy; exact dtx_no _ _ (by decide))
  | k + 5 => exact join_no 10 44 (by decide) _ (fun y hy => by obtain ⟨d, _, rfl⟩ := List.mem_map.1 hy; exact mtx_no _ _ (by decide))
theorem id_nl {E : EV} (h : EW E) : (10 : UInt8) ∉ E.id.data.toList := by
  intro hm
  obtain ⟨j, hj, he⟩ := List.mem_iff_getElem.1 hm
  have := h.id.1 j (by simpa using hj)
  unfold okc at this
  have e2 : E.id[j]'(by simpa using hj) = 10 := by
    show E.id.data[j] = 10
    simpa using he
  rw [e2] at this
  simp at this
theorem eT_nl {E : EV} (h : EW E) : (10 : UInt8) ∉ eT E := by
  unfold eT
  refine join_no 10 124 (by decide) _ (fun y hy => ?_)
  rcases List.mem_cons.1 hy with rfl | hy
  · exact id_nl h
  · obtain ⟨k, _, rfl⟩ := pT_mem hy
    exact fT_nl h k
/-- a calendar's lines -/
noncomputable def lns (C : List EV) : List (List UInt8) := C.map fun E => eT E ++ [10]
theorem lns_flat (C : List EV) : (lns C).flatten = bkT C := by
  unfold lns bkT
  rw [List.flatMap_def]
theorem lns_ok {C : List EV} (h : ∀ E ∈ C, EW E) : ∀ x ∈ lns C, ∃ y, x = y ++ [10] ∧ (10 : UInt8) ∉ y := fun x hx => by
  obtain ⟨E, hE, rfl⟩ := List.mem_map.1 hx
  exact ⟨eT E, rfl, eT_nl (h E hE)⟩

theorem cut_line (l : List UInt8) : Lib.trimSuffix (l ++ [10]) [10] = l ∧ Lib.hasSuffix (l ++ [10]) [10] = true := by
  unfold Lib.trimSuffix Lib.hasSuffix
  simp
theorem not_ahead {a : ByteArray} {E : EV} (h : a.data.toList < kb E) : (Op.bytesLess E.id.toList a.toList || E.id.toList == a.toList) = false := by
  rw [bytesLess_eq, ByteArray.toList_eq, ByteArray.toList_eq, Bool.or_eq_false_iff]
  refine ⟨decide_eq_false (fun q => List.lt_irrefl _ (List.lt_trans h q)), ?_⟩
  rw [beq_eq_false_iff_ne]
  intro q
  unfold kb at h
  rw [q] at h
  exact List.lt_irrefl _ h

set_option maxHeartbeats 2000000 in
set_option maxRecDepth 100000 in
theorem readLine_C (E : EV) (ah : ByteArray) (s : Nat → Addr) (w : World) (gk : GlobK s w) (g : GlobR w) (hE : EW E) (h20 : E.ds.length ≤ 20) (hah : ah.data.toList < kb E) :
    Calls Tryz.prog 75 #[.string (bs (eT E ++ [10])), .string ah] w fun r w' => ∃ sl skv mvv, r = .returned (.tuple #[ev E sl skv mvv, .nilIface]) ∧ Ls w' E sl skv mvv ∧ Below w.heap.size w w' := by
  have hA := below_alloc w (.cells #[.string ⟨#[]⟩, .string ⟨#[]⟩, .int .i64 0, .int .i64 0, .string ⟨#[]⟩, .int .i64 0, .slice none 0 0, .int .i64 0, .int .i64 0, .slice none 0 0, .slice none 0 0] 37)
  have k4 : (w.alloc (.cells #[.string ⟨#[]⟩, .string ⟨#[]⟩, .int .i64 0, .int .i64 0, .string ⟨#[]⟩, .int .i64 0, .slice none 0 0, .int .i64 0, .int .i64 0, .slice none 0 0, .slice none 0 0] 37)).heap[w.heap.size]? = some (.cells #[.string ⟨#[]⟩, .string ⟨#[]⟩, .int .i64 0, .int .i64 0, .string ⟨#[]⟩, .int .i64 0, .slice none 0 0, .int .i64 0, .int .i64 0, .slice none 0 0, .slice none 0 0] 37 (0, 0)) := block_at _ rfl
  have hz : (w.alloc (.cells #[.string ⟨#[]⟩, .string ⟨#[]⟩, .int .i64 0, .int .i64 0, .string ⟨#[]⟩, .int .i64 0, .slice none 0 0, .int .i64 0, .int .i64 0, .slice none 0 0, .slice none 0 0] 37)).heap.size = w.heap.size + 1 := World.size_alloc _ _
  have hcs := Tryz.strings_CutSuffix (bs (eT E ++ [10])) ⟨#[10]⟩ (w.alloc (.cells #[.string ⟨#[]⟩, .string ⟨#[]⟩, .int .i64 0, .int .i64 0, .string ⟨#[]⟩, .int .i64 0, .slice none 0 0, .int .i64 0, .int .i64 0, .slice none 0 0, .slice none 0 0] 37)) (by rw [Lib.size_eq, bs_data]; have := eT_len hE h20; simp; omega)
  rw [bs_data, show (⟨#[10]⟩ : ByteArray).data.toList = [10] from rfl, (cut_line (eT E)).1, (cut_line (eT E)).2] at hcs
  have CS : Hid (Calls _ _ _ _ _) := hcs
  have ER : Hid (Calls _ _ _ _ _) := eread_any E s _ (gk.step hA) (g.step hA) hE h20
  have HNA := not_ahead hah
  have hd20 := h20
  have HA : Hid (_) := hA
  have K4 : Hid (_) := k4
  have HZ : Hid (_) := hz
  clear hA k4 hz hcs gk g hah
  generalize bs (eT E ++ [10]) = ln at CS
  change Hid (Calls Tryz.prog 120 #[.string ln, .string ⟨#[10]⟩] _ fun e w' => e = .returned (.tuple #[.string (bs (eT E)), .bool true]) ∧ w' = _) at CS
  generalize bs (eT E) = tx at CS ER
  unfold ev at ER ⊢
  go_enter Tryz.func75, Tryz.ntmps75
  generalize hw0 : w.alloc (.cells #[.string ⟨#[]⟩, .string ⟨#[]⟩, .int .i64 0, .int .i64 0, .string ⟨#[]⟩, .int .i64 0, .slice none 0 0, .int .i64 0, .int .i64 0, .slice none 0 0, .slice none 0 0] 37) = w0 at CS ER HA K4 HZ
  go_upto_region 5 with (first
    | (go_at_call 120; refine Calls.mono CS.out ?_; rintro r w' ⟨rfl, hq⟩; have hq := hq.symm; subst hq)
    | (go_at_call 19; refine Calls.mono ER.out ?_; rintro r w1 ⟨sl, skv, mvv, rfl, hL1, hb1⟩; have HL1 : Hid (Ls w1 E sl skv mvv) := hL1; obtain ⟨ra, rc, rfl, _⟩ := hL1.d; obtain ⟨sa, sc, rfl, _⟩ := hL1.s; obtain ⟨ma, mc, rfl, _⟩ := hL1.m))
  have hb2 : Below w0.heap.size w0 (w1.alloc (.cells #[.string E.id, .string E.ti, .int .i64 E.st, .int .i64 E.lg, .string E.f, .int .i64 E.e, .slice ra E.ds.length rc, .int .i64 E.c, .int .i64 E.u, .slice sa E.sk.length sc, .slice ma E.mv.length mc] 37)) := below_then hb1 (below_alloc _ _)
  have kE := EB.new w1 E (.slice ra E.ds.length rc) (.slice sa E.sk.length sc) (.slice ma E.mv.length mc)
  have KR5 : (w1.alloc (.cells #[.string E.id, .string E.ti, .int .i64 E.st, .int .i64 E.lg, .string E.f, .int .i64 E.e, .slice ra E.ds.length rc, .int .i64 E.c, .int .i64 E.u, .slice sa E.sk.length sc, .slice ma E.mv.length mc] 37)).heap[w.heap.size]? = some (.cells #[.string ⟨#[]⟩, .string ⟨#[]⟩, .int .i64 0, .int .i64 0, .string ⟨#[]⟩, .int .i64 0, .slice none 0 0, .int .i64 0, .int .i64 0, .slice none 0 0, .slice none 0 0] 37 (0, 0)) := (hb2.block _ (by rw [HZ.out]; omega)).trans K4.out
  have HL2 : Hid (Ls _ E (.slice ra E.ds.length rc) (.slice sa E.sk.length sc) (.slice ma E.mv.length mc)) := HL1.out.step (below_alloc w1 (.cells #[.string E.id, .string E.ti, .int .i64 E.st, .int .i64 E.lg, .string E.f, .int .i64 E.e, .slice ra E.ds.length rc, .int .i64 E.c, .int .i64 E.u, .slice sa E.sk.length sc, .slice ma E.mv.length mc] 37))
  have HB2 : Hid (_) := below_then HA.out hb2
  have hw1 : w.heap.size + 1 ≤ w1.heap.size := by rw [← HZ.out]; exact hb1.size
  generalize w1.alloc (.cells #[.string E.id, .string E.ti, .int .i64 E.st, .int .i64 E.lg, .string E.f, .int .i64 E.e, .slice ra E.ds.length rc, .int .i64 E.c, .int .i64 E.u, .slice sa E.sk.length sc, .slice ma E.mv.length mc] 37) = w2 at hb2 kE KR5 HL2 HB2 ⊢
  obtain ⟨x0, x1, x2, x3, x4, x5, x6, x7, x8, x9, x10⟩ := blk11 (show w2.heap[w1.heap.size]? = _ from kE)
  obtain ⟨t0, t1, t2, t3, t4, t5, t6, t7, t8, t9, t10⟩ := blk11 KR5
  have f0 := blk11_frozen KR5 0
  have f1 := blk11_frozen KR5 1
  have f2 := blk11_frozen KR5 2
  have f3 := blk11_frozen KR5 3
  have f4 := blk11_frozen KR5 4
  have f5 := blk11_frozen KR5 5
  have f6 := blk11_frozen KR5 6
  have f7 := blk11_frozen KR5 7
  have f8 := blk11_frozen KR5 8
  have f9 := blk11_frozen KR5 9
  have f10 := blk11_frozen KR5 10
  have HKR : Hid (_) := KR5
  have HT0 : Hid (w2.cell? ⟨w.heap.size, 0, none⟩ = some (.string ⟨#[]⟩)) := t0
  clear kE KR5 hb1 hb2 CS ER hL1
  go_wp2
  rw [put11_fold]
  have n10 := put11_blk (.string E.id) (.string E.ti) (.int .i64 E.st) (.int .i64 E.lg) (.string E.f) (.int .i64 E.e) (.slice ra E.ds.length rc) (.int .i64 E.c) (.int .i64 E.u) (.slice sa E.sk.length sc) (.slice ma E.mv.length mc) HKR.out
  have OFL : Off (· = w.heap.size) w2 E (.slice ra E.ds.length rc) (.slice sa E.sk.length sc) (.slice ma E.mv.length mc) := ⟨off_blkI (days_ints HL2.out.d) (by omega) HT0.out, off_blkI HL2.out.s (by have := (ew_bd hE).2.2.1; omega) HT0.out, off_blkM HL2.out.m (by have := (ew_bd hE).2.2.2; omega) HT0.out⟩
  have g7 := put11_grown w2 w.heap.size (.string E.id) (.string E.ti) (.int .i64 E.st) (.int .i64 E.lg) (.string E.f) (.int .i64 E.e) (.slice ra E.ds.length rc) (.int .i64 E.c) (.int .i64 E.u) (.slice sa E.sk.length sc) (.slice ma E.mv.length mc)
  have OF7 := OFL.grown (B := w.heap.size) rfl g7
  have HB7 : Below w.heap.size w (put11 w2 w.heap.size (.string E.id) (.string E.ti) (.int .i64 E.st) (.int .i64 E.lg) (.string E.f) (.int .i64 E.e) (.slice ra E.ds.length rc) (.int .i64 E.c) (.int .i64 E.u) (.slice sa E.sk.length sc) (.slice ma E.mv.length mc)) := ⟨g7.os.trans HB2.out.os, g7.tape.trans HB2.out.tape, g7.output.trans HB2.out.output, Nat.le_trans HB2.out.size g7.size, fun k hk => (g7.block k (Nat.lt_of_lt_of_le hk HB2.out.size) (fun q => by have : k = w.heap.size := Option.some.inj q; omega)).trans (HB2.out.block k hk)⟩
  clear x0 x1 x2 x3 x4 x5 x6 x7 x8 x9 x10 t0 t1 t2 t3 t4 t5 t6 t7 t8 t9 t10 f0 f1 f2 f3 f4 f5 f6 f7 f8 f9 f10 OFL g7
  generalize put11 w2 w.heap.size (.string E.id) (.string E.ti) (.int .i64 E.st) (.int .i64 E.lg) (.string E.f) (.int .i64 E.e) (.slice ra E.ds.length rc) (.int .i64 E.c) (.int .i64 E.u) (.slice sa E.sk.length sc) (.slice ma E.mv.length mc) = w7 at n10 OF7 HB7 ⊢
  obtain ⟨c0, c1, c2, c3, c4, c5, c6, c7, c8, c9, c10⟩ := blk11 n10
  refine bodyPost_ret (v := .tuple #[.agg #[.string E.id, .string E.ti, .int .i64 E.st, .int .i64 E.lg, .string E.f, .int .i64 E.e, .slice ra E.ds.length rc, .int .i64 E.c, .int .i64 E.u, .slice sa E.sk.length sc, .slice ma E.mv.length mc], .nilIface]) (by simp [results, Tryz.f75, go_sem, c0, c1, c2, c3, c4, c5, c6, c7, c8, c9, c10]) rfl ⟨_, _, _, rfl, OF7.ls hd20, HB7⟩
end Go.Proofs.YtpdcjnkgkpbdgaaGreatDoor
