/- Package pack's longest. -/
import Derived.Test.YtbocknocmggcpaaGreatDoorPkW
import Derived.Sort.CutIn
namespace Go.Proofs.YtbocknocmggcpaaGreatDoor
open Go Go.RowKit Go.Sort Go.Maps Cal Pk
attribute [local go_sem] Oper.semAt_some

theorem ext_mid (s : ByteArray) (a b : Nat) : (s.extract a b).data.toList = (s.data.toList.take b).drop a := by
  rw [List.drop_take]; simp
theorem ext_to (s : ByteArray) (a : Nat) : (s.extract a s.size).data.toList = s.data.toList.drop a := Lib.extract_to_end s a
theorem ext_from (s : ByteArray) (b : Nat) : (s.extract 0 b).data.toList = s.data.toList.take b := Lib.extract_from_zero s b
/-- what longest's rounds leave -/
structure LG (w W : World) (a : ByteArray) (mb : Nat) (p : Pc) : Prop where
  b0 : W.heap[w.heap.size]? = some (.cells #[.string a, .map (some mb)] 55 (0, 0))
  b1 : W.heap[w.heap.size + 1]? = some (.cells #[.int .i64 0, .int .i64 0, .int .i64 0] 95 (0, 0))
  b2 : W.heap[w.heap.size + 2]? = some (.cells #[.int .i64 (p.1 : Int), .int .i64 (p.2.1 : Int), .int .i64 (p.2.2 : Int)] 95 (0, 0))
  bw : Below w.heap.size w W
theorem LG.step {w W W' : World} {a : ByteArray} {mb : Nat} {p : Pc} (h : LG w W a mb p) (hb : Below W.heap.size W W') : LG w W' a mb p :=
  ⟨(hb.block _ (Array.getElem?_eq_some_iff.1 h.b0).1).trans h.b0, (hb.block _ (Array.getElem?_eq_some_iff.1 h.b1).1).trans h.b1, (hb.block _ (Array.getElem?_eq_some_iff.1 h.b2).1).trans h.b2, below_then h.bw hb⟩
theorem LG.put {w W : World} {a : ByteArray} {mb : Nat} {p : Pc} (h : LG w W a mb p) (q : Pc) : LG w (((W.setCell ⟨w.heap.size + 1 + 1, 0, none⟩ (.int .i64 (q.1 : Int))).setCell ⟨w.heap.size + 1 + 1, 1, none⟩ (.int .i64 (q.2.1 : Int))).setCell ⟨w.heap.size + 1 + 1, 2, none⟩ (.int .i64 (q.2.2 : Int))) a mb q := by
  have g := grown_then (grown_then (grown_set W ⟨w.heap.size + 1 + 1, 0, none⟩ (.int .i64 (q.1 : Int))) (grown_set _ ⟨w.heap.size + 1 + 1, 1, none⟩ (.int .i64 (q.2.1 : Int)))) (grown_set _ ⟨w.heap.size + 1 + 1, 2, none⟩ (.int .i64 (q.2.2 : Int)))
  refine ⟨(g.block _ (Array.getElem?_eq_some_iff.1 h.b0).1 (fun z => by have : w.heap.size = w.heap.size + 1 + 1 := Option.some.inj z; omega)).trans h.b0, (g.block _ (Array.getElem?_eq_some_iff.1 h.b1).1 (fun z => by have : w.heap.size + 1 = w.heap.size + 1 + 1 := Option.some.inj z; omega)).trans h.b1, p3_put _ _ _ h.b2, p3_below _ _ _ h.bw (by omega)⟩

set_option maxHeartbeats 2000000 in
set_option maxRecDepth 100000 in
theorem longest_any (a o : ByteArray) (lo mb n made i : Nat) (w : World) (hp : PlcAt lo w mb n (plcK a.data.toList (a.size / 8))) (hm : made ≤ i) (hi : i + 8 ≤ o.size) (ha : a.size ≤ 100000) (ho : o.size ≤ 100000) :
    Calls Tryz.prog 45 #[.agg #[.string a, .map (some mb)], .string o, .int .i64 (made : Int), .int .i64 (i : Int)] w fun r w' => r = .returned (pcV (lng a.data.toList o.data.toList made i)) ∧ Below w.heap.size w w' := by
  have la : a.data.toList.length = a.size := (Lib.size_eq a).symm
  have lo' : o.data.toList.length = o.size := (Lib.size_eq o).symm
  have ex : (o.extract i (i + 8)).data.toList = bk o.data.toList i := by unfold bk; simp
  have exz : (o.extract i (i + 8)).size ≤ 8 := by rw [Lib.size_eq, ex]; unfold bk; rw [List.length_take]; omega
  obtain ⟨v, hLK⟩ := hp.look (o.extract i (i + 8)) (by omega)
  have hpl : plcK a.data.toList (a.size / 8) (o.extract i (i + 8)) = plc a.data.toList (bk o.data.toList i) := by unfold plcK plc; rw [ex, la]
  rw [hpl] at hLK
  have HP8 : Hid (∀ x ∈ plc a.data.toList (bk o.data.toList i), x + 8 ≤ a.size) := fun x hx => by have := (plc_at hx).1; omega
  have HL : Hid (lng a.data.toList o.data.toList made i = (plc a.data.toList (bk o.data.toList i)).foldl (lstep a.data.toList o.data.toList made i) (0, 0, 0)) := rfl
  have HL8 : Hid ((plc a.data.toList (bk o.data.toList i)).length ≤ 8) := by show _ ≤ _; unfold plc; rw [List.length_take]; omega
  generalize plc a.data.toList (bk o.data.toList i) = pl at *
  generalize lng a.data.toList o.data.toList made i = R at HL ⊢
  obtain ⟨va, vc, rfl, hcel⟩ := (hLK w (Below.refl _ _)).2.form
  have HCEL : Hid (∀ W, Below w.heap.size w W → ∀ (j : Nat) (hj : j < pl.length), ∃ b, va = some ⟨b, 0, none⟩ ∧ W.cell? ⟨b, j, none⟩ = some (nI pl[j])) := fun W hW j hj => by
    obtain ⟨b, q1, _, q2, q3⟩ := hcel j hj
    exact ⟨b, q1, cell_step q3 hW⟩
  have HLKS : Hid (∀ W, Below w.heap.size w W → (Instr.lookup 53 (.map (some mb)) (.string (o.extract i (i + 8))) false).run Tryz.prog W = .ok (.slice va pl.length vc) W) := fun W hW => (hLK W hW).1
  have e1 := below_alloc w (.cells #[.string a, .map (some mb)] 55)
  have e2 := below_alloc (w.alloc (.cells #[.string a, .map (some mb)] 55)) (.cells #[.int .i64 0, .int .i64 0, .int .i64 0] 95)
  have e3 := below_alloc ((w.alloc (.cells #[.string a, .map (some mb)] 55)).alloc (.cells #[.int .i64 0, .int .i64 0, .int .i64 0] 95)) (.cells #[.int .i64 0, .int .i64 0, .int .i64 0] 95)
  have z1 : (w.alloc (.cells #[.string a, .map (some mb)] 55)).heap.size = w.heap.size + 1 := World.size_alloc _ _
  have z2 : ((w.alloc (.cells #[.string a, .map (some mb)] 55)).alloc (.cells #[.int .i64 0, .int .i64 0, .int .i64 0] 95)).heap.size = w.heap.size + 2 := by rw [World.size_alloc, z1]
  have HS : Hid (LG w (((w.alloc (.cells #[.string a, .map (some mb)] 55)).alloc (.cells #[.int .i64 0, .int .i64 0, .int .i64 0] 95)).alloc (.cells #[.int .i64 0, .int .i64 0, .int .i64 0] 95)) a mb (0, 0, 0)) :=
    ⟨(e3.block _ (by omega)).trans ((e2.block _ (by omega)).trans (block_at _ rfl)), (e3.block _ (by omega)).trans (block_at _ z1), block_at _ z2, below_then e1 (below_then e2 e3)⟩
  clear hLK hcel e1 e2 e3 z1 z2 hp hpl ex
  have i0 : (0 : Int) ≤ (i : Int) := by omega
  have i1 : (i : Int) + 8 ≤ (o.size : Int) := by omega
  have i2 : (i : Int) ≤ (i : Int) + 8 := by omega
  have i3 : ((i : Int) + 8).toNat = i + 8 := by omega
  have wr8 : IntKind.i64.wrap ((i : Int) + 8) = (i : Int) + 8 := by rw [IntKind.wrap_i64]; omega
  go_enter Tryz.func45, Tryz.ntmps45
  go_upto_region 2 with (fail)
  generalize ((w.alloc (.cells #[.string a, .map (some mb)] 55)).alloc (.cells #[.int .i64 0, .int .i64 0, .int .i64 0] 95)).alloc (.cells #[.int .i64 0, .int .i64 0, .int .i64 0] 95) = W0 at HS ⊢
  obtain ⟨c0, c1⟩ := blk2 HS.out.b0
  have Y0 := cell_regrown c0
  have Y1 := cell_regrown c1
  have LK : ∀ d os, (Instr.lookup 53 (.map (some mb)) (.string (o.extract i (i + 8))) false).run Tryz.prog (grow (redrawn W0 d) os) = .ok (.slice va pl.length vc) (grow (redrawn W0 d) os) := fun d os => HLKS.out _ (below_then HS.out.bw (below_regrown _ _ _))
  refine wp_region_quiet_below (by kernel_rfl) (by kernel_rfl) ?_
  repeat (quiet_step (fail))
  refine wpQuiet_nil ?_
  intro W1 hw'
  have hb1 : RowKit.Below W0.heap.size W0 W1 := by
    obtain ⟨⟨dq, osq⟩, hw''⟩ := hw'
    subst hw''
    exact below_regrown _ _ _
  have HS1 : Hid (LG w W1 a mb (0, 0, 0)) := HS.out.step hb1
  clear hw' HS Y0 Y1 LK c0 c1 hb1 HLKS wr8 i0 i1 i2 i3
  go_wp2
  go_loopw [11, 12, 13, 23] (fun _ _ _ j wr => ∃ m : Nat, m ≤ pl.length ∧ j = .int .i64 m ∧ Hid (LG w wr a mb ((pl.take m).foldl (lstep a.data.toList o.data.toList made i) (0, 0, 0)))) (fun _ _ _ j _ => pl.length - (intOf j).toNat)
  case atStart => exact ⟨0, Nat.zero_le _, rfl, HS1.out⟩
  case round =>
    obtain ⟨m, hmm, rfl, HG⟩ := hrel
    have hl8 := HL8.out
    by_cases hlt : m < pl.length
    · obtain ⟨b, rfl, hcl⟩ := HCEL.out wr HG.out.bw m hlt
      unfold nI at hcl
      have HTK : Hid ((pl.take (m + 1)).foldl (lstep a.data.toList o.data.toList made i) (0, 0, 0) = lstep a.data.toList o.data.toList made i ((pl.take m).foldl (lstep a.data.toList o.data.toList made i) (0, 0, 0)) pl[m]) := by
        show _ = _
        rw [List.take_succ_eq_append_getElem hlt, List.foldl_append]
        rfl
      have hat := HP8.out _ (List.getElem_mem hlt)
      generalize pl[m] = at_ at hcl HTK hat
      generalize (pl.take m).foldl (lstep a.data.toList o.data.toList made i) (0, 0, 0) = p at HG HTK
      have hm0 : (m : Int) < (pl.length : Int) := by omega
      have hm1 : (0 : Int) ≤ (m : Int) := by omega
      have sx := sen_len ((o.data.toList.take i).drop made) (a.data.toList.take at_)
      have sy := sst_len (o.data.toList.drop i) (a.data.toList.drop at_)
      simp only [List.length_drop, List.length_take, la, lo'] at sx sy
      have SE : Hid (∀ W, Calls Tryz.prog 61 #[.string (o.extract made i), .string (a.extract 0 at_)] W fun r w' => r = .returned (.int .i64 (sen ((o.data.toList.take i).drop made) (a.data.toList.take at_))) ∧ RowKit.Below W.heap.size W w') := fun W => by
        have := sameEnd_any (o.extract made i) (a.extract 0 at_) W (by rw [Lib.size_eq, ext_mid, List.length_drop, List.length_take]; omega) (by rw [Lib.size_eq, ext_from, List.length_take]; omega)
        rw [ext_mid, ext_from] at this
        exact this
      have ST : Hid (∀ W, Calls Tryz.prog 62 #[.string (o.extract i o.size), .string (a.extract at_ a.size)] W fun r w' => r = .returned (.int .i64 (sst (o.data.toList.drop i) (a.data.toList.drop at_))) ∧ RowKit.Below W.heap.size W w') := fun W => by
        have := sameStart_any (o.extract i o.size) (a.extract at_ a.size) W (by rw [Lib.size_eq, ext_to, List.length_drop]; omega) (by rw [Lib.size_eq, ext_to, List.length_drop]; omega)
        rw [ext_to, ext_to] at this
        exact this
      have HST : Hid (lstep a.data.toList o.data.toList made i p at_ = if p.2.2 < sen ((o.data.toList.take i).drop made) (a.data.toList.take at_) + sst (o.data.toList.drop i) (a.data.toList.drop at_) then
          (i - sen ((o.data.toList.take i).drop made) (a.data.toList.take at_), at_ - sen ((o.data.toList.take i).drop made) (a.data.toList.take at_), sen ((o.data.toList.take i).drop made) (a.data.toList.take at_) + sst (o.data.toList.drop i) (a.data.toList.drop at_)) else p) := rfl
      generalize sen ((o.data.toList.take i).drop made) (a.data.toList.take at_) = x at sx SE HST
      generalize sst (o.data.toList.drop i) (a.data.toList.drop at_) = y at sy ST HST
      generalize lstep a.data.toList o.data.toList made i p at_ = p' at HTK HST
      clear HS1 HCEL HP8 HL HL8 la lo' exz
      have q0 : (0 : Int) ≤ (made : Int) := by omega
      have q1 : (made : Int) ≤ (i : Int) := by omega
      have q2 : (i : Int) ≤ (o.size : Int) := by omega
      have q3 : (0 : Int) ≤ (at_ : Int) := by omega
      have q4 : (at_ : Int) ≤ (a.size : Int) := by omega
      obtain ⟨c0, c1⟩ := blk2 HG.out.b0
      go_upto_region 5 with (fail)
      have Y0 := cell_regrown c0
      have D1 : Hid (∀ d os, Calls Tryz.prog 61 #[.string (o.extract made i), .string (a.extract 0 at_)] (grow (redrawn wr d) os) fun r w'' => r = .returned (.int .i64 (x : Int)) ∧ ∃ p : Regrown, w'' = grow (redrawn wr p.d) p.os) := fun d os => Calls.regrown_of (SE.out _)
      refine wp_region_quiet_below (by kernel_rfl) (by kernel_rfl) ?_
      repeat (quiet_step (fail))
      quiet_step ((go_at_call 61; exact D1.out _ _))
      repeat (quiet_step (fail))
      refine wpQuiet_nil ?_
      intro W2 hw'
      have hb2 : RowKit.Below wr.heap.size wr W2 := by
        obtain ⟨⟨dq, osq⟩, hw''⟩ := hw'
        subst hw''
        exact below_regrown _ _ _
      have HG2 : Hid (LG w W2 a mb p) := HG.out.step hb2
      clear hw' HG Y0 D1 SE c0 c1 hb2 hcl
      go_upto_region 6 with (fail)
      obtain ⟨c0, c1⟩ := blk2 HG2.out.b0
      have Y0 := cell_regrown c0
      have D1 : Hid (∀ d os, Calls Tryz.prog 62 #[.string (o.extract i o.size), .string (a.extract at_ a.size)] (grow (redrawn W2 d) os) fun r w'' => r = .returned (.int .i64 (y : Int)) ∧ ∃ p : Regrown, w'' = grow (redrawn W2 p.d) p.os) := fun d os => Calls.regrown_of (ST.out _)
      have wrs : IntKind.i64.wrap ((x : Int) + (y : Int)) = (x : Int) + (y : Int) := by rw [IntKind.wrap_i64]; omega
      refine wp_region_quiet_below (by kernel_rfl) (by kernel_rfl) ?_
      repeat (quiet_step (fail))
      quiet_step ((go_at_call 62; exact D1.out _ _))
      repeat (quiet_step (fail))
      refine wpQuiet_nil ?_
      intro W3 hw'
      have hb3 : RowKit.Below W2.heap.size W2 W3 := by
        obtain ⟨⟨dq, osq⟩, hw''⟩ := hw'
        subst hw''
        exact below_regrown _ _ _
      have HG3 : Hid (LG w W3 a mb p) := HG2.out.step hb3
      clear hw' HG2 Y0 D1 ST c0 c1 hb3
      obtain ⟨d0, d1, d2⟩ := p3_cells HG3.out.b2
      have f0 := p3_frozen HG3.out.b2 0
      have f1 := p3_frozen HG3.out.b2 1
      have f2 := p3_frozen HG3.out.b2 2
      change W3.cell? ⟨w.heap.size + 1 + 1, 0, none⟩ = _ at d0
      change W3.cell? ⟨w.heap.size + 1 + 1, 1, none⟩ = _ at d1
      change W3.cell? ⟨w.heap.size + 1 + 1, 2, none⟩ = _ at d2
      change W3.frozen? ⟨w.heap.size + 1 + 1, 0, none⟩ = _ at f0
      change W3.frozen? ⟨w.heap.size + 1 + 1, 1, none⟩ = _ at f1
      change W3.frozen? ⟨w.heap.size + 1 + 1, 2, none⟩ = _ at f2
      by_cases hgt : p.2.2 < x + y
      · have HP' : Hid (p' = (i - x, at_ - x, x + y)) := by show _ = _; rw [HST.out, if_pos hgt]
        have HPUT : Hid (_) := HG3.out.put (i - x, at_ - x, x + y)
        have r1 : ((i - x : Nat) : Int) = (i : Int) - (x : Int) := by omega
        have r2 : ((at_ - x : Nat) : Int) = (at_ : Int) - (x : Int) := by omega
        have r3 : ((x + y : Nat) : Int) = (x : Int) + (y : Int) := by omega
        dsimp only at HPUT
        rw [r1, r2, r3] at HPUT
        have hgt' : (p.2.2 : Int) < (x : Int) + (y : Int) := by omega
        have s1 : -9223372036854775808 ≤ (i : Int) - (x : Int) := by omega
        have s2 : (i : Int) - (x : Int) ≤ 9223372036854775807 := by omega
        have s3 : -9223372036854775808 ≤ (at_ : Int) - (x : Int) := by omega
        have s4 : (at_ : Int) - (x : Int) ≤ 9223372036854775807 := by omega
        clear HG3 HST r1 r2 r3 hgt
        go_wp2
        go_roundw
        case rel => exact ⟨m + 1, by omega, by go_num, by rw [HTK.out, HP'.out]; exact HPUT.out⟩
        case measure => simp [intOf]; omega
      · have HP' : Hid (p' = p) := by show _ = _; rw [HST.out, if_neg hgt]
        have hgt' : (x : Int) + (y : Int) ≤ (p.2.2 : Int) := by omega
        clear HST hgt
        go_wp2
        go_roundw
        case rel => exact ⟨m + 1, by omega, by go_num, by rw [HTK.out, HP'.out]; exact HG3.out⟩
        case measure => simp [intOf]; omega
    · have hfin : pl.take m = pl := List.take_of_length_le (by omega)
      have HR : Hid (LG w wr a mb R) := by
        have := HG.out
        rw [hfin, ← HL.out] at this
        exact this
      have hm0 : (pl.length : Int) ≤ (m : Int) := by omega
      obtain ⟨d0, d1, d2⟩ := p3_cells HR.out.b2
      obtain ⟨g0, g1, g2⟩ := p3_cells HR.out.b1
      have f0 := p3_frozen HR.out.b1 0
      have f1 := p3_frozen HR.out.b1 1
      have f2 := p3_frozen HR.out.b1 2
      change wr.cell? ⟨w.heap.size + 1 + 1, 0, none⟩ = _ at d0
      change wr.cell? ⟨w.heap.size + 1 + 1, 1, none⟩ = _ at d1
      change wr.cell? ⟨w.heap.size + 1 + 1, 2, none⟩ = _ at d2
      clear HG HL hfin HS1 HCEL HP8 HL8
      go_wp2
      obtain ⟨e0, e1, e2⟩ := p3_cells (p3_put (.int .i64 (R.1 : Int)) (.int .i64 (R.2.1 : Int)) (.int .i64 (R.2.2 : Int)) HR.out.b1)
      refine bodyPost_ret (v := .agg #[.int .i64 (R.1 : Int), .int .i64 (R.2.1 : Int), .int .i64 (R.2.2 : Int)]) (by simp [results, Tryz.f45, go_sem, e0, e1, e2]) rfl ⟨rfl, p3_below _ _ _ HR.out.bw (by omega)⟩
end Go.Proofs.YtbocknocmggcpaaGreatDoor

/- Package pack's ops: its iterator walked. -/
namespace Go.Proofs.YtbocknocmggcpaaGreatDoor
open Go Go.RowKit Go.Shelf Cal Pk
attribute [local go_sem] Oper.semAt_some

theorem blOps_any (a o : ByteArray) (mb : Nat) (w : World) : Calls Tryz.prog 18 #[.agg #[.string a, .map (some mb)], .string o] w fun r w' => r = .returned (.func (.func 44) #[] #[.pointer (some ⟨w.heap.size + 1, 0, none⟩), .pointer (some ⟨w.heap.size, 0, none⟩)]) ∧ w' = (w.alloc (.cells #[.string a, .map (some mb)] 55)).alloc (.cells #[.string o] 9) := by
  go_enter Tryz.func18, Tryz.ntmps18
  go_wp2
  go_ret
  exact ⟨rfl, rfl⟩
/-- what a round of Delta's keeps: every piece -/
def KeepP (W W' : World) : Prop := ∀ (b : Nat) (cs : Array Value), W.heap[b]? = some (.cells cs 95 (0, 0)) → W'.heap[b]? = some (.cells cs 95 (0, 0))
theorem opL_at {a b : List UInt8} {f made i : Nat} (h : i + 8 ≤ b.length) (hf : b.length + 1 ≤ f + i) : ∃ f', b.length + 1 ≤ f' + i + 1 ∧ opL a b f made i = if wth made (lng a b made i) then (if made < (lng a b made i).1 then [((b.take (lng a b made i).1).drop made, 0, 0)] else []) ++ ([], ((lng a b made i).2.1 : Int), ((lng a b made i).2.2 : Int)) :: opL a b f' ((lng a b made i).1 + (lng a b made i).2.2) ((lng a b made i).1 + (lng a b made i).2.2) else opL a b f' made (i + 1) := by
  cases f with
  | zero => omega
  | succ f =>
    refine ⟨f, by omega, ?_⟩
    rw [opL, if_pos h]
theorem opL_end {a b : List UInt8} {f made i : Nat} (h : ¬ i + 8 ≤ b.length) : opL a b f made i = if made < b.length then [(b.drop made, 0, 0)] else [] := by
  cases f with
  | zero => rfl
  | succ f => rw [opL, if_neg h]

set_option maxHeartbeats 4000000 in
set_option maxRecDepth 100000 in
theorem ops_iter (n l Bo Bb lo mb nn : Nat) (a o : ByteArray) (J : List Opq → World → Prop) (hn : 12 ≤ n) (ha : a.size ≤ 100000) (ho : o.size ≤ 100000)
    (hB : ∀ r W, J r W → W.cell? ⟨Bo, 0, none⟩ = some (.string o) ∧ W.cell? ⟨Bb, 0, none⟩ = some (.string a) ∧ W.cell? ⟨Bb, 1, none⟩ = some (.map (some mb)) ∧ PlcAt lo W mb nn (plcK a.data.toList (a.size / 8)) ∧ Tab W)
    (hS : ∀ r W W', J r W → Below W.heap.size W W' → J r W')
    (hY : ∀ x r W, OpOk x → J (x :: r) W → YieldAt Fence.wide (n - 1) Tryz.prog l #[opV x] W fun e W' => e = .returned (.bool true) ∧ J r W' ∧ KeepP W W')
    (W : World) (h0 : J (opL a.data.toList o.data.toList (o.size + 1) 0 0) W) :
    CallsIn Fence.wide n Tryz.prog 44 #[.func (.yield l) #[] #[], .pointer (some ⟨Bo, 0, none⟩), .pointer (some ⟨Bb, 0, none⟩)] W fun e W' => (∃ v, e = .returned v) ∧ J [] W' := by
  have h1 : 1 ≤ n := by omega
  have la : a.data.toList.length = a.size := (Lib.size_eq a).symm
  have lo' : o.data.toList.length = o.size := (Lib.size_eq o).symm
  have HB : Hid (_) := hB
  have HS : Hid (_) := hS
  have HY : Hid (_) := hY
  have H0 : Hid (_) := h0
  have HLA : Hid (_) := la
  have HLO : Hid (_) := lo'
  have LN : Hid (∀ made i W, made ≤ i → i + 8 ≤ o.size → PlcAt lo W mb nn (plcK a.data.toList (a.size / 8)) → _) := fun made i W q1 q2 q3 => longest_any a o lo mb nn made i W q3 q1 q2 ha ho
  have IW : Hid (∀ (p : Pc) made W, Tab W → p.2.1 ≤ 999999 → p.2.2 ≤ 999999 → _) := fun p made W q1 q2 q3 => isWorth_any p made W q1 q2 q3
  have PO : Hid (∀ p W, _) := fun p W => pieceOp_any p W
  clear hB hS hY h0 la lo'
  refine callsIn_of_wp Tryz.func44 rfl trivial ?_ rfl
  simp only [Tryz.ntmps44, List.size_toArray, List.length_cons, List.length_nil, Nat.reduceAdd, Nat.reduceSub, Array.replicate_succ, Array.replicate_zero, List.push_toArray, List.append_toArray, List.nil_append, List.cons_append]
  gi_wp2
  gi_loopw [4, 5, 6] (fun mv iv _ wr => ∃ made i f : Nat, made ≤ i ∧ i ≤ o.size ∧ mv = .int .i64 made ∧ iv = .int .i64 i ∧ Hid (o.size + 1 ≤ f + i) ∧ Hid (J (opL a.data.toList o.data.toList f made i) wr)) (fun _ iv _ _ => o.size - (intOf iv).toNat)
  case atStart => exact ⟨0, 0, o.size + 1, Nat.le_refl _, Nat.zero_le _, rfl, rfl, by show _ ≤ _; omega, H0.out⟩
  case round =>
    obtain ⟨made, i, f, hmi, hio, rfl, rfl, HF, HJ⟩ := hrel
    obtain ⟨c1, c2, c3, hpl, htab⟩ := HB.out _ wr HJ.out
    by_cases hlt : i + 8 ≤ o.size
    · obtain ⟨f', hf', hop⟩ := opL_at (a := a.data.toList) (b := o.data.toList) (f := f) (made := made) (i := i) (by rw [HLO.out]; exact hlt) (by rw [HLO.out]; exact HF.out)
      obtain ⟨hall, _⟩ := opL_ok a.data.toList o.data.toList (by rw [HLA.out]; omega) (by rw [HLO.out]; omega) f made i hmi (by rw [HLO.out]; omega)
      have hpc := lng_ok a.data.toList o.data.toList made i hmi (by rw [HLO.out]; exact hlt)
      have LG1 := LN.out made i wr hmi hlt hpl
      rw [HLO.out] at hf'
      have hJ := HJ.out
      rw [hop] at hJ hall
      clear hop HJ
      generalize lng a.data.toList o.data.toList made i = p at hpc LG1 hJ hall
      have hps : p.2.1 ≤ 999999 ∧ p.2.2 ≤ 999999 := by
        rcases hpc with rfl | ⟨q1, q2, q3, q4, q5, _⟩
        · exact ⟨by decide, by decide⟩
        · rw [HLO.out] at q4; rw [HLA.out] at q5; exact ⟨by omega, by omega⟩
      have LG2 : Hid (_) := LG1
      have HJ1 : Hid (_) := hJ
      have HALL : Hid (_) := hall
      have HPC : Hid (_) := hpc
      have HF' : Hid (o.size + 1 ≤ f' + i + 1) := hf'
      have i1 : (i : Int) + 8 ≤ (o.size : Int) := by omega
      clear LG1 hJ hall hpc hf' HF hpl H0
      unfold pcV at LG2
      gi_upto_region 4 with (refine ⟨trivial, ?_⟩; gi_at_call 45; refine (callsIn_wide.2 LG2.out).mono ?_; rintro r w2 ⟨rfl, hb2⟩)
      have hk3 : (w2.alloc (.cells #[.int .i64 (p.1 : Int), .int .i64 (p.2.1 : Int), .int .i64 (p.2.2 : Int)] 95)).heap[w2.heap.size]? = some (.cells #[.int .i64 (p.1 : Int), .int .i64 (p.2.1 : Int), .int .i64 (p.2.2 : Int)] 95 (0, 0)) := block_at _ rfl
      have hb3 := below_then hb2 (below_alloc w2 (.cells #[.int .i64 (p.1 : Int), .int .i64 (p.2.1 : Int), .int .i64 (p.2.2 : Int)] 95))
      generalize w2.alloc (.cells #[.int .i64 (p.1 : Int), .int .i64 (p.2.1 : Int), .int .i64 (p.2.2 : Int)] 95) = w3 at hk3 hb3 ⊢
      generalize w2.heap.size = Bp at hk3 ⊢
      have IW3 : Hid (_) := IW.out p made w3 (htab.step hb3) hps.1 hps.2
      obtain ⟨d0, d1, d2⟩ := p3_cells hk3
      have HJ3 : Hid (_) := HS.out _ _ _ HJ1.out hb3
      have HK3 : Hid (_) := hk3
      clear hb2 hb3 LG2 HJ1 hk3 htab c1 c2 c3
      unfold pcV at IW3
      have HPS : Hid (_) := hps
      clear hps
      cases hw : wth made p with
      | false =>
        rw [hw] at IW3
        have HJ4 : Hid (∀ W', Below w3.heap.size w3 W' → J (opL a.data.toList o.data.toList f' made (i + 1)) W') := fun W' hW' => by
          have := HS.out _ _ _ HJ3.out hW'
          rw [hw] at this
          exact this
        clear HJ3 HALL HPC HB HY hw
        gi_wp2_with (refine ⟨trivial, ?_⟩; gi_at_call 46; refine (callsIn_wide.2 IW3.out).mono ?_; rintro r w4 ⟨rfl, hb4⟩)
        have J5 : Hid (_) := HJ4.out w4 hb4
        clear HJ4 hb4
        go_roundw
        case rel => exact ⟨made, i + 1, f', by omega, by omega, rfl, by go_num, by have := HF'.out; show _ ≤ _; omega, J5.out⟩
        case measure => simp [intOf]; omega
      | true =>
        rw [hw] at IW3
        have hpc := HPC.out
        rcases hpc with rfl | ⟨q1, q2, q3, q4, q5, _⟩
        · exact absurd hw (by simp [wth])
        · rw [HLO.out] at q4
          have hJ := HJ3.out
          have hall := HALL.out
          rw [hw, if_pos rfl] at hJ hall
          have HJ4 : Hid (_) := hJ
          have HALL2 : Hid (_) := hall
          clear HJ3 HALL HPC hJ hall hw d0 d1 d2
          obtain ⟨d0, d1, d2⟩ := p3_cells HK3.out
          gi_upto_region 6 with (refine ⟨trivial, ?_⟩; gi_at_call 46; refine (callsIn_wide.2 IW3.out).mono ?_; rintro r w4 ⟨rfl, hb4⟩)
          have J4 : Hid (_) := HS.out _ _ _ HJ4.out hb4
          have K4 : Hid (_) := (hb4.block _ (Array.getElem?_eq_some_iff.1 HK3.out).1).trans HK3.out
          clear HJ4 HK3 hb4 d0 d1 d2 IW3
          have HOC : Hid (OpOk ([], (p.2.1 : Int), (p.2.2 : Int))) := HALL2.out _ (by simp)
          by_cases hgt : made < p.1
          · have hgt' : (made : Int) < (p.1 : Int) := by omega
            have JO : Hid (J (((o.data.toList.take p.1).drop made, 0, 0) :: ([], (p.2.1 : Int), (p.2.2 : Int)) :: opL a.data.toList o.data.toList f' (p.1 + p.2.2) (p.1 + p.2.2)) w4) := by
              have := J4.out
              rw [if_pos hgt] at this
              exact this
            have HOO : Hid (OpOk ((o.data.toList.take p.1).drop made, 0, 0)) := HALL2.out _ (by rw [if_pos hgt]; simp)
            have hYo := HY.out _ _ w4 HOO.out JO.out
            have ex : bs ((o.data.toList.take p.1).drop made) = o.extract made p.1 := pl_ext (by rw [bs_data, ext_mid])
            unfold opV at hYo
            dsimp only at hYo
            rw [ex] at hYo
            obtain ⟨c1, _⟩ := HB.out _ w4 JO.out
            obtain ⟨d0, d1, d2⟩ := p3_cells K4.out
            have r0 : (0 : Int) ≤ (made : Int) := by omega
            have r1 : (made : Int) ≤ (p.1 : Int) := by omega
            have r2 : (p.1 : Int) ≤ (o.size : Int) := by omega
            obtain ⟨fn, tmps, assign, body, hy, hRR⟩ := hYo
            clear J4 JO HOO HALL2 ex hgt
            gi_upto_region 7 with (fail)
            refine hRR.mono ?_
            rintro e w5 ⟨rfl, hJ5, hkeep5⟩
            have JC : Hid (_) := hJ5
            have KC : Hid (_) := hkeep5 _ _ K4.out
            clear hJ5 hkeep5 K4 hy hRR c1 d0 d1 d2 r0 r1 r2
            gi_upto_region 7 with (fail)
            have HYC : Hid (∀ W', Below w5.heap.size w5 W' → YieldAt Fence.wide (n - 1) Tryz.prog l #[.agg #[.string ⟨#[]⟩, .int .i64 (p.2.1 : Int), .int .i64 (p.2.2 : Int)]] W' fun e W'' => e = .returned (.bool true) ∧ J (opL a.data.toList o.data.toList f' (p.1 + p.2.2) (p.1 + p.2.2)) W'' ∧ KeepP W' W'') := fun W' hW' => HY.out ([], (p.2.1 : Int), (p.2.2 : Int)) _ W' HOC.out (HS.out _ _ _ JC.out hW')
            have HKC : Hid (∀ W', Below w5.heap.size w5 W' → W'.heap[Bp]? = some (.cells #[.int .i64 (p.1 : Int), .int .i64 (p.2.1 : Int), .int .i64 (p.2.2 : Int)] 95 (0, 0))) := fun W' hW' => (hW'.block _ (Array.getElem?_eq_some_iff.1 KC.out).1).trans KC.out
            obtain ⟨d0, d1, d2⟩ := p3_cells KC.out
            have POP : Hid (_) := PO.out p w5
            unfold pcV opV at POP
            dsimp only at POP
            rw [show bs [] = (⟨#[]⟩ : ByteArray) from rfl] at POP
            clear JC KC HOC HY HB HS PO IW LN
            gi_wp2_with (refine ⟨trivial, ?_⟩; gi_at_call 47; refine (callsIn_wide.2 POP.out).mono ?_; rintro r w6 ⟨rfl, hb6⟩; have hK6 : Hid (_) := HKC.out w6 hb6; obtain ⟨fn, tmps, assign, body, hy, hRR⟩ := HYC.out w6 hb6)
            refine hRR.mono ?_
            rintro e w7 ⟨rfl, hJ7, hkeep⟩
            have J7 : Hid (_) := hJ7
            obtain ⟨g0, g1, g2⟩ := p3_cells (hkeep _ _ hK6.out)
            clear hJ7 hkeep hK6 hy hRR HYC HKC POP d0 d1 d2 hb6
            have s1 : (p.1 : Int) + (p.2.2 : Int) ≤ 9223372036854775807 := by omega
            have s2 : -9223372036854775808 ≤ (p.1 : Int) + (p.2.2 : Int) := by omega
            gi_wp2
            go_roundw
            case rel => exact ⟨p.1 + p.2.2, p.1 + p.2.2, f', Nat.le_refl _, by omega, by go_num, by go_num, by have := HF'.out; show _ ≤ _; omega, J7.out⟩
            case measure => simp [intOf]; omega
          · have hgt' : (p.1 : Int) ≤ (made : Int) := by omega
            have JC : Hid (J (([], (p.2.1 : Int), (p.2.2 : Int)) :: opL a.data.toList o.data.toList f' (p.1 + p.2.2) (p.1 + p.2.2)) w4) := by
              have := J4.out
              rw [if_neg hgt] at this
              exact this
            have KC : Hid (_) := K4.out
            obtain ⟨d0, d1, d2⟩ := p3_cells KC.out
            clear J4 K4 HALL2 hgt
            gi_upto_region 7 with (fail)
            refine ⟨(fun f h => by cases h), ?_⟩
            gi_upto_region 7 with (fail)
            clear d0 d1 d2
            have HYC : Hid (∀ W', Below w4.heap.size w4 W' → YieldAt Fence.wide (n - 1) Tryz.prog l #[.agg #[.string ⟨#[]⟩, .int .i64 (p.2.1 : Int), .int .i64 (p.2.2 : Int)]] W' fun e W'' => e = .returned (.bool true) ∧ J (opL a.data.toList o.data.toList f' (p.1 + p.2.2) (p.1 + p.2.2)) W'' ∧ KeepP W' W'') := fun W' hW' => HY.out ([], (p.2.1 : Int), (p.2.2 : Int)) _ W' HOC.out (HS.out _ _ _ JC.out hW')
            have HKC : Hid (∀ W', Below w4.heap.size w4 W' → W'.heap[Bp]? = some (.cells #[.int .i64 (p.1 : Int), .int .i64 (p.2.1 : Int), .int .i64 (p.2.2 : Int)] 95 (0, 0))) := fun W' hW' => (hW'.block _ (Array.getElem?_eq_some_iff.1 KC.out).1).trans KC.out
            obtain ⟨d0, d1, d2⟩ := p3_cells KC.out
            have POP : Hid (_) := PO.out p w4
            unfold pcV opV at POP
            dsimp only at POP
            rw [show bs [] = (⟨#[]⟩ : ByteArray) from rfl] at POP
            clear JC KC HOC HY HB HS PO IW LN
            gi_wp2_with (refine ⟨trivial, ?_⟩; gi_at_call 47; refine (callsIn_wide.2 POP.out).mono ?_; rintro r w6 ⟨rfl, hb6⟩; have hK6 : Hid (_) := HKC.out w6 hb6; obtain ⟨fn, tmps, assign, body, hy, hRR⟩ := HYC.out w6 hb6)
            refine hRR.mono ?_
            rintro e w7 ⟨rfl, hJ7, hkeep⟩
            have J7 : Hid (_) := hJ7
            obtain ⟨g0, g1, g2⟩ := p3_cells (hkeep _ _ hK6.out)
            clear hJ7 hkeep hK6 hy hRR HYC HKC POP d0 d1 d2 hb6
            have s1 : (p.1 : Int) + (p.2.2 : Int) ≤ 9223372036854775807 := by omega
            have s2 : -9223372036854775808 ≤ (p.1 : Int) + (p.2.2 : Int) := by omega
            gi_wp2
            go_roundw
            case rel => exact ⟨p.1 + p.2.2, p.1 + p.2.2, f', Nat.le_refl _, by omega, by go_num, by go_num, by have := HF'.out; show _ ≤ _; omega, J7.out⟩
            case measure => simp [intOf]; omega
    · have hend := opL_end (a := a.data.toList) (b := o.data.toList) (f := f) (made := made) (i := i) (by rw [HLO.out]; exact hlt)
      have i1 : (o.size : Int) < (i : Int) + 8 := by omega
      have hJ := HJ.out
      rw [hend, HLO.out] at hJ
      by_cases hmo : made < o.size
      · have hmo' : (made : Int) < (o.size : Int) := by omega
        rw [if_pos hmo] at hJ
        have ex : bs (o.data.toList.drop made) = o.extract made o.size := pl_ext (by rw [bs_data, ext_to])
        have hok : OpOk (o.data.toList.drop made, 0, 0) := by
          have := (opL_ok a.data.toList o.data.toList (by rw [HLA.out]; omega) (by rw [HLO.out]; omega) f made i hmi (by rw [HLO.out]; omega)).1
          rw [hend, HLO.out, if_pos hmo] at this
          exact this _ (by simp)
        have hYo := HY.out _ _ wr hok hJ
        unfold opV at hYo
        dsimp only at hYo
        rw [ex] at hYo
        have r0 : (0 : Int) ≤ (made : Int) := by omega
        obtain ⟨fn, tmps, assign, body, hy, hRR⟩ := hYo
        clear HB HS HY H0 LN IW PO hJ hend ex hok HJ hpl htab c2 c3
        gi_wp2
        refine hRR.mono ?_
        rintro e w5 ⟨rfl, hJ5, _⟩
        have J5 : Hid (_) := hJ5
        clear hJ5 hy hRR c1
        gi_wp2
        go_end0
        exact ⟨⟨_, rfl⟩, J5.out⟩
      · have hmo' : (o.size : Int) ≤ (made : Int) := by omega
        rw [if_neg hmo] at hJ
        have J5 : Hid (_) := hJ
        clear HB HS HY H0 LN IW PO hJ hend HJ hpl htab c2 c3
        gi_wp2
        go_end0
        exact ⟨⟨_, rfl⟩, J5.out⟩
end Go.Proofs.YtbocknocmggcpaaGreatDoor
