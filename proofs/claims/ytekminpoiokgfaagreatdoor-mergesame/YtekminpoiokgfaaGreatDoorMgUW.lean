/- Package book's Get of a book that is nil; package merge's Three (written by wip/gen/mkMgU.py). -/
import Derived.Test.YtekminpoiokgfaaGreatDoorMgTW
namespace Go.Proofs.YtekminpoiokgfaaGreatDoor
open Go Go.RowKit Go.Maps Go.Sort Cal
attribute [local go_sem] Oper.semAt_some

theorem ball_nil (w : World) : Calls Tryz.prog 26 #[.pointer none] w fun r w' => r = .returned (.map none) ∧ w' = w := by
  go_enter Tryz.func26, Tryz.ntmps26
  go_wp2
  go_ret
  exact ⟨rfl, rfl⟩
set_option maxHeartbeats 4000000 in
set_option maxRecDepth 100000 in
theorem bget_nil (id : ByteArray) (E : EV) (sl skv mvv : Value) (w : World) (hid : id.size ≤ 1000) (hat : zV = ev E sl skv mvv) (hL : Ls w E sl skv mvv) (k20 : E.sk.length ≤ 20) (m20 : E.mv.length ≤ 20) :
    Calls Tryz.prog 11 #[.pointer none, .string id] w fun r w' => ∃ sl' skv' mvv', r = .returned (.tuple #[ev E sl' skv' mvv', .bool false]) ∧ Ls w' E sl' skv' mvv' ∧ Below w.heap.size w w' := by
  have HD20 : Hid (E.ds.length ≤ 20) := by obtain ⟨_, _, _, q, _⟩ := hL.d; exact q
  have HL : Hid (Ls w E sl skv mvv) := hL
  obtain ⟨hd, hs, hm⟩ := hL
  obtain ⟨ra, rc, rfl, _⟩ := hd
  obtain ⟨sa, sc, rfl, _⟩ := hs
  obtain ⟨ma, mc, rfl, _⟩ := hm
  unfold ev at hat
  have hA := below_alloc w (.cells #[.string ⟨#[]⟩, .string ⟨#[]⟩, .int .i64 0, .int .i64 0, .string ⟨#[]⟩, .int .i64 0, .slice none 0 0, .int .i64 0, .int .i64 0, .slice none 0 0, .slice none 0 0] 44)
  have kR : (w.alloc (.cells #[.string ⟨#[]⟩, .string ⟨#[]⟩, .int .i64 0, .int .i64 0, .string ⟨#[]⟩, .int .i64 0, .slice none 0 0, .int .i64 0, .int .i64 0, .slice none 0 0, .slice none 0 0] 44)).heap[w.heap.size]? = some (.cells #[.string ⟨#[]⟩, .string ⟨#[]⟩, .int .i64 0, .int .i64 0, .string ⟨#[]⟩, .int .i64 0, .slice none 0 0, .int .i64 0, .int .i64 0, .slice none 0 0, .slice none 0 0] 44 (0, 0)) := block_at _ rfl
  have hz : (w.alloc (.cells #[.string ⟨#[]⟩, .string ⟨#[]⟩, .int .i64 0, .int .i64 0, .string ⟨#[]⟩, .int .i64 0, .slice none 0 0, .int .i64 0, .int .i64 0, .slice none 0 0, .slice none 0 0] 44)).heap.size = w.heap.size + 1 := World.size_alloc _ _
  have AL : Hid (Calls _ _ _ _ _) := ball_nil (w.alloc (.cells #[.string ⟨#[]⟩, .string ⟨#[]⟩, .int .i64 0, .int .i64 0, .string ⟨#[]⟩, .int .i64 0, .slice none 0 0, .int .i64 0, .int .i64 0, .slice none 0 0, .slice none 0 0] 44))
  have LK : (Instr.lookup 67 (.map none) (.string id) true).run Tryz.prog (w.alloc (.cells #[.string ⟨#[]⟩, .string ⟨#[]⟩, .int .i64 0, .int .i64 0, .string ⟨#[]⟩, .int .i64 0, .slice none 0 0, .int .i64 0, .int .i64 0, .slice none 0 0, .slice none 0 0] 44)) = .ok (.tuple #[.agg #[.string E.id, .string E.ti, .int .i64 E.st, .int .i64 E.lg, .string E.f, .int .i64 E.e, .slice ra E.ds.length rc, .int .i64 E.c, .int .i64 E.u, .slice sa E.sk.length sc, .slice ma E.mv.length mc], .bool false]) (w.alloc (.cells #[.string ⟨#[]⟩, .string ⟨#[]⟩, .int .i64 0, .int .i64 0, .string ⟨#[]⟩, .int .i64 0, .slice none 0 0, .int .i64 0, .int .i64 0, .slice none 0 0, .slice none 0 0] 44)) := by
    rw [← hat]
    exact Maps.look_nil true law Tryz.underlying67 (zeroE _) (key_of hid)
  have HA : Hid (_) := hA
  have KR : Hid (_) := kR
  have HZ : Hid (_) := hz
  clear hA kR hz hat
  unfold ev
  go_enter Tryz.func11, Tryz.ntmps11
  generalize hw0 : w.alloc (.cells #[.string ⟨#[]⟩, .string ⟨#[]⟩, .int .i64 0, .int .i64 0, .string ⟨#[]⟩, .int .i64 0, .slice none 0 0, .int .i64 0, .int .i64 0, .slice none 0 0, .slice none 0 0] 44) = w0 at AL LK HA KR HZ
  go_upto_region 2 with (first
    | (go_at_call 26; refine Calls.mono AL.out ?_; rintro r w' ⟨rfl, hq⟩; have hq := hq.symm; subst hq)
    | go_in)
  have KE : Hid (EB (w0.alloc (.cells #[.string E.id, .string E.ti, .int .i64 E.st, .int .i64 E.lg, .string E.f, .int .i64 E.e, .slice ra E.ds.length rc, .int .i64 E.c, .int .i64 E.u, .slice sa E.sk.length sc, .slice ma E.mv.length mc] 44)) w0.heap.size E (.slice ra E.ds.length rc) (.slice sa E.sk.length sc) (.slice ma E.mv.length mc)) := EB.new w0 E _ _ _
  have LE : Hid (Ls (w0.alloc (.cells #[.string E.id, .string E.ti, .int .i64 E.st, .int .i64 E.lg, .string E.f, .int .i64 E.e, .slice ra E.ds.length rc, .int .i64 E.c, .int .i64 E.u, .slice sa E.sk.length sc, .slice ma E.mv.length mc] 44)) E (.slice ra E.ds.length rc) (.slice sa E.sk.length sc) (.slice ma E.mv.length mc)) := HL.out.step (below_then HA.out (below_alloc _ _))
  have KR1 : Hid ((w0.alloc (.cells #[.string E.id, .string E.ti, .int .i64 E.st, .int .i64 E.lg, .string E.f, .int .i64 E.e, .slice ra E.ds.length rc, .int .i64 E.c, .int .i64 E.u, .slice sa E.sk.length sc, .slice ma E.mv.length mc] 44)).heap[w.heap.size]? = some (.cells #[.string ⟨#[]⟩, .string ⟨#[]⟩, .int .i64 0, .int .i64 0, .string ⟨#[]⟩, .int .i64 0, .slice none 0 0, .int .i64 0, .int .i64 0, .slice none 0 0, .slice none 0 0] 44 (0, 0))) := block_alloc _ KR.out
  have B1 : Hid (Below w.heap.size w (w0.alloc (.cells #[.string E.id, .string E.ti, .int .i64 E.st, .int .i64 E.lg, .string E.f, .int .i64 E.e, .slice ra E.ds.length rc, .int .i64 E.c, .int .i64 E.u, .slice sa E.sk.length sc, .slice ma E.mv.length mc] 44))) := below_then HA.out (below_alloc _ _)
  have hs1 : w.heap.size + 1 ≤ (w0.alloc (.cells #[.string E.id, .string E.ti, .int .i64 E.st, .int .i64 E.lg, .string E.f, .int .i64 E.e, .slice ra E.ds.length rc, .int .i64 E.c, .int .i64 E.u, .slice sa E.sk.length sc, .slice ma E.mv.length mc] 44)).heap.size := by rw [World.size_alloc, HZ.out]; omega
  clear AL LK HA KR HZ HL
  generalize w0.alloc (.cells #[.string E.id, .string E.ti, .int .i64 E.st, .int .i64 E.lg, .string E.f, .int .i64 E.e, .slice ra E.ds.length rc, .int .i64 E.c, .int .i64 E.u, .slice sa E.sk.length sc, .slice ma E.mv.length mc] 44) = w1 at KE LE KR1 B1 hs1 ⊢
  generalize w0.heap.size = be at KE ⊢
  have CP := copy_any E _ _ _ w1 LE.out k20 m20
  unfold ev at CP
  have HCP : Hid (Calls _ _ _ _ _) := CP
  clear CP LE
  obtain ⟨x0, x1, x2, x3, x4, x5, x6, x7, x8, x9, x10⟩ := blk11 (show w1.heap[be]? = _ from KE.out)
  have m8 : E.mv.length ≤ 80000 := by omega
  go_wp2_with (go_at_call 27; refine Calls.mono HCP.out ?_; rintro r w5 ⟨sl2, sk2, mv2, rfl, ho1, ho2, ho3, hb5⟩; obtain ⟨r2, rc2, rfl⟩ := ow_form ho1; obtain ⟨s2, sc2, rfl⟩ := ow_form ho2; obtain ⟨m2, mc2, rfl⟩ := gotM_form (owm_movs ho3 m8).2; have KR5 : Hid (w5.heap[w.heap.size]? = some (.cells #[.string ⟨#[]⟩, .string ⟨#[]⟩, .int .i64 0, .int .i64 0, .string ⟨#[]⟩, .int .i64 0, .slice none 0 0, .int .i64 0, .int .i64 0, .slice none 0 0, .slice none 0 0] 44 (0, 0))) := (hb5.block _ (Nat.lt_of_succ_le hs1)).trans KR1.out; obtain ⟨t0, t1, t2, t3, t4, t5, t6, t7, t8, t9, t10⟩ := blk11 KR5.out; have f0 := blk11_frozen KR5.out 0; have f1 := blk11_frozen KR5.out 1; have f2 := blk11_frozen KR5.out 2; have f3 := blk11_frozen KR5.out 3; have f4 := blk11_frozen KR5.out 4; have f5 := blk11_frozen KR5.out 5; have f6 := blk11_frozen KR5.out 6; have f7 := blk11_frozen KR5.out 7; have f8 := blk11_frozen KR5.out 8; have f9 := blk11_frozen KR5.out 9; have f10 := blk11_frozen KR5.out 10)
  rw [put11_fold]
  have n10 := put11_blk (.string E.id) (.string E.ti) (.int .i64 E.st) (.int .i64 E.lg) (.string E.f) (.int .i64 E.e) (.slice r2 E.ds.length rc2) (.int .i64 E.c) (.int .i64 E.u) (.slice s2 E.sk.length sc2) (.slice m2 E.mv.length mc2) KR5.out
  have g7 := put11_grown w5 w.heap.size (.string E.id) (.string E.ti) (.int .i64 E.st) (.int .i64 E.lg) (.string E.f) (.int .i64 E.e) (.slice r2 E.ds.length rc2) (.int .i64 E.c) (.int .i64 E.u) (.slice s2 E.sk.length sc2) (.slice m2 E.mv.length mc2)
  clear x0 x1 x2 x3 x4 x5 x6 x7 x8 x9 x10 t0 t1 t2 t3 t4 t5 t6 t7 t8 t9 t10 f0 f1 f2 f3 f4 f5 f6 f7 f8 f9 f10
  have o1 := Ow.grown ho1 g7 (by omega)
  have o2 := Ow.grown ho2 g7 (by omega)
  have o3 := OwM.grown ho3 g7 (by omega)
  generalize put11 w5 w.heap.size (.string E.id) (.string E.ti) (.int .i64 E.st) (.int .i64 E.lg) (.string E.f) (.int .i64 E.e) (.slice r2 E.ds.length rc2) (.int .i64 E.c) (.int .i64 E.u) (.slice s2 E.sk.length sc2) (.slice m2 E.mv.length mc2) = w7 at n10 g7 o1 o2 o3 ⊢
  obtain ⟨c0, c1, c2, c3, c4, c5, c6, c7, c8, c9, c10⟩ := blk11 n10
  refine bodyPost_ret (v := .tuple #[.agg #[.string E.id, .string E.ti, .int .i64 E.st, .int .i64 E.lg, .string E.f, .int .i64 E.e, .slice r2 E.ds.length rc2, .int .i64 E.c, .int .i64 E.u, .slice s2 E.sk.length sc2, .slice m2 E.mv.length mc2], .bool false]) (by simp [results, Tryz.f11, go_sem, c0, c1, c2, c3, c4, c5, c6, c7, c8, c9, c10]) rfl ⟨_, _, _, rfl, ⟨ow_days o1 HD20.out, ow_ints o2 (by omega), (owm_movs o3 m8).1⟩, (below_then B1.out hb5).grown g7 (below_then B1.out hb5).size (fun k q => by cases q; exact Nat.le_refl _)⟩

/-- what Get tells of a book of X -/
def GetC (w : World) (pb : Option Addr) (X : List EV) : Prop := ∀ id : ByteArray, id.size ≤ 1000 → ∀ W, Below w.heap.size w W → Calls Tryz.prog 11 #[.pointer pb, .string id] W fun r w' => ∃ sl skv mvv, r = .returned (.tuple #[ev ((lkC X id).getD zE) sl skv mvv, .bool (lkC X id).isSome]) ∧ Ls w' ((lkC X id).getD zE) sl skv mvv ∧ ((lkC X id).isSome = true → Got w' skv ((lkC X id).getD zE).sk) ∧ Below W.heap.size W w'
theorem getC_book {lo bb n : Nat} {mo : Option Nat} {X : List EV} {w : World} (h : BookAt lo w bb mo n X) : GetC w (some ⟨bb, 0, none⟩) X := fun id hid W hW => getO_C lo bb n mo X id hid W (h.step hW)
theorem getC_nil (w : World) : GetC w none [] := fun id hid W _ => by
  refine (bget_nil id zE (.slice none 0 0) (.slice none 0 0) (.slice none 0 0) W hid rfl ⟨Days.nil _ _, Ints.nil _ _, Movs.nil _ _⟩ (by decide) (by decide)).mono ?_
  rintro r w' ⟨sl, skv, mvv, rfl, hL, hb⟩
  exact ⟨sl, skv, mvv, rfl, hL, (fun q => by cases q), hb⟩
theorem GetC.step {w w' : World} {pb : Option Addr} {X : List EV} (h : GetC w pb X) (hb : Below w.heap.size w w') : GetC w' pb X := fun id hid W hW => h id hid W (below_then hb hW)
theorem book_ok {lo bb n : Nat} {mo : Option Nat} {X : List EV} {w : World} (h : BookAt lo w bb mo n X) : ∀ E ∈ X, EW E ∧ E.ds.length ≤ 20 := fun E hE => by
  obtain ⟨D, _, _, _, h4⟩ := h
  exact (h4.at_ E hE).1

theorem below_to {lo : Nat} {w w1 w2 : World} (h1 : Below lo w w1) (h2 : Below w1.heap.size w1 w2) (hlo : lo = w.heap.size) : Below lo w w2 :=
  ⟨h2.os.trans h1.os, h2.tape.trans h1.tape, h2.output.trans h1.output, Nat.le_trans h1.size h2.size, fun k hk => (h2.block k (by have := h1.size; omega)).trans (h1.block k hk)⟩
/-- what Three answers -/
def ThrIs (lo : Nat) (a : List EV × List (ByteArray × ByteArray)) (r : Ending) (w' : World) : Prop :=
  (a.2 = [] ∧ ∃ mo n, r = .returned (.tuple #[.pointer (some ⟨lo, 0, none⟩), .slice none 0 0]) ∧ BookAt lo w' lo mo n a.1 ∧ n ≤ 1000) ∨ (a.2 ≠ [] ∧ ∃ v, r = .returned (.tuple #[.pointer none, v]) ∧ ClR lo w' v a.2)
theorem info_clash : (Tryz.prog.info? 35).map (fun i => (i.zero, i.size, i.bytes)) = some (some (.agg #[.string ⟨#[]⟩, .string ⟨#[]⟩]), 2, 32) := by kernel_rfl
theorem clash_cell (W : World) (x y : ByteArray) : ∀ (j : Nat) (v : Value), [Value.string x, .string y][j]? = some v → (W.alloc (.cells #[.string x, .string y] 35)).cell? ((⟨W.heap.size, 0, none⟩ : Addr).add j) = some v := fun j v hv => by
  match j, hv with
  | 0, hv => simp at hv; subst hv; simp [Addr.add]
  | 1, hv => simp at hv; subst hv; simp [Addr.add]
theorem cb_start {lo : Nat} {w : World} (h : BookAt lo w lo none 0 []) : CB lo w w none 0 [] (.slice none 0 0) [] := ⟨h, clR_nil _ _, fun _ => rfl, (fun mb e => by cases e), rfl, rfl, rfl, Nat.le_refl _, fun _ _ _ _ => rfl⟩
theorem cb_below {lo : Nat} {w w2 W : World} {mo : Option Nat} {n : Nat} {C : List EV} {v : Value} {cl : List (ByteArray × ByteArray)} (hlo : lo = w.heap.size) (hb : Below lo w w2) (h : CB lo w2 W mo n C v cl) : Below lo w W :=
  ⟨h.k.os.trans hb.os, h.k.tape.trans hb.tape, h.k.output.trans hb.output, Nat.le_trans hb.size h.k.size, fun k hk => (h.k.block k (by have := hb.size; omega) (by omega) (by simp)).trans (hb.block k hk)⟩
theorem cb_cell {lo : Nat} {w2 W : World} {mo : Option Nat} {n : Nat} {C : List EV} {v : Value} {cl : List (ByteArray × ByteArray)} (h : CB lo w2 W mo n C v cl) (h0 : BookAt lo w2 lo none 0 []) {b j : Nat} {x : ByteArray} (hb : b < w2.heap.size) (hc : w2.cell? ⟨b, j, none⟩ = some (.string x)) : W.cell? ⟨b, j, none⟩ = some (.string x) := by
  refine (World.cell?_of_block (a := ⟨b, j, none⟩) (h.k.block b hb (fun q => ?_) (by simp))).trans hc
  obtain ⟨D, h1, _⟩ := h0
  subst q
  have hh : w2.heap[b]? = some (.cells #[.map none] 74 (0, 0)) := h1.1
  cases j with
  | zero => simp [World.cell?, hh] at hc
  | succ j => simp [World.cell?, hh] at hc

set_option maxHeartbeats 4000000 in
set_option maxRecDepth 100000 in
theorem three_C (pb : Option Addr) (X : List EV) (l2 b2 n2 : Nat) (o2 : Option Nat) (Y : List EV) (l3 b3 n3 : Nat) (o3 : Option Nat) (Z : List EV) (s : Nat → Addr) (w : World) (gk : GlobK s w) (g : GlobR w) (h1 : GetC w pb X) (hX : ∀ E ∈ X, EW E ∧ E.ds.length ≤ 20) (h2 : BookAt l2 w b2 o2 n2 Y) (h3 : BookAt l3 w b3 o3 n3 Z) (hn2 : n2 ≤ 100000) (hn3 : n3 ≤ 100000) (hy : Y.length ≤ 60) (hz : Z.length ≤ 60) :
    Calls Tryz.prog 8 #[.pointer pb, .pointer (some ⟨b2, 0, none⟩), .pointer (some ⟨b3, 0, none⟩)] w fun r w' => Below w.heap.size w w' ∧ ThrIs w.heap.size (thr X Y Z (idsU Y Z)) r w' := by
  have NW : Hid (Calls _ _ _ _ _) := bookAt_new w
  have I2 : Hid (∀ W, Below w.heap.size w W → Calls Tryz.prog 10 #[.pointer (some ⟨b2, 0, none⟩)] W fun r w' => ∃ v, r = .returned v ∧ RowV W.heap.size w' v (Y.map EV.id) ∧ Below W.heap.size W w') := fun W hW => ids_C l2 b2 n2 o2 Y W (h2.step hW) hn2
  have I3 : Hid (∀ W, Below w.heap.size w W → Calls Tryz.prog 10 #[.pointer (some ⟨b3, 0, none⟩)] W fun r w' => ∃ v, r = .returned v ∧ RowV W.heap.size w' v (Z.map EV.id) ∧ Below W.heap.size W w') := fun W hW => ids_C l3 b3 n3 o3 Z W (h3.step hW) hn3
  have RS : Hid (∀ (W : World) (b : Nat) (v1 v2 : Value), RowV b W v1 (Y.map EV.id) → RowV b W v2 (Z.map EV.id) → Calls Tryz.prog 20 #[v1, v2] W fun r w' => ∃ v', r = .returned v' ∧ Txs w' v' (idsU Y Z) ∧ Below W.heap.size W w') := fun W b v1 v2 q1 q2 => risingS_any b v1 v2 _ _ W q1 q2 (by rw [List.length_map]; omega) (by rw [List.length_map]; omega)
  have HID : Hid (∀ id ∈ idsU Y Z, id.size ≤ 1000) := fun id h => by
    rcases (idsU_mem Y Z id).1 h with ⟨E, hE, rfl⟩ | ⟨E, hE, rfl⟩
    · have := (book_ok h2 E hE).1.id.2.2; omega
    · have := (book_ok h3 E hE).1.id.2.2; omega
  have JV : Hid (∀ id : ByteArray, id.size ≤ 1000 → ∀ W, Below w.heap.size w W → Calls Tryz.prog 21 #[.string id, .pointer pb, .pointer (some ⟨b2, 0, none⟩), .pointer (some ⟨b3, 0, none⟩)] W fun r w' => Below W.heap.size W w' ∧ JE W.heap.size w' (lkC X id) (lkC Y id) (lkC Z id) r) := fun id hid W hW => joinEvent_any pb l2 b2 n2 o2 l3 b3 n3 o3 X Y Z id hid s W (gk.step hW) (g.step hW) (fun W' hW' => h1 id hid W' (below_then hW hW')) (h2.step hW) (h3.step hW) hX (book_ok h2) (book_ok h3)
  have QX : Hid (∀ id E, lkC X id = some E → EW E ∧ E.ds.length ≤ 20) := fun id E q => hX E (lkC_some q).1
  have QY : Hid (∀ id E, lkC Y id = some E → EW E ∧ E.ds.length ≤ 20) := fun id E q => book_ok h2 E (lkC_some q).1
  have QZ : Hid (∀ id E, lkC Z id = some E → EW E ∧ E.ds.length ≤ 20) := fun id E q => book_ok h3 E (lkC_some q).1
  have HUL : Hid ((idsU Y Z).length ≤ 120) := idsU_len Y Z hy hz
  have GG : Hid (GlobK s w ∧ GlobR w) := ⟨gk, g⟩
  obtain ⟨i0, hi, hz0, hz1, hz2⟩ := info_parts info_clash
  clear gk g h1 hX h2 h3 hn2 hn3 hy hz
  generalize idsU Y Z = ids at RS HID HUL ⊢
  generalize Y.map EV.id = L2 at RS I2
  generalize Z.map EV.id = L3 at RS I3
  obtain ⟨lo, hlo⟩ : ∃ lo, lo = w.heap.size := ⟨_, rfl⟩
  rw [← hlo] at NW I2 I3 JV ⊢
  have HLO : Hid (lo = w.heap.size) := hlo
  clear hlo
  go_enter Tryz.func8, Tryz.ntmps8
  go_upto_region 3 with (go_at_call 13; refine Calls.mono NW.out ?_; rintro r w1 ⟨rfl, hB1, hb1⟩)
  have HB1 : Hid (Below lo w w1) := hb1
  have BK1 : Hid (BookAt lo w1 lo none 0 []) := hB1
  clear hb1 hB1 NW
  go_wp2_with fail
  go_at_call 10
  refine Calls.mono (I2.out w1 HB1.out) ?_
  rintro r w2 ⟨v2, rfl, hr2, hb2⟩
  have R2 : Hid (RowV w1.heap.size w2 v2 L2) := hr2
  have HB2 : Hid (Below w1.heap.size w1 w2) := hb2
  obtain ⟨y1, y2, rfl⟩ := rowV_form hr2
  clear hr2 hb2
  go_wp2_with fail
  go_at_call 10
  refine Calls.mono (I3.out w2 (below_to HB1.out HB2.out HLO.out)) ?_
  rintro r w3 ⟨v3, rfl, hr3, hb3⟩
  have R3 : Hid (RowV w2.heap.size w3 v3 L3) := hr3
  have HB3 : Hid (Below w2.heap.size w2 w3) := hb3
  obtain ⟨y3, y4, rfl⟩ := rowV_form hr3
  clear hr3 hb3
  go_wp2_with fail
  go_at_call 20
  refine Calls.mono (RS.out w3 w1.heap.size _ _ (rowV_step R2.out HB3.out) (R3.out.base HB2.out.size)) ?_
  rintro r w4 ⟨v4, rfl, hT4, hb4⟩
  obtain ⟨va, vc, rfl, _, hvc, hT⟩ := hT4
  go_wp2_with fail
  have HB4 : Hid (Below lo w w4) := below_to (below_to (below_to HB1.out HB2.out HLO.out) HB3.out HLO.out) hb4 HLO.out
  have BK4 : Hid (BookAt lo w4 lo none 0 []) := ((BK1.out.step HB2.out).step HB3.out).step hb4
  have HT : Hid (∀ (j : Nat) (h : j < ids.length), ∃ b : Nat, va = some ⟨b, 0, none⟩ ∧ b < w4.heap.size ∧ w4.cell? ⟨b, j, none⟩ = some (.string ids[j])) := hT
  have CB0 : Hid (CB lo w4 w4 none 0 [] (.slice none 0 0) []) := cb_start BK4.out
  clear hT hb4 R2 R3 HB2 HB3 BK1 HB1 I2 I3 RS
  go_loopw [9, 11, 12, 13, 15, 23] (fun v _ _ _ _ i wr => ∃ m : Nat, m ≤ ids.length ∧ i = .int .i64 m ∧ (∃ a n c, v = .slice a n c) ∧ Hid (∃ mo n, CB lo w4 wr mo n (thr X Y Z (ids.take m)).1 v (thr X Y Z (ids.take m)).2 ∧ n ≤ m ∧ (thr X Y Z (ids.take m)).2.length ≤ 6 * m)) (fun _ _ _ _ _ i _ => ids.length - (intOf i).toNat)
  case atStart => exact ⟨0, Nat.zero_le _, rfl, ⟨_, _, _, rfl⟩, none, 0, by rw [List.take_zero]; exact CB0.out, Nat.le_refl _, by rw [List.take_zero]; exact Nat.le_refl _⟩
  case round =>
    obtain ⟨m, hm, rfl, ⟨ca, cn, cc, rfl⟩, HR⟩ := hrel
    obtain ⟨mo, n, hCB, hnm, hcl⟩ := HR.out
    clear HR
    by_cases hlt : m < ids.length
    · obtain ⟨b, rfl, hbl, hbc⟩ := HT.out m hlt
      have HSP : Hid (thr X Y Z (ids.take (m + 1)) = jAp ids[m] (thr X Y Z (ids.take m)) (jR (lkC X ids[m]) (lkC Y ids[m]) (lkC Z ids[m]))) := thr_succ X Y Z ids m hlt
      have HIM : Hid (ids[m].size ≤ 1000) := HID.out _ (List.getElem_mem hlt)
      have hm120 : m < 120 := by have := HUL.out; omega
      have cb := cb_cell hCB BK4.out hbl hbc
      generalize thr X Y Z (ids.take m) = a at hCB hcl HSP
      obtain ⟨C, cl⟩ := a
      dsimp only at hCB hcl
      have HCB : Hid (CB lo w4 wr mo n C (.slice ca cn cc) cl) := hCB
      have HCN : Hid (cn = cl.length) := by
        obtain ⟨_, _, q, _⟩ := hCB.r.cells
        injection q
      have HBR : Hid (Below lo w wr) := cb_below HLO.out HB4.out hCB
      have HNM : Hid (n ≤ m) := hnm
      have HCL : Hid (cl.length ≤ 6 * m) := hcl
      generalize ids[m] = id at cb HSP HIM
      have JC : Hid (Calls _ _ _ _ _) := JV.out id HIM.out wr HBR.out
      have HGW : Hid (∀ W, Below wr.heap.size wr W → GlobK s W ∧ GlobR W) := fun W hW => by
        have q := below_to HBR.out hW HLO.out
        rw [HLO.out] at q
        exact ⟨GG.out.1.step q, GG.out.2.step q⟩
      have QX1 : Hid (_) := QX.out id
      have QY1 : Hid (_) := QY.out id
      have QZ1 : Hid (_) := QZ.out id
      have HZR : Hid (w4.heap.size ≤ wr.heap.size) := hCB.k.size
      have HOB : Hid (∀ g, (Value.slice ca cn cc).ownBlock = some g → g < wr.heap.size) := fun g q => (World.ownsRow.lt hCB.r g q).2
      clear hCB hbc hnm hcl JV QX QY QZ
      generalize lkC X id = p1 at HSP JC QX1
      generalize lkC Y id = p2 at HSP JC QY1
      generalize lkC Z id = p3 at HSP JC QZ1
      go_upto_region 6 with (fail)
      go_cut [12, 13] (fun v12 v13 wx => ∃ (t : ByteArray) (fa : Option Addr) (fn fc : Nat), v12 = .string t ∧ v13 = .slice fa fn fc ∧ Hid (Below wr.heap.size wr wx ∧ ((fa = none ∧ fn = 0 ∧ fc = 0 ∧ Calls Tryz.prog 22 #[.pointer (some ⟨lo, 0, none⟩), .string t] wx fun r w' => PutR lo w4 n (.slice ca cn cc) cl id (jAp id (C, cl) (jR p1 p2 p3)) r w') ∨ (∃ fs : List ByteArray, fs ≠ [] ∧ fs.length ≤ 6 ∧ fn = fs.length ∧ wx.ownsRow wr.heap.size 9 1 (.slice fa fn fc) fs.length (fs.map Value.string) ∧ jAp id (C, cl) (jR p1 p2 p3) = (C, cl ++ fs.map fun f => (id, f))))))
      case first =>
        go_wp2_with fail
        go_at_call 21
        refine Calls.mono JC.out ?_
        rintro r w5 ⟨hb5, hJ⟩
        have HR5 := je_ok lo n wr.heap.size mo C p1 p2 p3 s w4 w5 (.slice ca cn cc) cl id (HGW.out w5 hb5).1 (HGW.out w5 hb5).2 (HCB.out.step hb5) (by have := HNM.out; omega) QX1.out QY1.out QZ1.out hJ
        clear hJ JC
        rcases HR5 with ⟨t, rfl, hP⟩ | ⟨fs, fv, hf0, hf6, rfl, hfr, hfe⟩
        · have HP : Hid (Calls _ _ _ _ _) := hP
          have HB5 : Hid (Below wr.heap.size wr w5) := hb5
          clear hP hb5
          go_wp2
          go_meet
          case rel => exact ⟨t, none, 0, 0, rfl, rfl, HB5.out, .inl ⟨rfl, rfl, rfl, HP.out⟩⟩
        · obtain ⟨fa, fc, rfl⟩ := own_form hfr
          have HFR : Hid (_) := hfr
          have HFE : Hid (_) := hfe
          have HF0 : Hid (fs ≠ []) := hf0
          have HB5 : Hid (Below wr.heap.size wr w5) := hb5
          clear hfr hfe hf0 hb5
          go_wp2
          go_meet
          case rel => exact ⟨_, fa, fs.length, fc, rfl, rfl, HB5.out, .inr ⟨fs, HF0.out, hf6, rfl, HFR.out, HFE.out⟩⟩
      case rest =>
        obtain ⟨t, fa, fn, fc, rfl, rfl, HX⟩ := hcut
        go_upto_region 7 with (fail)
        go_cut [43] (fun v43 wx => ∃ e : Bool, v43 = .bool e ∧ Hid ((e = false ∧ ∃ fs : List ByteArray, fn = fs.length ∧ fs.length ≤ 6 ∧ ∃ C' mo' n', CF lo w4 wx mo' n' C' (.slice ca cn cc) cl (.slice fa fn fc) fs ∧ n' ≤ n + 1 ∧ jAp id (C, cl) (jR p1 p2 p3) = (C', cl ++ fs.map fun f => (id, f))) ∨ (e = true ∧ ∃ C' mo' n', CB lo w4 wx mo' n' C' (.slice ca cn cc) cl ∧ n' ≤ n + 1 ∧ jAp id (C, cl) (jR p1 p2 p3) = (C', cl ++ [(id, allB)]))))
        case first =>
          obtain ⟨hb5, hAB⟩ := HX.out
          clear HX
          rcases hAB with ⟨rfl, rfl, rfl, hP⟩ | ⟨fs, hf0, hf6, hfn, hfr, hfe⟩
          · have HP : Hid (Calls _ _ _ _ _) := hP
            clear hP hb5
            go_wp2_with (go_at_call 22; refine Calls.mono HP.out ?_; rintro r w6 (⟨rfl, q2, mo', n', q3, q4⟩ | ⟨p, rfl, q2, mo', n', q3, q4⟩))
            · have HQ : Hid (∃ fs : List ByteArray, 0 = fs.length ∧ fs.length ≤ 6 ∧ ∃ C' mo' n', CF lo w4 w6 mo' n' C' (.slice ca cn cc) cl (.slice none 0 0) fs ∧ n' ≤ n + 1 ∧ jAp id (C, cl) (jR p1 p2 p3) = (C', cl ++ fs.map fun f => (id, f))) := ⟨[], rfl, by simp, _, mo', n', CF.nil q3, q4, Prod.ext rfl (by rw [q2]; simp)⟩
              clear q2 q3 q4 HP
              go_meet
              case rel => exact ⟨false, rfl, .inl ⟨rfl, HQ.out⟩⟩
            · have HQ : Hid (∃ C' mo' n', CB lo w4 w6 mo' n' C' (.slice ca cn cc) cl ∧ n' ≤ n + 1 ∧ jAp id (C, cl) (jR p1 p2 p3) = (C', cl ++ [(id, allB)])) := ⟨_, mo', n', q3, q4, Prod.ext rfl q2⟩
              clear q2 q3 q4 HP
              go_meet
              case rel => exact ⟨true, rfl, .inr ⟨rfl, HQ.out⟩⟩
          · have hfz : ¬ ((fn : Int) = 0) := by have := List.length_pos_iff.2 hf0; omega
            have hfz2 : ¬ (fn = 0) := by omega
            have HQ : Hid (∃ gs : List ByteArray, fn = gs.length ∧ gs.length ≤ 6 ∧ ∃ C' mo' n', CF lo w4 wc mo' n' C' (.slice ca cn cc) cl (.slice fa fn fc) gs ∧ n' ≤ n + 1 ∧ jAp id (C, cl) (jR p1 p2 p3) = (C', cl ++ gs.map fun f => (id, f))) := ⟨fs, hfn, hf6, C, mo, n, CF.of (b := wr.heap.size) (HCB.out.step hb5) HZR.out HOB.out hfr, Nat.le_succ n, hfe⟩
            clear hfr hfe hb5 hf0 hfn hf6
            go_wp2
            go_meet
            case rel => exact ⟨false, rfl, .inl ⟨rfl, HQ.out⟩⟩
        case rest =>
         obtain ⟨e, rfl, HE⟩ := hcut
         clear HX
         go_upto_if 43 with (fail)
         go_cut [13] (fun v13 wx => ∃ (fs : List ByteArray) (fa : Option Addr) (fc : Nat), v13 = .slice fa fs.length fc ∧ fs.length ≤ 6 ∧ Hid (∃ C' mo' n', CF lo w4 wx mo' n' C' (.slice ca cn cc) cl (.slice fa fs.length fc) fs ∧ n' ≤ n + 1 ∧ jAp id (C, cl) (jR p1 p2 p3) = (C', cl ++ fs.map fun f => (id, f))))
         case first =>
          cases e with
          | false =>
            have HQ : Hid (∃ fs : List ByteArray, fn = fs.length ∧ fs.length ≤ 6 ∧ ∃ C' mo' n', CF lo w4 wc mo' n' C' (.slice ca cn cc) cl (.slice fa fn fc) fs ∧ n' ≤ n + 1 ∧ jAp id (C, cl) (jR p1 p2 p3) = (C', cl ++ fs.map fun f => (id, f))) := by
              rcases HE.out with ⟨_, q⟩ | ⟨q, _⟩
              · exact q
              · cases q
            clear HE
            obtain ⟨fs, rfl, hf6, hq⟩ := HQ.out
            have HQ2 : Hid (_) := hq
            clear HQ hq
            go_wp2
            go_meet
            case rel => exact ⟨fs, fa, fc, rfl, hf6, HQ2.out⟩
          | true =>
            have hq : ∃ C' mo' n', CB lo w4 wc mo' n' C' (.slice ca cn cc) cl ∧ n' ≤ n + 1 ∧ jAp id (C, cl) (jR p1 p2 p3) = (C', cl ++ [(id, allB)]) := by
              rcases HE.out with ⟨q, _⟩ | ⟨_, q⟩
              · cases q
              · exact q
            clear HE
            obtain ⟨C', mo', n', q3, q4, q2⟩ := hq
            have HQ : Hid (∃ C' mo' n', CF lo w4 (wc.alloc (.cells #[.string ⟨#[97, 108, 108]⟩] 9)) mo' n' C' (.slice ca cn cc) cl (.slice (some ⟨wc.heap.size, 0, none⟩) 1 1) [allB] ∧ n' ≤ n + 1 ∧ jAp id (C, cl) (jR p1 p2 p3) = (C', cl ++ [allB].map fun f => (id, f))) := ⟨_, mo', n', CF.of (b := wc.heap.size) (q3.step (below_alloc _ _)) q3.k.size (fun g q => (World.ownsRow.lt q3.r g q).2) ⟨rfl, .inr ⟨wc.heap.size, 1, _, rfl, Nat.le_refl _, block_at _ rfl, Nat.le_refl _, by decide, rfl, rfl⟩⟩, q4, q2⟩
            clear q2 q3 q4
            go_wp2
            go_meet
            case rel => exact ⟨[allB], _, 1, rfl, by simp, HQ.out⟩
         case rest =>
          obtain ⟨fs, fa, fc, rfl, hf6, HF⟩ := hcut
          obtain ⟨C', mo', n', hCF, hn', hJ⟩ := HF.out
          have HSP' : Hid (thr X Y Z (ids.take (m + 1)) = (C', cl ++ fs.map fun f => (id, f))) := HSP.out.trans hJ
          have HCF : Hid (CF lo w4 wc mo' n' C' (.slice ca cn cc) (cl ++ (fs.take 0).map fun f => (id, f)) (.slice fa fs.length fc) fs) := by
            show CF _ _ _ _ _ _ _ _ _ _
            rw [List.take_zero, List.map_nil, List.append_nil]
            exact hCF
          have HN' : Hid (n' ≤ m + 1) := by have := HNM.out; show _ ≤ _; omega
          have HCLL : Hid (cl.length ≤ 720) := by have := HCL.out; show _ ≤ _; omega
          clear HF hCF hn' hJ HE HSP HNM
          go_wp2
          go_loopw [9, 15, 47] (fun v _ i wi => ∃ k : Nat, k ≤ fs.length ∧ i = .int .i64 k ∧ (∃ a n c, v = .slice a n c) ∧ Hid (CF lo w4 wi mo' n' C' v (cl ++ (fs.take k).map fun f => (id, f)) (.slice fa fs.length fc) fs)) (fun _ _ i _ => fs.length - (intOf i).toNat)
          case atStart => exact ⟨0, Nat.zero_le _, rfl, ⟨_, _, _, rfl⟩, HCF.out⟩
          case round =>
            obtain ⟨k, hk, rfl, ⟨da, dn, dc, rfl⟩, HC⟩ := hrel
            by_cases hlk : k < fs.length
            · obtain ⟨fb, rfl, cf⟩ := HC.out.cells rfl k hlk
              have HTK : Hid (fs.take (k + 1) = fs.take k ++ [fs[k]]) := List.take_succ_eq_append_getElem hlk
              generalize fs[k] = f at cf HTK
              have HL2 : Hid ((cl ++ (fs.take k).map fun f => (id, f)).length ≤ 730) := by
                show _ ≤ _
                rw [List.length_append, List.length_map, List.length_take]
                have := HCLL.out
                omega
              have HE : Hid (cl ++ (fs.take (k + 1)).map (fun f => (id, f)) = (cl ++ (fs.take k).map fun f => (id, f)) ++ [(id, f)]) := by
                show _ = _
                rw [HTK.out, List.map_append, List.append_assoc]
                rfl
              generalize cl ++ (fs.take k).map (fun f => (id, f)) = cn0 at HE HC HL2
              have NC : Hid (_) := clash_cell wr id f
              have HC3 : Hid (CF lo w4 (wr.alloc (.cells #[.string id, .string f] 35)) mo' n' C' (.slice da dn dc) cn0 (.slice (some ⟨fb, 0, none⟩) fs.length fc) fs) := HC.out.step (below_alloc _ _)
              clear HC
              go_upto_region 13 with (first
                | (at_builtin; refine wpList_append_own_at _ rfl _ _ 30 rfl w4.heap.size 35 i0 (.agg #[.string ⟨#[]⟩, .string ⟨#[]⟩]) 2 32 Tryz.underlying30 hi hz0 hz1 hz2 rfl (by decide) _ _ _ rfl HC3.out.cb.r ⟨wr.heap.size, 0, none⟩ 1 1 [.string id, .string f] rfl rfl NC.out (fun v hv => by simp only [List.mem_cons, List.not_mem_nil, or_false] at hv; rcases hv with rfl | rfl <;> rfl) (by have := HL2.out; unfold maxLen; omega) (by have := HL2.out; omega) (HC3.out.cb.k.size) ?_; intro v' w7 hown' hgrow _ hat; have HC4 : Hid (CF lo w4 w7 mo' n' C' v' (cn0 ++ [(id, f)]) (.slice (some ⟨fb, 0, none⟩) fs.length fc) fs) := HC3.out.add hown' hgrow hat; obtain ⟨g', cap', rfl⟩ := ownsRow_succ hown'; clear hown' hgrow hat)
                | go_in)
              clear HC3 NC
              go_wp2
              go_roundw
              case rel => exact ⟨k + 1, by omega, by go_num, ⟨_, _, _, rfl⟩, by rw [HE.out]; exact HC4.out⟩
              case measure => simp [intOf]; omega
            · have HCE : Hid (∃ mo n, CB lo w4 wr mo n (thr X Y Z (ids.take (m + 1))).1 (.slice da dn dc) (thr X Y Z (ids.take (m + 1))).2 ∧ n ≤ m + 1 ∧ (thr X Y Z (ids.take (m + 1))).2.length ≤ 6 * (m + 1)) := by
                have h1 := HC.out.cb
                rw [List.take_of_length_le (by omega)] at h1
                refine ⟨mo', n', ?_, HN'.out, ?_⟩
                · rw [HSP'.out]; exact h1
                · rw [HSP'.out]
                  have := HCL.out
                  show (cl ++ fs.map fun f => (id, f)).length ≤ _
                  rw [List.length_append, List.length_map]
                  omega
              clear HC
              go_wp2
              go_roundw
              case rel => exact ⟨m + 1, by omega, by go_num, ⟨_, _, _, rfl⟩, HCE.out⟩
              case measure => simp [intOf]; omega
    · rw [List.take_of_length_le (by omega)] at hCB hcl
      obtain ⟨a, ha⟩ : ∃ a, thr X Y Z ids = a := ⟨_, rfl⟩
      rw [ha] at hCB hcl
      have HA : Hid (thr X Y Z ids = a) := ha
      clear ha
      obtain ⟨C, cl⟩ := a
      dsimp only at hCB hcl
      have HBR : Hid (Below lo w wr) := cb_below HLO.out HB4.out hCB
      have HCB : Hid (CB lo w4 wr mo n C (.slice ca cn cc) cl) := hCB
      have HLS : Hid (lo ≤ w4.heap.size) := by have := HB4.out.size; have := HLO.out; show _ ≤ _; omega
      have HN : Hid (n ≤ 1000) := by have := HUL.out; show _ ≤ _; omega
      have hcn : cn = cl.length := by
        obtain ⟨_, _, q, _⟩ := hCB.r.cells
        injection q
      subst hcn
      clear hCB hcl hnm JV QX QY QZ
      by_cases h0 : cl = []
      · subst h0
        dsimp only [List.length_nil]
        go_wp2
        go_ret2
        exact ⟨HBR.out, by rw [HA.out]; exact .inl ⟨rfl, mo, n, rfl, HCB.out.b, HN.out⟩⟩
      · have hcp : 0 < cl.length := List.length_pos_iff.2 h0
        have H0 : Hid (cl ≠ []) := h0
        clear h0
        go_wp2
        go_ret2
        exact ⟨HBR.out, by rw [HA.out]; exact .inr ⟨H0.out, _, rfl, own_base HCB.out.r HLS.out⟩⟩
end Go.Proofs.YtekminpoiokgfaaGreatDoor
