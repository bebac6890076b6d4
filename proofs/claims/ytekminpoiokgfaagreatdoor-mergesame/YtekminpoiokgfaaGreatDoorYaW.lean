/- Package book's Get, whether a book has a map or none; package diff's find. -/
import Derived.Test.YtekminpoiokgfaaGreatDoorYaT
import Derived.Test.YtekminpoiokgfaaGreatDoorYaU
import Derived.Test.YtekminpoiokgfaaGreatDoorYaV
namespace Go.Proofs.YtekminpoiokgfaaGreatDoor
open Go Go.RowKit Go.Maps Go.Sort Cal
attribute [local go_sem] Oper.semAt_some

set_option maxHeartbeats 4000000 in
set_option maxRecDepth 100000 in
theorem bget_mo (bb n : Nat) (mo : Option Nat) (D : DataW Value) (id : ByteArray) (E : EV) (sl skv mvv : Value) (w : World) (h : Bok w bb mo n D) (hid : id.size ≤ 1000) (hat : D.atKey (key id) (.held zV) = .held (ev E sl skv mvv)) (hL : Ls w E sl skv mvv) (k20 : E.sk.length ≤ 20) (m20 : E.mv.length ≤ 20) :
    Calls Tryz.prog 11 #[.pointer (some ⟨bb, 0, none⟩), .string id] w fun r w' => ∃ sl' skv' mvv', r = .returned (.tuple #[ev E sl' skv' mvv', .bool (Maps.has D (key id))]) ∧ Ls w' E sl' skv' mvv' ∧ Below w.heap.size w w' := by
  have HD20 : Hid (E.ds.length ≤ 20) := by obtain ⟨_, _, _, q, _⟩ := hL.d; exact q
  have HL : Hid (Ls w E sl skv mvv) := hL
  obtain ⟨hd, hs, hm⟩ := hL
  obtain ⟨ra, rc, rfl, _⟩ := hd
  obtain ⟨sa, sc, rfl, _⟩ := hs
  obtain ⟨ma, mc, rfl, _⟩ := hm
  unfold ev at hat
  have hA := below_alloc w (.cells #[.string ⟨#[]⟩, .string ⟨#[]⟩, .int .i64 0, .int .i64 0, .string ⟨#[]⟩, .int .i64 0, .slice none 0 0, .int .i64 0, .int .i64 0, .slice none 0 0, .slice none 0 0] 44)
  have kR : (w.alloc (.cells #[.string ⟨#[]⟩, .string ⟨#[]⟩, .int .i64 0, .int .i64 0, .string ⟨#[]⟩, .int .i64 0, .slice none 0 0, .int .i64 0, .int .i64 0, .slice none 0 0, .slice none 0 0] 44)).heap[w.heap.size]? = some (.cells #[.string ⟨#[]⟩, .string ⟨#[]⟩, .int .i64 0, .int .i64 0, .string ⟨#[]⟩, .int .i64 0, .slice none 0 0, .int .i64 0, .int .i64 0, .slice none 0 0, .slice none 0 0] 44 (0, 0)) := block_at _ rfl
  have hz : (w.alloc (.cells #[.string ⟨#[]⟩, .string ⟨#[]⟩, .int .i64 0, .int .i64 0, .string ⟨#[]⟩, .int .i64 0, .slice none 0 0, .int .i64 0, .int .i64 0, .slice none 0 0, .slice none 0 0] 44)).heap.size = w.heap.size + 1 := World.size_alloc _ _
  have AL : Hid (Calls _ _ _ _ _) := all_any bb mo n D _ (h.step hA)
  have LK := look_eq (h.step hA) hid hat
  have HA : Hid (_) := hA
  have KR : Hid (_) := kR
  have HZ : Hid (_) := hz
  clear hA kR hz hat h
  unfold ev
  go_enter Tryz.func11, Tryz.ntmps11
  generalize hw0 : w.alloc (.cells #[.string ⟨#[]⟩, .string ⟨#[]⟩, .int .i64 0, .int .i64 0, .string ⟨#[]⟩, .int .i64 0, .slice none 0 0, .int .i64 0, .int .i64 0, .slice none 0 0, .slice none 0 0] 44) = w0 at AL LK HA KR HZ
  go_upto_region 2 with (first
    | (go_at_call 26; refine Calls.mono AL.out ?_; rintro r w' ⟨rfl, hq⟩; have hq := hq.symm; subst hq)
    | go_in)
  have KE : Hid (EB (w0.alloc (.cells #[.string E.id, .string E.ti, .int .i64 E.st, .int .i64 E.lg, .string E.f, .int .i64 E.e, .slice ra E.ds.length rc, .int .i64 E.c, .int .i64 E.u, .slice sa E.sk.length sc, .slice ma E.mv.length mc] 44)) w0.heap.size E (.slice ra E.ds.length rc) (.slice sa E.sk.length sc) (.slice ma E.mv.length mc)) := EB.new w0 E _ _ _
  have LE : Hid (Ls (w0.alloc (.cells #[.string E.id, .string E.ti, .int .i64 E.st, .int .i64 E.lg, .string E.f, .int .i64 E.e, .slice ra E.ds.length rc, .int .i64 E.c, .int .i64 E.u, .slice sa E.sk.length sc, .slice ma E.mv.length mc] 44)) E (.slice ra E.ds.length rc) (.slice sa E.sk.length sc) (.slice ma E.mv.length mc)) := HL.out.step (below_then HA.out (below_alloc _ _))
  have KR1 : Hid ((w0.alloc (.cells #[.string E.id, .string E.ti, .int .i64 E.st, .int .i64 E.lg, .string E.f, .int .i64 E.e, .slice ra E.ds.length rc, .int .i64 E.c, .int .i64 E.u, .slice sa E.sk.length sc, .slice ma E.mv.length mc] 44)).heap[w.heap.size]? = some (.cells #[.string ⟨#[]⟩, .string ⟨#[]⟩, .int .i64 0, .int .i64 0, .string ⟨#[]⟩, .int .i64 0, .slice none 0 0, .int .i64 0, .int .i64 0, .slice none 0 0, .slice none 0 0] 44 (0, 0))) := block_alloc _ KR.out
  have B1 : Hid (Below w.heap.size w (w0.alloc (.cells #[.string E.id, .string E.ti, .int .i64 E.st, .int .i64 E.lg, .string E.f, .int .i64 E.e, .slice ra E.ds.length rc, .int .i64 E.c, .int .i64 E.u, .slice sa E.sk.length sc, .slice ma E.mv.length mc] 44))) := below_then HA.out (below_alloc _ _)
  have hs1 : w.heap.size + 1 ≤ (w0.alloc (.cells #[.string E.id, .string E.ti, .int .i64 E.st, .int .i64 E.lg, .string E.f, .int .i64 E.e, .slice ra E.ds.length rc, .int .i64 E.c, .int .i64 E.u, .slice sa E.sk.length sc, .slice ma E.mv.length mc] 44)).heap.size := by rw [World.size_alloc, HZ.out]; omega
  clear AL LK HA KR HZ HL
  generalize w0.alloc (.cells #[.string E.id, .string E.ti, .int .i64 E.st, .int .i64 E.lg, .string E.f, .int .i64 E.e, .slice ra E.ds.length rc, .int .i64 E.c, .int .i64 E.u, .slice sa E.sk.length sc, .slice ma E.mv.length mc] 44) = w1 at KE LE KR1 B1 hs1 ⊢
  generalize w0.heap.size = be at KE ⊢
  have CP := copy_any E _ _ _ w1 LE.out k20 m20
  unfold ev at CP
  have HCP : Hid (Calls _ _ _ _ _) := CP
  clear CP LE
  obtain ⟨x0, x1, x2, x3, x4, x5, x6, x7, x8, x9, x10⟩ := blk11 (show w1.heap[be]? = _ from KE.out)
  have m8 : E.mv.length ≤ 80000 := by omega
  go_wp2_with (go_at_call 27; refine Calls.mono HCP.out ?_; rintro r w5 ⟨sl2, sk2, mv2, rfl, ho1, ho2, ho3, hb5⟩; obtain ⟨r2, rc2, rfl⟩ := ow_form ho1; obtain ⟨s2, sc2, rfl⟩ := ow_form ho2; obtain ⟨m2, mc2, rfl⟩ := gotM_form (owm_movs ho3 m8).2; have KR5 : Hid (w5.heap[w.heap.size]? = some (.cells #[.string ⟨#[]⟩, .string ⟨#[]⟩, .int .i64 0, .int .i64 0, .string ⟨#[]⟩, .int .i64 0, .slice none 0 0, .int .i64 0, .int .i64 0, .slice none 0 0, .slice none 0 0] 44 (0, 0))) := (hb5.block _ (Nat.lt_of_succ_le hs1)).trans KR1.out; obtain ⟨t0, t1, t2, t3, t4, t5, t6, t7, t8, t9, t10⟩ := blk11 KR5.out; have f0 := blk11_frozen KR5.out 0; have f1 := blk11_frozen KR5.out 1; have f2 := blk11_frozen KR5.out 2; have f3 := blk11_frozen KR5.out 3; have f4 := blk11_frozen KR5.out 4; have f5 := blk11_frozen KR5.out 5; have f6 := blk11_frozen KR5.out 6; have f7 := blk11_frozen KR5.out 7; have f8 := blk11_frozen KR5.out 8; have f9 := blk11_frozen KR5.out 9; have f10 := blk11_frozen KR5.out 10)
  rw [put11_fold]
  have n10 := put11_blk (.string E.id) (.string E.ti) (.int .i64 E.st) (.int .i64 E.lg) (.string E.f) (.int .i64 E.e) (.slice r2 E.ds.length rc2) (.int .i64 E.c) (.int .i64 E.u) (.slice s2 E.sk.length sc2) (.slice m2 E.mv.length mc2) KR5.out
  have g7 := put11_grown w5 w.heap.size (.string E.id) (.string E.ti) (.int .i64 E.st) (.int .i64 E.lg) (.string E.f) (.int .i64 E.e) (.slice r2 E.ds.length rc2) (.int .i64 E.c) (.int .i64 E.u) (.slice s2 E.sk.length sc2) (.slice m2 E.mv.length mc2)
  clear x0 x1 x2 x3 x4 x5 x6 x7 x8 x9 x10 t0 t1 t2 t3 t4 t5 t6 t7 t8 t9 t10 f0 f1 f2 f3 f4 f5 f6 f7 f8 f9 f10
  have o1 := Ow.grown ho1 g7 (by omega)
  have o2 := Ow.grown ho2 g7 (by omega)
  have o3 := OwM.grown ho3 g7 (by omega)
  generalize put11 w5 w.heap.size (.string E.id) (.string E.ti) (.int .i64 E.st) (.int .i64 E.lg) (.string E.f) (.int .i64 E.e) (.slice r2 E.ds.length rc2) (.int .i64 E.c) (.int .i64 E.u) (.slice s2 E.sk.length sc2) (.slice m2 E.mv.length mc2) = w7 at n10 g7 o1 o2 o3 ⊢
  obtain ⟨c0, c1, c2, c3, c4, c5, c6, c7, c8, c9, c10⟩ := blk11 n10
  refine bodyPost_ret (v := .tuple #[.agg #[.string E.id, .string E.ti, .int .i64 E.st, .int .i64 E.lg, .string E.f, .int .i64 E.e, .slice r2 E.ds.length rc2, .int .i64 E.c, .int .i64 E.u, .slice s2 E.sk.length sc2, .slice m2 E.mv.length mc2], .bool (Maps.has D (key id))]) (by simp [results, Tryz.f11, go_sem, c0, c1, c2, c3, c4, c5, c6, c7, c8, c9, c10]) rfl ⟨_, _, _, rfl, ⟨ow_days o1 HD20.out, ow_ints o2 (by omega), (owm_movs o3 m8).1⟩, (below_then B1.out hb5).grown g7 (below_then B1.out hb5).size (fun k q => by cases q; exact Nat.le_refl _)⟩
/-- the event that is none -/
def zE : EV := ⟨⟨#[]⟩, ⟨#[]⟩, 0, 0, ⟨#[]⟩, 0, [], 0, 0, [], []⟩
theorem get_no (lo bb n : Nat) (mo : Option Nat) (C : List EV) (id : ByteArray) (hid : id.size ≤ 1000) (hn : ¬ ∃ E ∈ C, E.id = id) (w : World) (h : BookAt lo w bb mo n C) :
    Calls Tryz.prog 11 #[.pointer (some ⟨bb, 0, none⟩), .string id] w fun r w' => ∃ sl' skv' mvv', r = .returned (.tuple #[ev zE sl' skv' mvv', .bool false]) ∧ Ls w' zE sl' skv' mvv' ∧ Below w.heap.size w w' := by
  obtain ⟨D, h1, h2, h3, h4⟩ := h
  have hh : Maps.has D (key id) = false := by
    cases hq : Maps.has D (key id) with
    | false => rfl
    | true => exact absurd ((h4.hasE id).1 hq) hn
  have := bget_mo bb n mo D id zE (.slice none 0 0) (.slice none 0 0) (.slice none 0 0) w h1 hid (Maps.atKey_of_not_has hh (.held zV)) ⟨Days.nil _ _, Ints.nil _ _, Movs.nil _ _⟩ (by decide) (by decide)
  rwa [hh] at this
end Go.Proofs.YtekminpoiokgfaaGreatDoor

/- Package diff's textOf of an event that is not there; find. -/
namespace Go.Proofs.YtekminpoiokgfaaGreatDoor
open Go Go.RowKit Go.Maps Go.Sort Cal
attribute [local go_sem] Oper.semAt_some

theorem zE_k : EvK zE 4 := .inl ⟨fun h => by have := h.2.1; exact absurd this (by decide), rfl⟩
theorem etext_no (sl skv mvv : Value) (s : Nat → Addr) (w : World) (gk : GlobK s w) (hL : Ls w zE sl skv mvv) :
    Calls Tryz.prog 41 #[ev zE sl skv mvv] w fun r w' => r = .returned (.string (bs [])) ∧ Below w.heap.size w w' := by
  obtain ⟨hd, hs, hm⟩ := hL
  have CK : Hid (∀ W, Below w.heap.size w W → Calls _ _ _ W _) := fun W hW => evCheck_k zE sl skv mvv 4 s W (gk.step hW) (hd.step hW) (hs.step hW) (hm.step hW) (by decide) (by decide) zE_k
  obtain ⟨p, hp⟩ := errV_ne (s := s) (k := 4) (by decide)
  rw [hp] at CK
  clear hp
  obtain ⟨ra, rc, rfl, _⟩ := hd
  obtain ⟨sa, sc, rfl, _⟩ := hs
  obtain ⟨ma, mc, rfl, _⟩ := hm
  unfold ev zE at CK ⊢
  dsimp only at CK ⊢
  go_enter Tryz.func41, Tryz.ntmps41
  go_wp2_with (go_at_call 30; refine Calls.mono (CK.out _ (below_alloc _ _)) ?_; rintro r w1 ⟨rfl, hb1⟩)
  go_ret
  exact ⟨rfl, below_then (below_alloc _ _) hb1⟩
end Go.Proofs.YtekminpoiokgfaaGreatDoor

/- Package book's Get, with the skips as a list that was handed over (written by wip/gen/mkMgK.py out of BoM, BpE). -/
namespace Go.Proofs.YtekminpoiokgfaaGreatDoor
open Go Go.RowKit Go.Maps Cal
attribute [local go_sem] Oper.semAt_some

set_option maxHeartbeats 4000000 in
set_option maxRecDepth 100000 in
/-- Get of an event that is there (or of the zero event where it is not) -/
theorem bgetG_any (bb mb n : Nat) (D : DataW Value) (id : ByteArray) (E : EV) (sl skv mvv : Value) (w : World) (h : Bok w bb (some mb) n D) (hid : id.size ≤ 1000) (hat : D.atKey (key id) (.held zV) = .held (ev E sl skv mvv)) (hL : Ls w E sl skv mvv) (k20 : E.sk.length ≤ 20) (m20 : E.mv.length ≤ 20) :
    Calls Tryz.prog 11 #[.pointer (some ⟨bb, 0, none⟩), .string id] w fun r w' => ∃ sl' skv' mvv', r = .returned (.tuple #[ev E sl' skv' mvv', .bool (Maps.has D (key id))]) ∧ Ls w' E sl' skv' mvv' ∧ Got w' skv' E.sk ∧ Below w.heap.size w w' := by
  have HD20 : Hid (E.ds.length ≤ 20) := by obtain ⟨_, _, _, q, _⟩ := hL.d; exact q
  have HL : Hid (Ls w E sl skv mvv) := hL
  obtain ⟨hd, hs, hm⟩ := hL
  obtain ⟨ra, rc, rfl, _⟩ := hd
  obtain ⟨sa, sc, rfl, _⟩ := hs
  obtain ⟨ma, mc, rfl, _⟩ := hm
  unfold ev at hat
  have hA := below_alloc w (.cells #[.string ⟨#[]⟩, .string ⟨#[]⟩, .int .i64 0, .int .i64 0, .string ⟨#[]⟩, .int .i64 0, .slice none 0 0, .int .i64 0, .int .i64 0, .slice none 0 0, .slice none 0 0] 44)
  have kR : (w.alloc (.cells #[.string ⟨#[]⟩, .string ⟨#[]⟩, .int .i64 0, .int .i64 0, .string ⟨#[]⟩, .int .i64 0, .slice none 0 0, .int .i64 0, .int .i64 0, .slice none 0 0, .slice none 0 0] 44)).heap[w.heap.size]? = some (.cells #[.string ⟨#[]⟩, .string ⟨#[]⟩, .int .i64 0, .int .i64 0, .string ⟨#[]⟩, .int .i64 0, .slice none 0 0, .int .i64 0, .int .i64 0, .slice none 0 0, .slice none 0 0] 44 (0, 0)) := block_at _ rfl
  have hz : (w.alloc (.cells #[.string ⟨#[]⟩, .string ⟨#[]⟩, .int .i64 0, .int .i64 0, .string ⟨#[]⟩, .int .i64 0, .slice none 0 0, .int .i64 0, .int .i64 0, .slice none 0 0, .slice none 0 0] 44)).heap.size = w.heap.size + 1 := World.size_alloc _ _
  have AL : Hid (Calls _ _ _ _ _) := all_any bb (some mb) n D _ (h.step hA)
  have HO : Hid (World.ownsMap _ _ _ _ _ _ _) := (h.step hA).2.2
  have HAT : Hid (D.atKey (key id) (.held zV) = .held (.agg #[.string E.id, .string E.ti, .int .i64 E.st, .int .i64 E.lg, .string E.f, .int .i64 E.e, .slice ra E.ds.length rc, .int .i64 E.c, .int .i64 E.u, .slice sa E.sk.length sc, .slice ma E.mv.length mc])) := hat
  have HKY : Hid (keyOf Tryz.prog 9 (.string id) = some (key id)) := key_of hid
  have HA : Hid (_) := hA
  have KR : Hid (_) := kR
  have HZ : Hid (_) := hz
  clear hA kR hz hat h
  unfold ev
  go_enter Tryz.func11, Tryz.ntmps11
  generalize hw0 : w.alloc (.cells #[.string ⟨#[]⟩, .string ⟨#[]⟩, .int .i64 0, .int .i64 0, .string ⟨#[]⟩, .int .i64 0, .slice none 0 0, .int .i64 0, .int .i64 0, .slice none 0 0, .slice none 0 0] 44) = w0 at AL HO HA KR HZ
  go_upto_region 2 with (first
    | (go_at_call 26; refine Calls.mono AL.out ?_; rintro r w' ⟨rfl, hq⟩; have hq := hq.symm; subst hq)
    | (at_lookup; refine wpList_lookup_held _ rfl _ _ rfl mb n D rfl HO.out _ (key id) rfl HKY.out _ HAT.out ?_)
    | go_in)
  have KE : Hid (EB (w0.alloc (.cells #[.string E.id, .string E.ti, .int .i64 E.st, .int .i64 E.lg, .string E.f, .int .i64 E.e, .slice ra E.ds.length rc, .int .i64 E.c, .int .i64 E.u, .slice sa E.sk.length sc, .slice ma E.mv.length mc] 44)) w0.heap.size E (.slice ra E.ds.length rc) (.slice sa E.sk.length sc) (.slice ma E.mv.length mc)) := EB.new w0 E _ _ _
  have LE : Hid (Ls (w0.alloc (.cells #[.string E.id, .string E.ti, .int .i64 E.st, .int .i64 E.lg, .string E.f, .int .i64 E.e, .slice ra E.ds.length rc, .int .i64 E.c, .int .i64 E.u, .slice sa E.sk.length sc, .slice ma E.mv.length mc] 44)) E (.slice ra E.ds.length rc) (.slice sa E.sk.length sc) (.slice ma E.mv.length mc)) := HL.out.step (below_then HA.out (below_alloc _ _))
  have KR1 : Hid ((w0.alloc (.cells #[.string E.id, .string E.ti, .int .i64 E.st, .int .i64 E.lg, .string E.f, .int .i64 E.e, .slice ra E.ds.length rc, .int .i64 E.c, .int .i64 E.u, .slice sa E.sk.length sc, .slice ma E.mv.length mc] 44)).heap[w.heap.size]? = some (.cells #[.string ⟨#[]⟩, .string ⟨#[]⟩, .int .i64 0, .int .i64 0, .string ⟨#[]⟩, .int .i64 0, .slice none 0 0, .int .i64 0, .int .i64 0, .slice none 0 0, .slice none 0 0] 44 (0, 0))) := block_alloc _ KR.out
  have B1 : Hid (Below w.heap.size w (w0.alloc (.cells #[.string E.id, .string E.ti, .int .i64 E.st, .int .i64 E.lg, .string E.f, .int .i64 E.e, .slice ra E.ds.length rc, .int .i64 E.c, .int .i64 E.u, .slice sa E.sk.length sc, .slice ma E.mv.length mc] 44))) := below_then HA.out (below_alloc _ _)
  have hs1 : w.heap.size + 1 ≤ (w0.alloc (.cells #[.string E.id, .string E.ti, .int .i64 E.st, .int .i64 E.lg, .string E.f, .int .i64 E.e, .slice ra E.ds.length rc, .int .i64 E.c, .int .i64 E.u, .slice sa E.sk.length sc, .slice ma E.mv.length mc] 44)).heap.size := by rw [World.size_alloc, HZ.out]; omega
  clear AL HO HAT HKY HA KR HZ HL
  generalize w0.alloc (.cells #[.string E.id, .string E.ti, .int .i64 E.st, .int .i64 E.lg, .string E.f, .int .i64 E.e, .slice ra E.ds.length rc, .int .i64 E.c, .int .i64 E.u, .slice sa E.sk.length sc, .slice ma E.mv.length mc] 44) = w1 at KE LE KR1 B1 hs1 ⊢
  generalize w0.heap.size = be at KE ⊢
  have CP := copy_any E _ _ _ w1 LE.out k20 m20
  unfold ev at CP
  have HCP : Hid (Calls _ _ _ _ _) := CP
  clear CP LE
  obtain ⟨x0, x1, x2, x3, x4, x5, x6, x7, x8, x9, x10⟩ := blk11 (show w1.heap[be]? = _ from KE.out)
  have m8 : E.mv.length ≤ 80000 := by omega
  go_wp2_with (go_at_call 27; refine Calls.mono HCP.out ?_; rintro r w5 ⟨sl2, sk2, mv2, rfl, ho1, ho2, ho3, hb5⟩; obtain ⟨r2, rc2, rfl⟩ := ow_form ho1; obtain ⟨s2, sc2, rfl⟩ := ow_form ho2; obtain ⟨m2, mc2, rfl⟩ := gotM_form (owm_movs ho3 m8).2; have KR5 : Hid (w5.heap[w.heap.size]? = some (.cells #[.string ⟨#[]⟩, .string ⟨#[]⟩, .int .i64 0, .int .i64 0, .string ⟨#[]⟩, .int .i64 0, .slice none 0 0, .int .i64 0, .int .i64 0, .slice none 0 0, .slice none 0 0] 44 (0, 0))) := (hb5.block _ (Nat.lt_of_succ_le hs1)).trans KR1.out; obtain ⟨t0, t1, t2, t3, t4, t5, t6, t7, t8, t9, t10⟩ := blk11 KR5.out; have f0 := blk11_frozen KR5.out 0; have f1 := blk11_frozen KR5.out 1; have f2 := blk11_frozen KR5.out 2; have f3 := blk11_frozen KR5.out 3; have f4 := blk11_frozen KR5.out 4; have f5 := blk11_frozen KR5.out 5; have f6 := blk11_frozen KR5.out 6; have f7 := blk11_frozen KR5.out 7; have f8 := blk11_frozen KR5.out 8; have f9 := blk11_frozen KR5.out 9; have f10 := blk11_frozen KR5.out 10)
  rw [put11_fold]
  have n10 := put11_blk (.string E.id) (.string E.ti) (.int .i64 E.st) (.int .i64 E.lg) (.string E.f) (.int .i64 E.e) (.slice r2 E.ds.length rc2) (.int .i64 E.c) (.int .i64 E.u) (.slice s2 E.sk.length sc2) (.slice m2 E.mv.length mc2) KR5.out
  have g7 := put11_grown w5 w.heap.size (.string E.id) (.string E.ti) (.int .i64 E.st) (.int .i64 E.lg) (.string E.f) (.int .i64 E.e) (.slice r2 E.ds.length rc2) (.int .i64 E.c) (.int .i64 E.u) (.slice s2 E.sk.length sc2) (.slice m2 E.mv.length mc2)
  clear x0 x1 x2 x3 x4 x5 x6 x7 x8 x9 x10 t0 t1 t2 t3 t4 t5 t6 t7 t8 t9 t10 f0 f1 f2 f3 f4 f5 f6 f7 f8 f9 f10
  have o1 := Ow.grown ho1 g7 (by omega)
  have o2 := Ow.grown ho2 g7 (by omega)
  have o3 := OwM.grown ho3 g7 (by omega)
  generalize put11 w5 w.heap.size (.string E.id) (.string E.ti) (.int .i64 E.st) (.int .i64 E.lg) (.string E.f) (.int .i64 E.e) (.slice r2 E.ds.length rc2) (.int .i64 E.c) (.int .i64 E.u) (.slice s2 E.sk.length sc2) (.slice m2 E.mv.length mc2) = w7 at n10 g7 o1 o2 o3 ⊢
  obtain ⟨c0, c1, c2, c3, c4, c5, c6, c7, c8, c9, c10⟩ := blk11 n10
  refine bodyPost_ret (v := .tuple #[.agg #[.string E.id, .string E.ti, .int .i64 E.st, .int .i64 E.lg, .string E.f, .int .i64 E.e, .slice r2 E.ds.length rc2, .int .i64 E.c, .int .i64 E.u, .slice s2 E.sk.length sc2, .slice m2 E.mv.length mc2], .bool (Maps.has D (key id))]) (by simp [results, Tryz.f11, go_sem, c0, c1, c2, c3, c4, c5, c6, c7, c8, c9, c10]) rfl ⟨_, _, _, rfl, ⟨ow_days o1 HD20.out, ow_ints o2 (by omega), (owm_movs o3 m8).1⟩, ow_got o2, (below_then B1.out hb5).grown g7 (below_then B1.out hb5).size (fun k q => by cases q; exact Nat.le_refl _)⟩

theorem getG_C (lo bb n : Nat) (mo : Option Nat) (C : List EV) (E : EV) (hE : E ∈ C) (w : World) (h : BookAt lo w bb mo n C) :
    Calls Tryz.prog 11 #[.pointer (some ⟨bb, 0, none⟩), .string E.id] w fun r w' => ∃ sl' skv' mvv', r = .returned (.tuple #[ev E sl' skv' mvv', .bool true]) ∧ Ls w' E sl' skv' mvv' ∧ Got w' skv' E.sk ∧ Below w.heap.size w w' := by
  obtain ⟨D, h1, h2, h3, h4⟩ := h
  obtain ⟨⟨hw, h20⟩, sl, skv, mvv, q1, q2⟩ := h4.at_ E hE
  obtain ⟨i12, t40, k20, m20⟩ := ew_bd hw
  have hh := (h4.hasE E.id).2 ⟨E, hE, rfl⟩
  cases mo with
  | none =>
    have hD : D = .map [] := h1.2
    rw [hD] at hh
    cases hh
  | some mb =>
    have := bgetG_any bb mb n D E.id E sl skv mvv w h1 (by omega) q1 (q2.ls h20) k20 m20
    rwa [hh] at this
end Go.Proofs.YtekminpoiokgfaaGreatDoor

/- Package merge's joinEvent: what an event of three calendars becomes (written by wip/gen/mkMgL.py). -/
namespace Go.Proofs.YtekminpoiokgfaaGreatDoor
open Go Go.RowKit Go.Maps Go.Sort Cal
attribute [local go_sem] Oper.semAt_some

/-- the event of an ID, and its text: empty where there is none -/
def lkC (C : List EV) (id : ByteArray) : Option EV := C.find? fun E => decide (E.id = id)
noncomputable def eOp (o : Option EV) : ByteArray := match o with
  | some E => bs (eT E)
  | none => ⟨#[]⟩
theorem lkC_some {C : List EV} {id : ByteArray} {E : EV} (h : lkC C id = some E) : E ∈ C ∧ E.id = id := by
  unfold lkC at h
  exact ⟨List.mem_of_find?_eq_some h, by simpa using List.find?_some h⟩
theorem lkC_none {C : List EV} {id : ByteArray} (h : lkC C id = none) : ¬ ∃ E ∈ C, E.id = id := by
  unfold lkC at h
  rintro ⟨E, hE, q⟩
  have := List.find?_eq_none.1 h E hE
  simp [q] at this
theorem getO_C (lo bb n : Nat) (mo : Option Nat) (C : List EV) (id : ByteArray) (hid : id.size ≤ 1000) (w : World) (h : BookAt lo w bb mo n C) :
    Calls Tryz.prog 11 #[.pointer (some ⟨bb, 0, none⟩), .string id] w fun r w' => ∃ sl skv mvv, r = .returned (.tuple #[ev ((lkC C id).getD zE) sl skv mvv, .bool (lkC C id).isSome]) ∧ Ls w' ((lkC C id).getD zE) sl skv mvv ∧ ((lkC C id).isSome = true → Got w' skv ((lkC C id).getD zE).sk) ∧ Below w.heap.size w w' := by
  cases hq : lkC C id with
  | none =>
    refine (get_no lo bb n mo C id hid (lkC_none hq) w h).mono ?_
    rintro r w' ⟨sl, skv, mvv, rfl, hL, hb⟩
    exact ⟨sl, skv, mvv, rfl, hL, (fun q => by cases q), hb⟩
  | some E =>
    obtain ⟨hE, rfl⟩ := lkC_some hq
    refine (getG_C lo bb n mo C E hE w h).mono ?_
    rintro r w' ⟨sl, skv, mvv, rfl, hL, hg, hb⟩
    exact ⟨sl, skv, mvv, rfl, hL, (fun _ => hg), hb⟩
theorem textO_C (o : Option EV) (sl skv mvv : Value) (s : Nat → Addr) (w : World) (gk : GlobK s w) (g : GlobR w) (hL : Ls w (o.getD zE) sl skv mvv) (hw : ∀ E, o = some E → EW E) :
    Calls Tryz.prog 41 #[ev (o.getD zE) sl skv mvv] w fun r w' => r = .returned (.string (eOp o)) ∧ Below w.heap.size w w' := by
  cases o with
  | none => exact etext_no sl skv mvv s w gk hL
  | some E => exact etext_any E sl skv mvv s w gk g hL.d hL.s hL.m (hw E rfl)
end Go.Proofs.YtekminpoiokgfaaGreatDoor
