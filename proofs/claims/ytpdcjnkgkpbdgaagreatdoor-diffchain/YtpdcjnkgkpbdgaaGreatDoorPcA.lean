/- Package diff's textOf and find: a field of an event, or all of it, as a change names it. -/
import Derived.Test.YtpdcjnkgkpbdgaaGreatDoorPaH
import Derived.Test.YtpdcjnkgkpbdgaaGreatDoorPcG
import Derived.Test.YtpdcjnkgkpbdgaaGreatDoorPaK
namespace Go.Proofs.YtpdcjnkgkpbdgaaGreatDoor
open Go Go.RowKit Go.Maps Go.Sort Cal
attribute [local go_sem] Oper.semAt_some

/-- the name of the whole event -/
def allW : ByteArray := ⟨#[97, 108, 108]⟩
/-- field k of the fields' names, or (6) all of an event -/
def fieldB : Nat → ByteArray
  | 6 => allW
  | k => fldB k
/-- an event's text in a field, or (6) all of it -/
noncomputable def cT (E : EV) : Nat → List UInt8
  | 6 => eT E
  | k => fT E k

theorem fld_all (k : Nat) (hk : k < 6) : ((fldB k).toList == [97, 108, 108]) = false := by
  rw [ByteArray.toList_eq]
  match k, hk with
  | 0, _ => rfl
  | 1, _ => rfl
  | 2, _ => rfl
  | 3, _ => rfl
  | 4, _ => rfl
  | 5, _ => rfl
theorem textOf_field (E : EV) (sl skv mvv : Value) (k : Nat) (hk : k < 6) (w : World) (g : GlobR w) (hL : Ls w E sl skv mvv) (hw : EW E) :
    Calls Tryz.prog 127 #[ev E sl skv mvv, .string (fldB k)] w fun r w' => r = .returned (.string (bs (fT E k))) ∧ Below w.heap.size w w' := by
  obtain ⟨hd, hs, hm⟩ := hL
  have H : Hid (∀ W, Below w.heap.size w W → Calls _ _ _ W _) := fun W hW => get_any E sl skv mvv k hk W (g.step hW) (hd.step hW) (hs.step hW) (hm.step hW) hw
  have hne := fld_all k hk
  obtain ⟨ra, rc, rfl, _⟩ := hd
  obtain ⟨sa, sc, rfl, _⟩ := hs
  obtain ⟨ma, mc, rfl, _⟩ := hm
  clear hw
  generalize fT E k = t at *
  generalize fldB k = f at *
  obtain ⟨idn, ti, st, lg, f', e, ds, c, u, sk, mv⟩ := E
  unfold ev at H ⊢
  dsimp only at H ⊢
  go_enter Tryz.func127, Tryz.ntmps127
  go_wp2_with (first
    | rw [hne]
    | (go_at_call 24; refine Calls.mono (H.out _ (below_alloc _ _)) ?_; rintro r w1 ⟨rfl, hb1⟩))
  go_ret
  exact ⟨rfl, below_then (below_alloc _ _) hb1⟩
theorem textOf_all (E : EV) (sl skv mvv : Value) (s : Nat → Addr) (w : World) (gk : GlobK s w) (g : GlobR w) (hL : Ls w E sl skv mvv) (hw : EW E) :
    Calls Tryz.prog 127 #[ev E sl skv mvv, .string allW] w fun r w' => r = .returned (.string (bs (eT E))) ∧ Below w.heap.size w w' := by
  obtain ⟨hd, hs, hm⟩ := hL
  have H : Hid (∀ W, Below w.heap.size w W → Calls _ _ _ W _) := fun W hW => etext_any E sl skv mvv s W (gk.step hW) (g.step hW) (hd.step hW) (hs.step hW) (hm.step hW) hw
  obtain ⟨ra, rc, rfl, _⟩ := hd
  obtain ⟨sa, sc, rfl, _⟩ := hs
  obtain ⟨ma, mc, rfl, _⟩ := hm
  clear hw
  generalize eT E = t at *
  obtain ⟨idn, ti, st, lg, f', e, ds, c, u, sk, mv⟩ := E
  unfold ev at H ⊢
  unfold allW
  dsimp only at H ⊢
  go_enter Tryz.func127, Tryz.ntmps127
  go_wp2_with (go_at_call 20; refine Calls.mono (H.out _ (below_alloc _ _)) ?_; rintro r w1 ⟨rfl, hb1⟩)
  go_ret
  exact ⟨rfl, below_then (below_alloc _ _) hb1⟩
theorem textOf_any (E : EV) (sl skv mvv : Value) (k : Nat) (hk : k < 7) (s : Nat → Addr) (w : World) (gk : GlobK s w) (g : GlobR w) (hL : Ls w E sl skv mvv) (hw : EW E) :
    Calls Tryz.prog 127 #[ev E sl skv mvv, .string (fieldB k)] w fun r w' => r = .returned (.string (bs (cT E k))) ∧ Below w.heap.size w w' := by
  match k, hk with
  | 0, _ => exact textOf_field E sl skv mvv 0 (by omega) w g hL hw
  | 1, _ => exact textOf_field E sl skv mvv 1 (by omega) w g hL hw
  | 2, _ => exact textOf_field E sl skv mvv 2 (by omega) w g hL hw
  | 3, _ => exact textOf_field E sl skv mvv 3 (by omega) w g hL hw
  | 4, _ => exact textOf_field E sl skv mvv 4 (by omega) w g hL hw
  | 5, _ => exact textOf_field E sl skv mvv 5 (by omega) w g hL hw
  | 6, _ => exact textOf_all E sl skv mvv s w gk g hL hw
end Go.Proofs.YtpdcjnkgkpbdgaaGreatDoor

/- Package book's Get, whether a book has a map or none; package diff's find. -/
namespace Go.Proofs.YtpdcjnkgkpbdgaaGreatDoor
open Go Go.RowKit Go.Maps Go.Sort Cal
attribute [local go_sem] Oper.semAt_some

set_option maxHeartbeats 4000000 in
set_option maxRecDepth 100000 in
theorem bget_mo (bb n : Nat) (mo : Option Nat) (D : DataW Value) (id : ByteArray) (E : EV) (sl skv mvv : Value) (w : World) (h : Bok w bb mo n D) (hid : id.size ≤ 1000) (hat : D.atKey (key id) (.held zV) = .held (ev E sl skv mvv)) (hL : Ls w E sl skv mvv) (k20 : E.sk.length ≤ 20) (m20 : E.mv.length ≤ 20) :
    Calls Tryz.prog 33 #[.pointer (some ⟨bb, 0, none⟩), .string id] w fun r w' => ∃ sl' skv' mvv', r = .returned (.tuple #[ev E sl' skv' mvv', .bool (Maps.has D (key id))]) ∧ Ls w' E sl' skv' mvv' ∧ Below w.heap.size w w' := by
  have HD20 : Hid (E.ds.length ≤ 20) := by obtain ⟨_, _, _, q, _⟩ := hL.d; exact q
  have HL : Hid (Ls w E sl skv mvv) := hL
  obtain ⟨hd, hs, hm⟩ := hL
  obtain ⟨ra, rc, rfl, _⟩ := hd
  obtain ⟨sa, sc, rfl, _⟩ := hs
  obtain ⟨ma, mc, rfl, _⟩ := hm
  unfold ev at hat
  have hA := below_alloc w (.cells #[.string ⟨#[]⟩, .string ⟨#[]⟩, .int .i64 0, .int .i64 0, .string ⟨#[]⟩, .int .i64 0, .slice none 0 0, .int .i64 0, .int .i64 0, .slice none 0 0, .slice none 0 0] 37)
  have kR : (w.alloc (.cells #[.string ⟨#[]⟩, .string ⟨#[]⟩, .int .i64 0, .int .i64 0, .string ⟨#[]⟩, .int .i64 0, .slice none 0 0, .int .i64 0, .int .i64 0, .slice none 0 0, .slice none 0 0] 37)).heap[w.heap.size]? = some (.cells #[.string ⟨#[]⟩, .string ⟨#[]⟩, .int .i64 0, .int .i64 0, .string ⟨#[]⟩, .int .i64 0, .slice none 0 0, .int .i64 0, .int .i64 0, .slice none 0 0, .slice none 0 0] 37 (0, 0)) := block_at _ rfl
  have hz : (w.alloc (.cells #[.string ⟨#[]⟩, .string ⟨#[]⟩, .int .i64 0, .int .i64 0, .string ⟨#[]⟩, .int .i64 0, .slice none 0 0, .int .i64 0, .int .i64 0, .slice none 0 0, .slice none 0 0] 37)).heap.size = w.heap.size + 1 := World.size_alloc _ _
  have AL : Hid (Calls _ _ _ _ _) := all_any bb mo n D _ (h.step hA)
  have LK := look_eq (h.step hA) hid hat
  have HA : Hid (_) := hA
  have KR : Hid (_) := kR
  have HZ : Hid (_) := hz
  clear hA kR hz hat h
  unfold ev
  go_enter Tryz.func33, Tryz.ntmps33
  generalize hw0 : w.alloc (.cells #[.string ⟨#[]⟩, .string ⟨#[]⟩, .int .i64 0, .int .i64 0, .string ⟨#[]⟩, .int .i64 0, .slice none 0 0, .int .i64 0, .int .i64 0, .slice none 0 0, .slice none 0 0] 37) = w0 at AL LK HA KR HZ
  go_upto_region 2 with (first
    | (go_at_call 71; refine Calls.mono AL.out ?_; rintro r w' ⟨rfl, hq⟩; have hq := hq.symm; subst hq)
    | go_in)
  have KE : Hid (EB (w0.alloc (.cells #[.string E.id, .string E.ti, .int .i64 E.st, .int .i64 E.lg, .string E.f, .int .i64 E.e, .slice ra E.ds.length rc, .int .i64 E.c, .int .i64 E.u, .slice sa E.sk.length sc, .slice ma E.mv.length mc] 37)) w0.heap.size E (.slice ra E.ds.length rc) (.slice sa E.sk.length sc) (.slice ma E.mv.length mc)) := EB.new w0 E _ _ _
  have LE : Hid (Ls (w0.alloc (.cells #[.string E.id, .string E.ti, .int .i64 E.st, .int .i64 E.lg, .string E.f, .int .i64 E.e, .slice ra E.ds.length rc, .int .i64 E.c, .int .i64 E.u, .slice sa E.sk.length sc, .slice ma E.mv.length mc] 37)) E (.slice ra E.ds.length rc) (.slice sa E.sk.length sc) (.slice ma E.mv.length mc)) := HL.out.step (below_then HA.out (below_alloc _ _))
  have KR1 : Hid ((w0.alloc (.cells #[.string E.id, .string E.ti, .int .i64 E.st, .int .i64 E.lg, .string E.f, .int .i64 E.e, .slice ra E.ds.length rc, .int .i64 E.c, .int .i64 E.u, .slice sa E.sk.length sc, .slice ma E.mv.length mc] 37)).heap[w.heap.size]? = some (.cells #[.string ⟨#[]⟩, .string ⟨#[]⟩, .int .i64 0, .int .i64 0, .string ⟨#[]⟩, .int .i64 0, .slice none 0 0, .int .i64 0, .int .i64 0, .slice none 0 0, .slice none 0 0] 37 (0, 0))) := block_alloc _ KR.out
  have B1 : Hid (Below w.heap.size w (w0.alloc (.cells #[.string E.id, .string E.ti, .int .i64 E.st, .int .i64 E.lg, .string E.f, .int .i64 E.e, .slice ra E.ds.length rc, .int .i64 E.c, .int .i64 E.u, .slice sa E.sk.length sc, .slice ma E.mv.length mc] 37))) := below_then HA.out (below_alloc _ _)
  have hs1 : w.heap.size + 1 ≤ (w0.alloc (.cells #[.string E.id, .string E.ti, .int .i64 E.st, .int .i64 E.lg, .string E.f, .int .i64 E.e, .slice ra E.ds.length rc, .int .i64 E.c, .int .i64 E.u, .slice sa E.sk.length sc, .slice ma E.mv.length mc] 37)).heap.size := by rw [World.size_alloc, HZ.out]; omega
  clear AL LK HA KR HZ HL
  generalize w0.alloc (.cells #[.string E.id, .string E.ti, .int .i64 E.st, .int .i64 E.lg, .string E.f, .int .i64 E.e, .slice ra E.ds.length rc, .int .i64 E.c, .int .i64 E.u, .slice sa E.sk.length sc, .slice ma E.mv.length mc] 37) = w1 at KE LE KR1 B1 hs1 ⊢
  generalize w0.heap.size = be at KE ⊢
  have CP := copy_any E _ _ _ w1 LE.out k20 m20
  unfold ev at CP
  have HCP : Hid (Calls _ _ _ _ _) := CP
  clear CP LE
  obtain ⟨x0, x1, x2, x3, x4, x5, x6, x7, x8, x9, x10⟩ := blk11 (show w1.heap[be]? = _ from KE.out)
  have m8 : E.mv.length ≤ 80000 := by omega
  go_wp2_with (go_at_call 63; refine Calls.mono HCP.out ?_; rintro r w5 ⟨sl2, sk2, mv2, rfl, ho1, ho2, ho3, hb5⟩; obtain ⟨r2, rc2, rfl⟩ := ow_form ho1; obtain ⟨s2, sc2, rfl⟩ := ow_form ho2; obtain ⟨m2, mc2, rfl⟩ := gotM_form (owm_movs ho3 m8).2; have KR5 : Hid (w5.heap[w.heap.size]? = some (.cells #[.string ⟨#[]⟩, .string ⟨#[]⟩, .int .i64 0, .int .i64 0, .string ⟨#[]⟩, .int .i64 0, .slice none 0 0, .int .i64 0, .int .i64 0, .slice none 0 0, .slice none 0 0] 37 (0, 0))) := (hb5.block _ (Nat.lt_of_succ_le hs1)).trans KR1.out; obtain ⟨t0, t1, t2, t3, t4, t5, t6, t7, t8, t9, t10⟩ := blk11 KR5.out; have f0 := blk11_frozen KR5.out 0; have f1 := blk11_frozen KR5.out 1; have f2 := blk11_frozen KR5.out 2; have f3 := blk11_frozen KR5.out 3; have f4 := blk11_frozen KR5.out 4; have f5 := blk11_frozen KR5.out 5; have f6 := blk11_frozen KR5.out 6; have f7 := blk11_frozen KR5.out 7; have f8 := blk11_frozen KR5.out 8; have f9 := blk11_frozen KR5.out 9; have f10 := blk11_frozen KR5.out 10)
  rw [put11_fold]
  have n10 := put11_blk (.string E.id) (.string E.ti) (.int .i64 E.st) (.int .i64 E.lg) (.string E.f) (.int .i64 E.e) (.slice r2 E.ds.length rc2) (.int .i64 E.c) (.int .i64 E.u) (.slice s2 E.sk.length sc2) (.slice m2 E.mv.length mc2) KR5.out
  have g7 := put11_grown w5 w.heap.size (.string E.id) (.string E.ti) (.int .i64 E.st) (.int .i64 E.lg) (.string E.f) (.int .i64 E.e) (.slice r2 E.ds.length rc2) (.int .i64 E.c) (.int .i64 E.u) (.slice s2 E.sk.length sc2) (.slice m2 E.mv.length mc2)
  clear x0 x1 x2 x3 x4 x5 x6 x7 x8 x9 x10 t0 t1 t2 t3 t4 t5 t6 t7 t8 t9 t10 f0 f1 f2 f3 f4 f5 f6 f7 f8 f9 f10
  have o1 := Ow.grown ho1 g7 (by omega)
  have o2 := Ow.grown ho2 g7 (by omega)
  have o3 := OwM.grown ho3 g7 (by omega)
  generalize put11 w5 w.heap.size (.string E.id) (.string E.ti) (.int .i64 E.st) (.int .i64 E.lg) (.string E.f) (.int .i64 E.e) (.slice r2 E.ds.length rc2) (.int .i64 E.c) (.int .i64 E.u) (.slice s2 E.sk.length sc2) (.slice m2 E.mv.length mc2) = w7 at n10 g7 o1 o2 o3 ⊢
  obtain ⟨c0, c1, c2, c3, c4, c5, c6, c7, c8, c9, c10⟩ := blk11 n10
  refine bodyPost_ret (v := .tuple #[.agg #[.string E.id, .string E.ti, .int .i64 E.st, .int .i64 E.lg, .string E.f, .int .i64 E.e, .slice r2 E.ds.length rc2, .int .i64 E.c, .int .i64 E.u, .slice s2 E.sk.length sc2, .slice m2 E.mv.length mc2], .bool (Maps.has D (key id))]) (by simp [results, Tryz.f33, go_sem, c0, c1, c2, c3, c4, c5, c6, c7, c8, c9, c10]) rfl ⟨_, _, _, rfl, ⟨ow_days o1 HD20.out, ow_ints o2 (by omega), (owm_movs o3 m8).1⟩, (below_then B1.out hb5).grown g7 (below_then B1.out hb5).size (fun k q => by cases q; exact Nat.le_refl _)⟩
/-- the event that is none -/
def zE : EV := ⟨⟨#[]⟩, ⟨#[]⟩, 0, 0, ⟨#[]⟩, 0, [], 0, 0, [], []⟩
theorem get_no (lo bb n : Nat) (mo : Option Nat) (C : List EV) (id : ByteArray) (hid : id.size ≤ 1000) (hn : ¬ ∃ E ∈ C, E.id = id) (w : World) (h : BookAt lo w bb mo n C) :
    Calls Tryz.prog 33 #[.pointer (some ⟨bb, 0, none⟩), .string id] w fun r w' => ∃ sl' skv' mvv', r = .returned (.tuple #[ev zE sl' skv' mvv', .bool false]) ∧ Ls w' zE sl' skv' mvv' ∧ Below w.heap.size w w' := by
  obtain ⟨D, h1, h2, h3, h4⟩ := h
  have hh : Maps.has D (key id) = false := by
    cases hq : Maps.has D (key id) with
    | false => rfl
    | true => exact absurd ((h4.hasE id).1 hq) hn
  have := bget_mo bb n mo D id zE (.slice none 0 0) (.slice none 0 0) (.slice none 0 0) w h1 hid (Maps.atKey_of_not_has hh (.held zV)) ⟨Days.nil _ _, Ints.nil _ _, Movs.nil _ _⟩ (by decide) (by decide)
  rwa [hh] at this
end Go.Proofs.YtpdcjnkgkpbdgaaGreatDoor

/- Package diff's textOf of an event that is not there; find. -/
namespace Go.Proofs.YtpdcjnkgkpbdgaaGreatDoor
open Go Go.RowKit Go.Maps Go.Sort Cal
attribute [local go_sem] Oper.semAt_some

theorem zE_k : EvK zE 4 := .inl ⟨fun h => by have := h.2.1; exact absurd this (by decide), rfl⟩
theorem etext_no (sl skv mvv : Value) (s : Nat → Addr) (w : World) (gk : GlobK s w) (hL : Ls w zE sl skv mvv) :
    Calls Tryz.prog 20 #[ev zE sl skv mvv] w fun r w' => r = .returned (.string (bs [])) ∧ Below w.heap.size w w' := by
  obtain ⟨hd, hs, hm⟩ := hL
  have CK : Hid (∀ W, Below w.heap.size w W → Calls _ _ _ W _) := fun W hW => evCheck_k zE sl skv mvv 4 s W (gk.step hW) (hd.step hW) (hs.step hW) (hm.step hW) (by decide) (by decide) zE_k
  obtain ⟨p, hp⟩ := errV_ne (s := s) (k := 4) (by decide)
  rw [hp] at CK
  clear hp
  obtain ⟨ra, rc, rfl, _⟩ := hd
  obtain ⟨sa, sc, rfl, _⟩ := hs
  obtain ⟨ma, mc, rfl, _⟩ := hm
  unfold ev zE at CK ⊢
  dsimp only at CK ⊢
  go_enter Tryz.func20, Tryz.ntmps20
  go_wp2_with (go_at_call 18; refine Calls.mono (CK.out _ (below_alloc _ _)) ?_; rintro r w1 ⟨rfl, hb1⟩)
  go_ret
  exact ⟨rfl, below_then (below_alloc _ _) hb1⟩
theorem textOf_no (sl skv mvv : Value) (s : Nat → Addr) (w : World) (gk : GlobK s w) (hL : Ls w zE sl skv mvv) :
    Calls Tryz.prog 127 #[ev zE sl skv mvv, .string allW] w fun r w' => r = .returned (.string (bs [])) ∧ Below w.heap.size w w' := by
  have H : Hid (∀ W, Below w.heap.size w W → Calls _ _ _ W _) := fun W hW => etext_no sl skv mvv s W (gk.step hW) (hL.step hW)
  obtain ⟨hd, hs, hm⟩ := hL
  obtain ⟨ra, rc, rfl, _⟩ := hd
  obtain ⟨sa, sc, rfl, _⟩ := hs
  obtain ⟨ma, mc, rfl, _⟩ := hm
  unfold ev zE at H ⊢
  unfold allW
  dsimp only at H ⊢
  go_enter Tryz.func127, Tryz.ntmps127
  go_wp2_with (go_at_call 20; refine Calls.mono (H.out _ (below_alloc _ _)) ?_; rintro r w1 ⟨rfl, hb1⟩)
  go_ret
  exact ⟨rfl, below_then (below_alloc _ _) hb1⟩

end Go.Proofs.YtpdcjnkgkpbdgaaGreatDoor

/- Package diff's find. -/
namespace Go.Proofs.YtpdcjnkgkpbdgaaGreatDoor
open Go Go.RowKit Go.Maps Go.Sort Cal
attribute [local go_sem] Oper.semAt_some
/-- a change, as the program holds it -/
def chV (id f o n : ByteArray) : Value := .agg #[.string id, .string f, .string o, .string n]
/-- the blocks of a change and of an event that is returned -/
def fiW (w : World) (id f o t : ByteArray) : World := (w.alloc (.cells #[.string id, .string f, .string o, .string t] 121)).alloc (.cells #[.string ⟨#[]⟩, .string ⟨#[]⟩, .int .i64 0, .int .i64 0, .string ⟨#[]⟩, .int .i64 0, .slice none 0 0, .int .i64 0, .int .i64 0, .slice none 0 0, .slice none 0 0] 37)
theorem fiW_below (w : World) (id f o t : ByteArray) : Below w.heap.size w (fiW w id f o t) := below_then (below_alloc _ _) (below_alloc _ _)
theorem fiW_size (w : World) (id f o t : ByteArray) : (fiW w id f o t).heap.size = w.heap.size + 2 := by
  unfold fiW; rw [World.size_alloc, World.size_alloc]
theorem fiW_ch (w : World) (id f o t : ByteArray) : (fiW w id f o t).heap[w.heap.size]? = some (.cells #[.string id, .string f, .string o, .string t] 121 (0, 0)) := block_alloc _ (block_at _ rfl)
theorem fiW_ev (w : World) (id f o t : ByteArray) : (fiW w id f o t).heap[w.heap.size + 1]? = some (.cells #[.string ⟨#[]⟩, .string ⟨#[]⟩, .int .i64 0, .int .i64 0, .string ⟨#[]⟩, .int .i64 0, .slice none 0 0, .int .i64 0, .int .i64 0, .slice none 0 0, .slice none 0 0] 37 (0, 0)) := block_at _ (World.size_alloc _ _)
theorem blk4 {W : World} {b T : Nat} {a0 a1 a2 a3 : Value} (h : W.heap[b]? = some (.cells #[a0, a1, a2, a3] T (0, 0))) : W.cell? ⟨b, 0, none⟩ = some a0 ∧ W.cell? ⟨b, 1, none⟩ = some a1 ∧ W.cell? ⟨b, 2, none⟩ = some a2 ∧ W.cell? ⟨b, 3, none⟩ = some a3 := by simp [World.cell?, h]

theorem put11_cell {W : World} {B b o : Nat} {u : Value} (v0 v1 v2 v3 v4 v5 v6 v7 v8 v9 v10 : Value) (h : W.cell? ⟨b, o, none⟩ = some u) (hne : b ≠ B) : (put11 W B v0 v1 v2 v3 v4 v5 v6 v7 v8 v9 v10).cell? ⟨b, o, none⟩ = some u :=
  (World.cell?_of_block (a := ⟨b, o, none⟩) ((put11_grown W B v0 v1 v2 v3 v4 v5 v6 v7 v8 v9 v10).block b (lt_of_cell h) (fun q => hne (Option.some.inj q)))).trans h

set_option maxHeartbeats 200000 in
set_option maxRecDepth 100000 in
theorem find_no (lo bb n : Nat) (mo : Option Nat) (C : List EV) (id f o t : ByteArray) (p : Addr) (hid : id.size ≤ 1000) (hn : ¬ ∃ E ∈ C, E.id = id) (w : World) (h : BookAt lo w bb mo n C) (hN : w.cell? ⟨6, 0, none⟩ = some (.iface 278 (.pointer (some p)))) :
    Calls Tryz.prog 170 #[.pointer (some ⟨bb, 0, none⟩), chV id f o t] w fun r w' => r = .returned (.tuple #[zV, .iface 278 (.pointer (some p))]) ∧ Below w.heap.size w w' := by
  have HB : Hid (Below w.heap.size w (fiW w id f o t)) := fiW_below w id f o t
  have HG : Hid (Calls _ _ _ _ _) := get_no lo bb n mo C id hid hn (fiW w id f o t) (h.step HB.out)
  have HC : Hid (_) := fiW_ch w id f o t
  have HE : Hid (_) := fiW_ev w id f o t
  have HZ : Hid (_) := fiW_size w id f o t
  have HN : Hid (w.cell? ⟨6, 0, none⟩ = some (.iface 278 (.pointer (some p)))) := hN
  clear h hN hn hid
  unfold chV
  go_enter Tryz.func170, Tryz.ntmps170
  generalize hw0 : fiW w id f o t = w0 at HB HG HC HE HZ
  obtain ⟨c0, c1, c2, c3⟩ := blk4 HC.out
  have hw1 : (w.alloc (.cells #[.string id, .string f, .string o, .string t] 121)).alloc (.cells #[.string ⟨#[]⟩, .string ⟨#[]⟩, .int .i64 0, .int .i64 0, .string ⟨#[]⟩, .int .i64 0, .slice none 0 0, .int .i64 0, .int .i64 0, .slice none 0 0, .slice none 0 0] 37) = w0 := hw0
  clear hw0
  go_upto_region 2 with (go_at_call 33; refine Calls.mono HG.out ?_; rintro r w1 ⟨sl', skv', mvv', rfl, hL1, hb1⟩; obtain ⟨r1, rc1, rfl, _⟩ := hL1.d; obtain ⟨s1, sc1, rfl, _⟩ := hL1.s; obtain ⟨m1, mc1, rfl, _⟩ := hL1.m; unfold ev zE; dsimp only)
  have B2 : Hid (Below w.heap.size w (w1.alloc (.cells #[.string ⟨#[]⟩, .string ⟨#[]⟩, .int .i64 0, .int .i64 0, .string ⟨#[]⟩, .int .i64 0, .slice r1 0 rc1, .int .i64 0, .int .i64 0, .slice s1 0 sc1, .slice m1 0 mc1] 37))) := below_then HB.out (below_then hb1 (below_alloc _ _))
  have KR : Hid ((w1.alloc (.cells #[.string ⟨#[]⟩, .string ⟨#[]⟩, .int .i64 0, .int .i64 0, .string ⟨#[]⟩, .int .i64 0, .slice r1 0 rc1, .int .i64 0, .int .i64 0, .slice s1 0 sc1, .slice m1 0 mc1] 37)).heap[w.heap.size + 1]? = some (.cells #[.string ⟨#[]⟩, .string ⟨#[]⟩, .int .i64 0, .int .i64 0, .string ⟨#[]⟩, .int .i64 0, .slice none 0 0, .int .i64 0, .int .i64 0, .slice none 0 0, .slice none 0 0] 37 (0, 0))) := block_alloc _ ((hb1.block _ (Array.getElem?_eq_some_iff.1 HE.out).1).trans HE.out)
  have hN2 := cell_step HN.out B2.out
  have hne : 6 ≠ w.heap.size + 1 := by have := lt_of_cell HN.out; omega
  clear HG HC HE HB HN c0 c1 c2 c3 hw1
  generalize w1.alloc (.cells #[.string ⟨#[]⟩, .string ⟨#[]⟩, .int .i64 0, .int .i64 0, .string ⟨#[]⟩, .int .i64 0, .slice r1 0 rc1, .int .i64 0, .int .i64 0, .slice s1 0 sc1, .slice m1 0 mc1] 37) = w2 at B2 KR hN2 ⊢
  obtain ⟨t0, t1, t2, t3, t4, t5, t6, t7, t8, t9, t10⟩ := blk11 KR.out
  have f0 := blk11_frozen KR.out 0
  have f1 := blk11_frozen KR.out 1
  have f2 := blk11_frozen KR.out 2
  have f3 := blk11_frozen KR.out 3
  have f4 := blk11_frozen KR.out 4
  have f5 := blk11_frozen KR.out 5
  have f6 := blk11_frozen KR.out 6
  have f7 := blk11_frozen KR.out 7
  have f8 := blk11_frozen KR.out 8
  have f9 := blk11_frozen KR.out 9
  have f10 := blk11_frozen KR.out 10
  have NC : Hid (w2.drew.cell? ⟨6, 0, none⟩ = some (.iface 278 (.pointer (some p)))) := hN2
  have ND : Hid ((put11 w2 (w.heap.size + 1) (.string ⟨#[]⟩) (.string ⟨#[]⟩) (.int .i64 0) (.int .i64 0) (.string ⟨#[]⟩) (.int .i64 0) (.slice none 0 0) (.int .i64 0) (.int .i64 0) (.slice none 0 0) (.slice none 0 0)).drew.cell? ⟨6, 0, none⟩ = some (.iface 278 (.pointer (some p)))) := cell_step (put11_cell _ _ _ _ _ _ _ _ _ _ _ hN2 hne) (drew_below _)
  go_wp2
  go_region_held3 (fun W => W.cell? ⟨6, 0, none⟩ = some (.iface 278 (.pointer (some p)))) (first | (rw [put11_fold]; exact ND.out) | with_reducible exact NC.out) (fail)
  rw [put11_fold]
  have n10 := put11_blk (.string ⟨#[]⟩) (.string ⟨#[]⟩) (.int .i64 0) (.int .i64 0) (.string ⟨#[]⟩) (.int .i64 0) (.slice none 0 0) (.int .i64 0) (.int .i64 0) (.slice none 0 0) (.slice none 0 0) KR.out
  have g7 := put11_grown w2 (w.heap.size + 1) (.string ⟨#[]⟩) (.string ⟨#[]⟩) (.int .i64 0) (.int .i64 0) (.string ⟨#[]⟩) (.int .i64 0) (.slice none 0 0) (.int .i64 0) (.int .i64 0) (.slice none 0 0) (.slice none 0 0)
  clear t0 t1 t2 t3 t4 t5 t6 t7 t8 t9 t10 f0 f1 f2 f3 f4 f5 f6 f7 f8 f9 f10
  generalize put11 w2 (w.heap.size + 1) (.string ⟨#[]⟩) (.string ⟨#[]⟩) (.int .i64 0) (.int .i64 0) (.string ⟨#[]⟩) (.int .i64 0) (.slice none 0 0) (.int .i64 0) (.int .i64 0) (.slice none 0 0) (.slice none 0 0) = w7 at n10 g7 ⊢
  have n11 : w7.drew.heap[w.heap.size + 1]? = some _ := n10
  have B7 : Hid (Below w.heap.size w w7.drew) := below_then (B2.out.grown g7 B2.out.size (fun k q => by cases q; exact Nat.le_succ _)) (drew_below _)
  clear n10 g7
  generalize w7.drew = w8 at n11 B7 ⊢
  obtain ⟨c0, c1, c2, c3, c4, c5, c6, c7, c8, c9, c10⟩ := blk11 n11
  go_wp2
  refine bodyPost_ret (v := .tuple #[zV, .iface 278 (.pointer (some p))]) (by simp [results, Tryz.f170, go_sem, c0, c1, c2, c3, c4, c5, c6, c7, c8, c9, c10, zV]) rfl ⟨rfl, B7.out⟩
end Go.Proofs.YtpdcjnkgkpbdgaaGreatDoor

/- Package diff's find, where the event is no longer as the change knew it. -/
namespace Go.Proofs.YtpdcjnkgkpbdgaaGreatDoor
open Go Go.RowKit Go.Maps Go.Sort Cal
attribute [local go_sem] Oper.semAt_some

set_option maxHeartbeats 1000000 in
set_option maxRecDepth 100000 in
theorem find_stale (lo bb n : Nat) (mo : Option Nat) (C : List EV) (E : EV) (hE : E ∈ C) (k : Nat) (hk : k < 7) (o t : ByteArray) (ho : o ≠ bs (cT E k)) (p : Addr) (s : Nat → Addr) (w : World) (gk : GlobK s w) (g : GlobR w) (h : BookAt lo w bb mo n C) (hS : w.cell? ⟨9, 0, none⟩ = some (.iface 278 (.pointer (some p)))) :
    Calls Tryz.prog 170 #[.pointer (some ⟨bb, 0, none⟩), chV E.id (fieldB k) o t] w fun r w' => r = .returned (.tuple #[zV, .iface 278 (.pointer (some p))]) ∧ Below w.heap.size w w' := by
  have HW : Hid (EW E) := (h.rises.2 E hE)
  have HB : Hid (Below w.heap.size w (fiW w E.id (fieldB k) o t)) := fiW_below w E.id (fieldB k) o t
  have HG : Hid (Calls _ _ _ _ _) := get_C lo bb n mo C E hE (fiW w E.id (fieldB k) o t) (h.step HB.out)
  have HC : Hid (_) := fiW_ch w E.id (fieldB k) o t
  have HE : Hid (_) := fiW_ev w E.id (fieldB k) o t
  have HZ : Hid (_) := fiW_size w E.id (fieldB k) o t
  have HS : Hid (w.cell? ⟨9, 0, none⟩ = some (.iface 278 (.pointer (some p)))) := hS
  have GK : Hid (GlobK s w) := gk
  have GR : Hid (GlobR w) := g
  have hne : 9 ≠ w.heap.size + 1 := by have := lt_of_cell hS; omega
  have NE : Hid (9 ≠ w.heap.size + 1) := hne
  have TX : Hid (∀ sl skv mvv W, Below w.heap.size w W → Ls W E sl skv mvv → Calls Tryz.prog 127 #[ev E sl skv mvv, .string (fieldB k)] W fun r w' => r = .returned (.string (bs (cT E k))) ∧ Below W.heap.size W w') := fun sl skv mvv W hW hl => textOf_any E sl skv mvv k hk s W (GK.out.step hW) (GR.out.step hW) hl HW.out
  clear h hS gk g hE hne HW GK GR
  generalize bs (cT E k) = tx at TX ho ⊢
  generalize fieldB k = fb at *
  unfold chV
  go_enter Tryz.func170, Tryz.ntmps170
  generalize hw0 : fiW w E.id fb o t = w0 at HB HG HC HE HZ
  obtain ⟨c0, c1, c2, c3⟩ := blk4 HC.out
  have hw1 : (w.alloc (.cells #[.string E.id, .string fb, .string o, .string t] 121)).alloc (.cells #[.string ⟨#[]⟩, .string ⟨#[]⟩, .int .i64 0, .int .i64 0, .string ⟨#[]⟩, .int .i64 0, .slice none 0 0, .int .i64 0, .int .i64 0, .slice none 0 0, .slice none 0 0] 37) = w0 := hw0
  clear hw0
  go_upto_region 2 with (go_at_call 33; refine Calls.mono HG.out ?_; rintro r w1 ⟨sl', skv', mvv', rfl, hL1, hb1⟩; obtain ⟨r1, rc1, rfl, _⟩ := hL1.d; obtain ⟨s1, sc1, rfl, _⟩ := hL1.s; obtain ⟨m1, mc1, rfl, _⟩ := hL1.m; unfold ev; dsimp only)
  have B2 : Hid (Below w.heap.size w (w1.alloc (.cells #[.string E.id, .string E.ti, .int .i64 E.st, .int .i64 E.lg, .string E.f, .int .i64 E.e, .slice r1 E.ds.length rc1, .int .i64 E.c, .int .i64 E.u, .slice s1 E.sk.length sc1, .slice m1 E.mv.length mc1] 37))) := below_then HB.out (below_then hb1 (below_alloc _ _))
  have KR : Hid ((w1.alloc (.cells #[.string E.id, .string E.ti, .int .i64 E.st, .int .i64 E.lg, .string E.f, .int .i64 E.e, .slice r1 E.ds.length rc1, .int .i64 E.c, .int .i64 E.u, .slice s1 E.sk.length sc1, .slice m1 E.mv.length mc1] 37)).heap[w.heap.size + 1]? = some (.cells #[.string ⟨#[]⟩, .string ⟨#[]⟩, .int .i64 0, .int .i64 0, .string ⟨#[]⟩, .int .i64 0, .slice none 0 0, .int .i64 0, .int .i64 0, .slice none 0 0, .slice none 0 0] 37 (0, 0))) := block_alloc _ ((hb1.block _ (Array.getElem?_eq_some_iff.1 HE.out).1).trans HE.out)
  have KC : Hid ((w1.alloc (.cells #[.string E.id, .string E.ti, .int .i64 E.st, .int .i64 E.lg, .string E.f, .int .i64 E.e, .slice r1 E.ds.length rc1, .int .i64 E.c, .int .i64 E.u, .slice s1 E.sk.length sc1, .slice m1 E.mv.length mc1] 37)).heap[w.heap.size]? = some (.cells #[.string E.id, .string fb, .string o, .string t] 121 (0, 0))) := block_alloc _ ((hb1.block _ (Array.getElem?_eq_some_iff.1 HC.out).1).trans HC.out)
  have KE : Hid ((w1.alloc (.cells #[.string E.id, .string E.ti, .int .i64 E.st, .int .i64 E.lg, .string E.f, .int .i64 E.e, .slice r1 E.ds.length rc1, .int .i64 E.c, .int .i64 E.u, .slice s1 E.sk.length sc1, .slice m1 E.mv.length mc1] 37)).heap[w1.heap.size]? = some (.cells #[.string E.id, .string E.ti, .int .i64 E.st, .int .i64 E.lg, .string E.f, .int .i64 E.e, .slice r1 E.ds.length rc1, .int .i64 E.c, .int .i64 E.u, .slice s1 E.sk.length sc1, .slice m1 E.mv.length mc1] 37 (0, 0))) := block_at _ rfl
  have LE : Hid (Ls (w1.alloc (.cells #[.string E.id, .string E.ti, .int .i64 E.st, .int .i64 E.lg, .string E.f, .int .i64 E.e, .slice r1 E.ds.length rc1, .int .i64 E.c, .int .i64 E.u, .slice s1 E.sk.length sc1, .slice m1 E.mv.length mc1] 37)) E (.slice r1 E.ds.length rc1) (.slice s1 E.sk.length sc1) (.slice m1 E.mv.length mc1)) := hL1.step (below_alloc _ _)
  have hS2 := cell_step HS.out B2.out
  have SC : Hid ((w1.alloc (.cells #[.string E.id, .string E.ti, .int .i64 E.st, .int .i64 E.lg, .string E.f, .int .i64 E.e, .slice r1 E.ds.length rc1, .int .i64 E.c, .int .i64 E.u, .slice s1 E.sk.length sc1, .slice m1 E.mv.length mc1] 37)).cell? ⟨9, 0, none⟩ = some (.iface 278 (.pointer (some p)))) := hS2
  clear HG HC HE HB HS c0 c1 c2 c3 hw1 hS2 hL1
  have hwz : w.heap.size + 2 ≤ w1.heap.size := by have := HZ.out; have := hb1.size; omega
  clear HZ hb1
  generalize w1.alloc (.cells #[.string E.id, .string E.ti, .int .i64 E.st, .int .i64 E.lg, .string E.f, .int .i64 E.e, .slice r1 E.ds.length rc1, .int .i64 E.c, .int .i64 E.u, .slice s1 E.sk.length sc1, .slice m1 E.mv.length mc1] 37) = w2 at B2 KR KC KE LE SC ⊢
  generalize w1.heap.size = be at *
  obtain ⟨c0, c1, c2, c3⟩ := blk4 KC.out
  obtain ⟨x0, x1, x2, x3, x4, x5, x6, x7, x8, x9, x10⟩ := blk11 KE.out
  have C1 := cell_regrown c1
  have C2 := cell_regrown c2
  have X0 := cell_regrown x0
  have X1 := cell_regrown x1
  have X2 := cell_regrown x2
  have X3 := cell_regrown x3
  have X4 := cell_regrown x4
  have X5 := cell_regrown x5
  have X6 := cell_regrown x6
  have X7 := cell_regrown x7
  have X8 := cell_regrown x8
  have X9 := cell_regrown x9
  have X10 := cell_regrown x10
  have T1 : Hid (∀ d os, Calls Tryz.prog 127 #[.agg #[.string E.id, .string E.ti, .int .i64 E.st, .int .i64 E.lg, .string E.f, .int .i64 E.e, .slice r1 E.ds.length rc1, .int .i64 E.c, .int .i64 E.u, .slice s1 E.sk.length sc1, .slice m1 E.mv.length mc1], .string fb] (grow (redrawn w2 d) os) fun r w'' => r = .returned (.string tx) ∧ ∃ p : Regrown, w'' = grow (redrawn w2 p.d) p.os) := fun d os => Calls.regrown_of (TX.out _ _ _ _ (below_then B2.out (below_regrown _ _ _)) (LE.out.step (below_regrown _ _ _)))
  go_upto_region 4 with (fail)
  refine wp_region_quiet_below (by kernel_rfl) (by kernel_rfl) ?_
  repeat (quiet_step (first | (go_at_call 127; exact T1.out _ _)))
  refine wpQuiet_nil ?_
  intro w3 hw'
  have hb3 : Below w2.heap.size w2 w3 := by
    obtain ⟨⟨dq, osq⟩, hw''⟩ := hw'
    subst hw''
    exact below_regrown _ _ _
  clear hw' X0 X1 X2 X3 X4 X5 X6 X7 X8 X9 X10 C1 C2 x0 x1 x2 x3 x4 x5 x6 x7 x8 x9 x10 c0 c1 c2 c3 T1
  have B3 : Hid (Below w.heap.size w w3) := below_then B2.out hb3
  have KR3 : Hid (w3.heap[w.heap.size + 1]? = some (.cells #[.string ⟨#[]⟩, .string ⟨#[]⟩, .int .i64 0, .int .i64 0, .string ⟨#[]⟩, .int .i64 0, .slice none 0 0, .int .i64 0, .int .i64 0, .slice none 0 0, .slice none 0 0] 37 (0, 0))) := (hb3.block _ (Array.getElem?_eq_some_iff.1 KR.out).1).trans KR.out
  have KE3 : Hid (w3.heap[be]? = some (.cells #[.string E.id, .string E.ti, .int .i64 E.st, .int .i64 E.lg, .string E.f, .int .i64 E.e, .slice r1 E.ds.length rc1, .int .i64 E.c, .int .i64 E.u, .slice s1 E.sk.length sc1, .slice m1 E.mv.length mc1] 37 (0, 0))) := (hb3.block _ (Array.getElem?_eq_some_iff.1 KE.out).1).trans KE.out
  have LE3 : Hid (Ls w3 E (.slice r1 E.ds.length rc1) (.slice s1 E.sk.length sc1) (.slice m1 E.mv.length mc1)) := LE.out.step hb3
  have hN3 := cell_step SC.out hb3
  clear KR KE LE SC KC hb3 B2 TX
  obtain ⟨t0, t1, t2, t3, t4, t5, t6, t7, t8, t9, t10⟩ := blk11 KR3.out
  have f0 := blk11_frozen KR3.out 0
  have f1 := blk11_frozen KR3.out 1
  have f2 := blk11_frozen KR3.out 2
  have f3 := blk11_frozen KR3.out 3
  have f4 := blk11_frozen KR3.out 4
  have f5 := blk11_frozen KR3.out 5
  have f6 := blk11_frozen KR3.out 6
  have f7 := blk11_frozen KR3.out 7
  have f8 := blk11_frozen KR3.out 8
  have f9 := blk11_frozen KR3.out 9
  have f10 := blk11_frozen KR3.out 10
  have HO : Hid (o ≠ tx) := ho
  have hq : (tx.toList == o.toList) = false := txt_ne (fun q => ho q.symm)
  clear ho
  have NC : Hid (w3.drew.cell? ⟨9, 0, none⟩ = some (.iface 278 (.pointer (some p)))) := hN3
  have ND : Hid ((put11 w3 (w.heap.size + 1) (.string ⟨#[]⟩) (.string ⟨#[]⟩) (.int .i64 0) (.int .i64 0) (.string ⟨#[]⟩) (.int .i64 0) (.slice none 0 0) (.int .i64 0) (.int .i64 0) (.slice none 0 0) (.slice none 0 0)).drew.cell? ⟨9, 0, none⟩ = some (.iface 278 (.pointer (some p)))) := cell_step (put11_cell _ _ _ _ _ _ _ _ _ _ _ hN3 NE.out) (drew_below _)
  rw [hq, Bool.not_false]
  clear hq hN3
  go_wp2
  go_region_held3 (fun W => W.cell? ⟨9, 0, none⟩ = some (.iface 278 (.pointer (some p)))) (first | (rw [put11_fold]; exact ND.out) | with_reducible exact NC.out) (fail)
  rw [put11_fold]
  have n10 := put11_blk (.string ⟨#[]⟩) (.string ⟨#[]⟩) (.int .i64 0) (.int .i64 0) (.string ⟨#[]⟩) (.int .i64 0) (.slice none 0 0) (.int .i64 0) (.int .i64 0) (.slice none 0 0) (.slice none 0 0) KR3.out
  have g7 := put11_grown w3 (w.heap.size + 1) (.string ⟨#[]⟩) (.string ⟨#[]⟩) (.int .i64 0) (.int .i64 0) (.string ⟨#[]⟩) (.int .i64 0) (.slice none 0 0) (.int .i64 0) (.int .i64 0) (.slice none 0 0) (.slice none 0 0)
  clear t0 t1 t2 t3 t4 t5 t6 t7 t8 t9 t10 f0 f1 f2 f3 f4 f5 f6 f7 f8 f9 f10
  generalize put11 w3 (w.heap.size + 1) (.string ⟨#[]⟩) (.string ⟨#[]⟩) (.int .i64 0) (.int .i64 0) (.string ⟨#[]⟩) (.int .i64 0) (.slice none 0 0) (.int .i64 0) (.int .i64 0) (.slice none 0 0) (.slice none 0 0) = w7 at n10 g7 ⊢
  have n11 : w7.drew.heap[w.heap.size + 1]? = some _ := n10
  have B7 : Hid (Below w.heap.size w w7.drew) := below_then (B3.out.grown g7 B3.out.size (fun k q => by cases q; exact Nat.le_succ _)) (drew_below _)
  clear n10 g7 NC ND
  generalize w7.drew = w8 at n11 B7 ⊢
  obtain ⟨c0, c1, c2, c3, c4, c5, c6, c7, c8, c9, c10⟩ := blk11 n11
  go_wp2
  refine bodyPost_ret (v := .tuple #[zV, .iface 278 (.pointer (some p))]) (by simp [results, Tryz.f170, go_sem, c0, c1, c2, c3, c4, c5, c6, c7, c8, c9, c10, zV]) rfl ⟨rfl, B7.out⟩
end Go.Proofs.YtpdcjnkgkpbdgaaGreatDoor

/- A list of numbers, or of moves, lies in no block that begins with a text. -/
namespace Go.Proofs.YtpdcjnkgkpbdgaaGreatDoor
open Go Go.RowKit Cal

theorem off_blkI {W : World} {v : Value} {xs : List Int} {B : Nat} {x : ByteArray} (h : Ints W v xs) (h30 : xs.length ≤ 30) (hb : W.cell? ⟨B, 0, none⟩ = some (.string x)) : OffI (· = B) W v xs := by
  obtain ⟨a, c, h1, h2, h3, h4⟩ := h
  refine ⟨a, c, h1, h30, h3, fun j hj => ?_⟩
  obtain ⟨b, e, hl, hc⟩ := h4 j hj
  refine ⟨b, e, fun q => ?_, hl, hc⟩
  obtain ⟨b', e', _, hc'⟩ := h4 0 (by omega)
  have eb : b' = b := by rw [e] at e'; cases e'; rfl
  have q' : b = B := q
  rw [eb, q', hb] at hc'
  cases hc'
theorem off_blkM {W : World} {v : Value} {xs : List (Int × Int)} {B : Nat} {x : ByteArray} (h : Movs W v xs) (h30 : xs.length ≤ 30) (hb : W.cell? ⟨B, 0, none⟩ = some (.string x)) : OffM (· = B) W v xs := by
  obtain ⟨a, c, h1, h2, h3, h4⟩ := h
  refine ⟨a, c, h1, h30, h3, fun j hj => ?_⟩
  obtain ⟨b, e, hl, hc⟩ := h4 j hj
  refine ⟨b, e, fun q => ?_, hl, hc⟩
  obtain ⟨b', e', _, hc', _⟩ := h4 0 (by omega)
  have eb : b' = b := by rw [e] at e'; cases e'; rfl
  have q' : b = B := q
  rw [eb, q', Nat.zero_mul, hb] at hc'
  cases hc'
end Go.Proofs.YtpdcjnkgkpbdgaaGreatDoor

/- Package diff's find, where the event is as the change knew it. -/
namespace Go.Proofs.YtpdcjnkgkpbdgaaGreatDoor
open Go Go.RowKit Go.Maps Go.Sort Cal
attribute [local go_sem] Oper.semAt_some

set_option maxHeartbeats 1000000 in
set_option maxRecDepth 100000 in
theorem find_found (lo bb n : Nat) (mo : Option Nat) (C : List EV) (E : EV) (hE : E ∈ C) (k : Nat) (hk : k < 7) (o t : ByteArray) (ho : o = bs (cT E k)) (s : Nat → Addr) (w : World) (gk : GlobK s w) (g : GlobR w) (h : BookAt lo w bb mo n C) :
    Calls Tryz.prog 170 #[.pointer (some ⟨bb, 0, none⟩), chV E.id (fieldB k) o t] w fun r w' => ∃ sl skv mvv, r = .returned (.tuple #[ev E sl skv mvv, .nilIface]) ∧ Ls w' E sl skv mvv ∧ Below w.heap.size w w' := by
  have HW : Hid (EW E) := (h.rises.2 E hE)
  have HB : Hid (Below w.heap.size w (fiW w E.id (fieldB k) o t)) := fiW_below w E.id (fieldB k) o t
  have HG : Hid (Calls _ _ _ _ _) := get_C lo bb n mo C E hE (fiW w E.id (fieldB k) o t) (h.step HB.out)
  have HC : Hid (_) := fiW_ch w E.id (fieldB k) o t
  have HE : Hid (_) := fiW_ev w E.id (fieldB k) o t
  have HZ : Hid (_) := fiW_size w E.id (fieldB k) o t
  have GK : Hid (GlobK s w) := gk
  have GR : Hid (GlobR w) := g
  have TX : Hid (∀ sl skv mvv W, Below w.heap.size w W → Ls W E sl skv mvv → Calls Tryz.prog 127 #[ev E sl skv mvv, .string (fieldB k)] W fun r w' => r = .returned (.string (bs (cT E k))) ∧ Below W.heap.size W w') := fun sl skv mvv W hW hl => textOf_any E sl skv mvv k hk s W (GK.out.step hW) (GR.out.step hW) hl HW.out
  have HB3 : Hid (E.ds.length ≤ 20 ∧ E.sk.length ≤ 20 ∧ E.mv.length ≤ 20) := by
    obtain ⟨i12, t40, k20, m20⟩ := ew_bd HW.out
    obtain ⟨D, h1, h2, h3, h4⟩ := id h
    exact ⟨(h4.at_ E hE).1.2, k20, m20⟩
  clear h gk g hE HW GK GR
  have HO : Hid (o = bs (cT E k)) := ho
  clear ho
  generalize bs (cT E k) = tx at TX HO
  generalize fieldB k = fb at *
  unfold chV
  go_enter Tryz.func170, Tryz.ntmps170
  generalize hw0 : fiW w E.id fb o t = w0 at HB HG HC HE HZ
  obtain ⟨c0, c1, c2, c3⟩ := blk4 HC.out
  have hw1 : (w.alloc (.cells #[.string E.id, .string fb, .string o, .string t] 121)).alloc (.cells #[.string ⟨#[]⟩, .string ⟨#[]⟩, .int .i64 0, .int .i64 0, .string ⟨#[]⟩, .int .i64 0, .slice none 0 0, .int .i64 0, .int .i64 0, .slice none 0 0, .slice none 0 0] 37) = w0 := hw0
  clear hw0
  go_upto_region 2 with (go_at_call 33; refine Calls.mono HG.out ?_; rintro r w1 ⟨sl', skv', mvv', rfl, hL1, hb1⟩; obtain ⟨r1, rc1, rfl, _⟩ := hL1.d; obtain ⟨s1, sc1, rfl, _⟩ := hL1.s; obtain ⟨m1, mc1, rfl, _⟩ := hL1.m; unfold ev; dsimp only)
  have B2 : Hid (Below w.heap.size w (w1.alloc (.cells #[.string E.id, .string E.ti, .int .i64 E.st, .int .i64 E.lg, .string E.f, .int .i64 E.e, .slice r1 E.ds.length rc1, .int .i64 E.c, .int .i64 E.u, .slice s1 E.sk.length sc1, .slice m1 E.mv.length mc1] 37))) := below_then HB.out (below_then hb1 (below_alloc _ _))
  have KR : Hid ((w1.alloc (.cells #[.string E.id, .string E.ti, .int .i64 E.st, .int .i64 E.lg, .string E.f, .int .i64 E.e, .slice r1 E.ds.length rc1, .int .i64 E.c, .int .i64 E.u, .slice s1 E.sk.length sc1, .slice m1 E.mv.length mc1] 37)).heap[w.heap.size + 1]? = some (.cells #[.string ⟨#[]⟩, .string ⟨#[]⟩, .int .i64 0, .int .i64 0, .string ⟨#[]⟩, .int .i64 0, .slice none 0 0, .int .i64 0, .int .i64 0, .slice none 0 0, .slice none 0 0] 37 (0, 0))) := block_alloc _ ((hb1.block _ (Array.getElem?_eq_some_iff.1 HE.out).1).trans HE.out)
  have KC : Hid ((w1.alloc (.cells #[.string E.id, .string E.ti, .int .i64 E.st, .int .i64 E.lg, .string E.f, .int .i64 E.e, .slice r1 E.ds.length rc1, .int .i64 E.c, .int .i64 E.u, .slice s1 E.sk.length sc1, .slice m1 E.mv.length mc1] 37)).heap[w.heap.size]? = some (.cells #[.string E.id, .string fb, .string o, .string t] 121 (0, 0))) := block_alloc _ ((hb1.block _ (Array.getElem?_eq_some_iff.1 HC.out).1).trans HC.out)
  have KE : Hid ((w1.alloc (.cells #[.string E.id, .string E.ti, .int .i64 E.st, .int .i64 E.lg, .string E.f, .int .i64 E.e, .slice r1 E.ds.length rc1, .int .i64 E.c, .int .i64 E.u, .slice s1 E.sk.length sc1, .slice m1 E.mv.length mc1] 37)).heap[w1.heap.size]? = some (.cells #[.string E.id, .string E.ti, .int .i64 E.st, .int .i64 E.lg, .string E.f, .int .i64 E.e, .slice r1 E.ds.length rc1, .int .i64 E.c, .int .i64 E.u, .slice s1 E.sk.length sc1, .slice m1 E.mv.length mc1] 37 (0, 0))) := block_at _ rfl
  have LE : Hid (Ls (w1.alloc (.cells #[.string E.id, .string E.ti, .int .i64 E.st, .int .i64 E.lg, .string E.f, .int .i64 E.e, .slice r1 E.ds.length rc1, .int .i64 E.c, .int .i64 E.u, .slice s1 E.sk.length sc1, .slice m1 E.mv.length mc1] 37)) E (.slice r1 E.ds.length rc1) (.slice s1 E.sk.length sc1) (.slice m1 E.mv.length mc1)) := hL1.step (below_alloc _ _)
  clear HG HC HE HB c0 c1 c2 c3 hw1 hL1
  have hwz : w.heap.size + 2 ≤ w1.heap.size := by have := HZ.out; have := hb1.size; omega
  clear HZ hb1
  generalize w1.alloc (.cells #[.string E.id, .string E.ti, .int .i64 E.st, .int .i64 E.lg, .string E.f, .int .i64 E.e, .slice r1 E.ds.length rc1, .int .i64 E.c, .int .i64 E.u, .slice s1 E.sk.length sc1, .slice m1 E.mv.length mc1] 37) = w2 at B2 KR KC KE LE ⊢
  generalize w1.heap.size = be at *
  obtain ⟨c0, c1, c2, c3⟩ := blk4 KC.out
  obtain ⟨x0, x1, x2, x3, x4, x5, x6, x7, x8, x9, x10⟩ := blk11 KE.out
  have C1 := cell_regrown c1
  have C2 := cell_regrown c2
  have X0 := cell_regrown x0
  have X1 := cell_regrown x1
  have X2 := cell_regrown x2
  have X3 := cell_regrown x3
  have X4 := cell_regrown x4
  have X5 := cell_regrown x5
  have X6 := cell_regrown x6
  have X7 := cell_regrown x7
  have X8 := cell_regrown x8
  have X9 := cell_regrown x9
  have X10 := cell_regrown x10
  have T1 : Hid (∀ d os, Calls Tryz.prog 127 #[.agg #[.string E.id, .string E.ti, .int .i64 E.st, .int .i64 E.lg, .string E.f, .int .i64 E.e, .slice r1 E.ds.length rc1, .int .i64 E.c, .int .i64 E.u, .slice s1 E.sk.length sc1, .slice m1 E.mv.length mc1], .string fb] (grow (redrawn w2 d) os) fun r w'' => r = .returned (.string tx) ∧ ∃ p : Regrown, w'' = grow (redrawn w2 p.d) p.os) := fun d os => Calls.regrown_of (TX.out _ _ _ _ (below_then B2.out (below_regrown _ _ _)) (LE.out.step (below_regrown _ _ _)))
  go_upto_region 4 with (fail)
  refine wp_region_quiet_below (by kernel_rfl) (by kernel_rfl) ?_
  repeat (quiet_step (first | (go_at_call 127; exact T1.out _ _)))
  refine wpQuiet_nil ?_
  intro w3 hw'
  have hb3 : Below w2.heap.size w2 w3 := by
    obtain ⟨⟨dq, osq⟩, hw''⟩ := hw'
    subst hw''
    exact below_regrown _ _ _
  clear hw' X0 X1 X2 X3 X4 X5 X6 X7 X8 X9 X10 C1 C2 x0 x1 x2 x3 x4 x5 x6 x7 x8 x9 x10 c0 c1 c2 c3 T1
  have B3 : Hid (Below w.heap.size w w3) := below_then B2.out hb3
  have KR3 : Hid (w3.heap[w.heap.size + 1]? = some (.cells #[.string ⟨#[]⟩, .string ⟨#[]⟩, .int .i64 0, .int .i64 0, .string ⟨#[]⟩, .int .i64 0, .slice none 0 0, .int .i64 0, .int .i64 0, .slice none 0 0, .slice none 0 0] 37 (0, 0))) := (hb3.block _ (Array.getElem?_eq_some_iff.1 KR.out).1).trans KR.out
  have KE3 : Hid (w3.heap[be]? = some (.cells #[.string E.id, .string E.ti, .int .i64 E.st, .int .i64 E.lg, .string E.f, .int .i64 E.e, .slice r1 E.ds.length rc1, .int .i64 E.c, .int .i64 E.u, .slice s1 E.sk.length sc1, .slice m1 E.mv.length mc1] 37 (0, 0))) := (hb3.block _ (Array.getElem?_eq_some_iff.1 KE.out).1).trans KE.out
  have LE3 : Hid (Ls w3 E (.slice r1 E.ds.length rc1) (.slice s1 E.sk.length sc1) (.slice m1 E.mv.length mc1)) := LE.out.step hb3
  clear KR KE LE KC hb3 B2 TX
  obtain ⟨t0, t1, t2, t3, t4, t5, t6, t7, t8, t9, t10⟩ := blk11 KR3.out
  obtain ⟨x0, x1, x2, x3, x4, x5, x6, x7, x8, x9, x10⟩ := blk11 KE3.out
  have f0 := blk11_frozen KR3.out 0
  have f1 := blk11_frozen KR3.out 1
  have f2 := blk11_frozen KR3.out 2
  have f3 := blk11_frozen KR3.out 3
  have f4 := blk11_frozen KR3.out 4
  have f5 := blk11_frozen KR3.out 5
  have f6 := blk11_frozen KR3.out 6
  have f7 := blk11_frozen KR3.out 7
  have f8 := blk11_frozen KR3.out 8
  have f9 := blk11_frozen KR3.out 9
  have f10 := blk11_frozen KR3.out 10
  have hq : (tx.toList == o.toList) = true := by rw [HO.out]; exact beq_self_eq_true _
  have HOF : Hid (Off (· = w.heap.size + 1) w3 E (.slice r1 E.ds.length rc1) (.slice s1 E.sk.length sc1) (.slice m1 E.mv.length mc1)) := ⟨off_blkI (days_ints LE3.out.d) (by have := HB3.out; omega) t0, off_blkI LE3.out.s (by have := HB3.out; omega) t0, off_blkM LE3.out.m (by have := HB3.out; omega) t0⟩
  rw [hq, Bool.not_true]
  clear hq
  go_wp2
  rw [put11_fold]
  have n10 := put11_blk (.string E.id) (.string E.ti) (.int .i64 E.st) (.int .i64 E.lg) (.string E.f) (.int .i64 E.e) (.slice r1 E.ds.length rc1) (.int .i64 E.c) (.int .i64 E.u) (.slice s1 E.sk.length sc1) (.slice m1 E.mv.length mc1) KR3.out
  have g7 := put11_grown w3 (w.heap.size + 1) (.string E.id) (.string E.ti) (.int .i64 E.st) (.int .i64 E.lg) (.string E.f) (.int .i64 E.e) (.slice r1 E.ds.length rc1) (.int .i64 E.c) (.int .i64 E.u) (.slice s1 E.sk.length sc1) (.slice m1 E.mv.length mc1)
  clear t0 t1 t2 t3 t4 t5 t6 t7 t8 t9 t10 f0 f1 f2 f3 f4 f5 f6 f7 f8 f9 f10 x0 x1 x2 x3 x4 x5 x6 x7 x8 x9 x10
  generalize put11 w3 (w.heap.size + 1) (.string E.id) (.string E.ti) (.int .i64 E.st) (.int .i64 E.lg) (.string E.f) (.int .i64 E.e) (.slice r1 E.ds.length rc1) (.int .i64 E.c) (.int .i64 E.u) (.slice s1 E.sk.length sc1) (.slice m1 E.mv.length mc1) = w7 at n10 g7 ⊢
  have B7 : Hid (Below w.heap.size w w7) := B3.out.grown g7 B3.out.size (fun k q => by cases q; exact Nat.le_succ _)
  have L7 : Hid (Ls w7 E (.slice r1 E.ds.length rc1) (.slice s1 E.sk.length sc1) (.slice m1 E.mv.length mc1)) := (HOF.out.grown rfl g7).ls HB3.out.1
  obtain ⟨c0, c1, c2, c3, c4, c5, c6, c7, c8, c9, c10⟩ := blk11 n10
  refine bodyPost_ret (v := .tuple #[ev E (.slice r1 E.ds.length rc1) (.slice s1 E.sk.length sc1) (.slice m1 E.mv.length mc1), .nilIface]) (by simp [results, Tryz.f170, go_sem, c0, c1, c2, c3, c4, c5, c6, c7, c8, c9, c10, ev]) rfl ⟨_, _, _, rfl, L7.out, B7.out⟩
end Go.Proofs.YtpdcjnkgkpbdgaaGreatDoor
