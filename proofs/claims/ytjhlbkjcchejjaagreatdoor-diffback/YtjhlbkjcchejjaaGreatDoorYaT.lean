/- Package diff's textOf of an event that is not there; find. -/
import Derived.Test.YtjhlbkjcchejjaaGreatDoorYaS
import Derived.Test.YtjhlbkjcchejjaaGreatDoorYaI
namespace Go.Proofs.YtjhlbkjcchejjaaGreatDoor
open Go Go.RowKit Go.Maps Go.Sort Cal
attribute [local go_sem] Oper.semAt_some

theorem zE_k : EvK zE 4 := .inl ⟨fun h => by have := h.2.1; exact absurd this (by decide), rfl⟩
theorem etext_no (sl skv mvv : Value) (s : Nat → Addr) (w : World) (gk : GlobK s w) (hL : Ls w zE sl skv mvv) :
    Calls Tryz.prog 11 #[ev zE sl skv mvv] w fun r w' => r = .returned (.string (bs [])) ∧ Below w.heap.size w w' := by
  obtain ⟨hd, hs, hm⟩ := hL
  have CK : Hid (∀ W, Below w.heap.size w W → Calls _ _ _ W _) := fun W hW => evCheck_k zE sl skv mvv 4 s W (gk.step hW) (hd.step hW) (hs.step hW) (hm.step hW) (by decide) (by decide) zE_k
  obtain ⟨p, hp⟩ := errV_ne (s := s) (k := 4) (by decide)
  rw [hp] at CK
  clear hp
  obtain ⟨ra, rc, rfl, _⟩ := hd
  obtain ⟨sa, sc, rfl, _⟩ := hs
  obtain ⟨ma, mc, rfl, _⟩ := hm
  unfold ev zE at CK ⊢
  dsimp only at CK ⊢
  go_enter Tryz.func11, Tryz.ntmps11
  go_wp2_with (go_at_call 9; refine Calls.mono (CK.out _ (below_alloc _ _)) ?_; rintro r w1 ⟨rfl, hb1⟩)
  go_ret
  exact ⟨rfl, below_then (below_alloc _ _) hb1⟩
theorem textOf_no (sl skv mvv : Value) (s : Nat → Addr) (w : World) (gk : GlobK s w) (hL : Ls w zE sl skv mvv) :
    Calls Tryz.prog 95 #[ev zE sl skv mvv, .string allW] w fun r w' => r = .returned (.string (bs [])) ∧ Below w.heap.size w w' := by
  have H : Hid (∀ W, Below w.heap.size w W → Calls _ _ _ W _) := fun W hW => etext_no sl skv mvv s W (gk.step hW) (hL.step hW)
  obtain ⟨hd, hs, hm⟩ := hL
  obtain ⟨ra, rc, rfl, _⟩ := hd
  obtain ⟨sa, sc, rfl, _⟩ := hs
  obtain ⟨ma, mc, rfl, _⟩ := hm
  unfold ev zE at H ⊢
  unfold allW
  dsimp only at H ⊢
  go_enter Tryz.func95, Tryz.ntmps95
  go_wp2_with (go_at_call 11; refine Calls.mono (H.out _ (below_alloc _ _)) ?_; rintro r w1 ⟨rfl, hb1⟩)
  go_ret
  exact ⟨rfl, below_then (below_alloc _ _) hb1⟩

end Go.Proofs.YtjhlbkjcchejjaaGreatDoor

/- Package diff's find. -/
namespace Go.Proofs.YtjhlbkjcchejjaaGreatDoor
open Go Go.RowKit Go.Maps Go.Sort Cal
attribute [local go_sem] Oper.semAt_some
/-- a change, as the program holds it -/
def chV (id f o n : ByteArray) : Value := .agg #[.string id, .string f, .string o, .string n]
/-- the blocks of a change and of an event that is returned -/
def fiW (w : World) (id f o t : ByteArray) : World := (w.alloc (.cells #[.string id, .string f, .string o, .string t] 82)).alloc (.cells #[.string ⟨#[]⟩, .string ⟨#[]⟩, .int .i64 0, .int .i64 0, .string ⟨#[]⟩, .int .i64 0, .slice none 0 0, .int .i64 0, .int .i64 0, .slice none 0 0, .slice none 0 0] 27)
theorem fiW_below (w : World) (id f o t : ByteArray) : Below w.heap.size w (fiW w id f o t) := below_then (below_alloc _ _) (below_alloc _ _)
theorem fiW_size (w : World) (id f o t : ByteArray) : (fiW w id f o t).heap.size = w.heap.size + 2 := by
  unfold fiW; rw [World.size_alloc, World.size_alloc]
theorem fiW_ch (w : World) (id f o t : ByteArray) : (fiW w id f o t).heap[w.heap.size]? = some (.cells #[.string id, .string f, .string o, .string t] 82 (0, 0)) := block_alloc _ (block_at _ rfl)
theorem fiW_ev (w : World) (id f o t : ByteArray) : (fiW w id f o t).heap[w.heap.size + 1]? = some (.cells #[.string ⟨#[]⟩, .string ⟨#[]⟩, .int .i64 0, .int .i64 0, .string ⟨#[]⟩, .int .i64 0, .slice none 0 0, .int .i64 0, .int .i64 0, .slice none 0 0, .slice none 0 0] 27 (0, 0)) := block_at _ (World.size_alloc _ _)
theorem blk4 {W : World} {b T : Nat} {a0 a1 a2 a3 : Value} (h : W.heap[b]? = some (.cells #[a0, a1, a2, a3] T (0, 0))) : W.cell? ⟨b, 0, none⟩ = some a0 ∧ W.cell? ⟨b, 1, none⟩ = some a1 ∧ W.cell? ⟨b, 2, none⟩ = some a2 ∧ W.cell? ⟨b, 3, none⟩ = some a3 := by simp [World.cell?, h]

theorem put11_cell {W : World} {B b o : Nat} {u : Value} (v0 v1 v2 v3 v4 v5 v6 v7 v8 v9 v10 : Value) (h : W.cell? ⟨b, o, none⟩ = some u) (hne : b ≠ B) : (put11 W B v0 v1 v2 v3 v4 v5 v6 v7 v8 v9 v10).cell? ⟨b, o, none⟩ = some u :=
  (World.cell?_of_block (a := ⟨b, o, none⟩) ((put11_grown W B v0 v1 v2 v3 v4 v5 v6 v7 v8 v9 v10).block b (lt_of_cell h) (fun q => hne (Option.some.inj q)))).trans h

set_option maxHeartbeats 200000 in
set_option maxRecDepth 100000 in
theorem find_no (lo bb n : Nat) (mo : Option Nat) (C : List EV) (id f o t : ByteArray) (p : Addr) (hid : id.size ≤ 1000) (hn : ¬ ∃ E ∈ C, E.id = id) (w : World) (h : BookAt lo w bb mo n C) (hN : w.cell? ⟨8, 0, none⟩ = some (.iface 236 (.pointer (some p)))) :
    Calls Tryz.prog 134 #[.pointer (some ⟨bb, 0, none⟩), chV id f o t] w fun r w' => r = .returned (.tuple #[zV, .iface 236 (.pointer (some p))]) ∧ Below w.heap.size w w' := by
  have HB : Hid (Below w.heap.size w (fiW w id f o t)) := fiW_below w id f o t
  have HG : Hid (Calls _ _ _ _ _) := get_no lo bb n mo C id hid hn (fiW w id f o t) (h.step HB.out)
  have HC : Hid (_) := fiW_ch w id f o t
  have HE : Hid (_) := fiW_ev w id f o t
  have HZ : Hid (_) := fiW_size w id f o t
  have HN : Hid (w.cell? ⟨8, 0, none⟩ = some (.iface 236 (.pointer (some p)))) := hN
  clear h hN hn hid
  unfold chV
  go_enter Tryz.func134, Tryz.ntmps134
  generalize hw0 : fiW w id f o t = w0 at HB HG HC HE HZ
  obtain ⟨c0, c1, c2, c3⟩ := blk4 HC.out
  have hw1 : (w.alloc (.cells #[.string id, .string f, .string o, .string t] 82)).alloc (.cells #[.string ⟨#[]⟩, .string ⟨#[]⟩, .int .i64 0, .int .i64 0, .string ⟨#[]⟩, .int .i64 0, .slice none 0 0, .int .i64 0, .int .i64 0, .slice none 0 0, .slice none 0 0] 27) = w0 := hw0
  clear hw0
  go_upto_region 2 with (go_at_call 94; refine Calls.mono HG.out ?_; rintro r w1 ⟨sl', skv', mvv', rfl, hL1, hb1⟩; obtain ⟨r1, rc1, rfl, _⟩ := hL1.d; obtain ⟨s1, sc1, rfl, _⟩ := hL1.s; obtain ⟨m1, mc1, rfl, _⟩ := hL1.m; unfold ev zE; dsimp only)
  have B2 : Hid (Below w.heap.size w (w1.alloc (.cells #[.string ⟨#[]⟩, .string ⟨#[]⟩, .int .i64 0, .int .i64 0, .string ⟨#[]⟩, .int .i64 0, .slice r1 0 rc1, .int .i64 0, .int .i64 0, .slice s1 0 sc1, .slice m1 0 mc1] 27))) := below_then HB.out (below_then hb1 (below_alloc _ _))
  have KR : Hid ((w1.alloc (.cells #[.string ⟨#[]⟩, .string ⟨#[]⟩, .int .i64 0, .int .i64 0, .string ⟨#[]⟩, .int .i64 0, .slice r1 0 rc1, .int .i64 0, .int .i64 0, .slice s1 0 sc1, .slice m1 0 mc1] 27)).heap[w.heap.size + 1]? = some (.cells #[.string ⟨#[]⟩, .string ⟨#[]⟩, .int .i64 0, .int .i64 0, .string ⟨#[]⟩, .int .i64 0, .slice none 0 0, .int .i64 0, .int .i64 0, .slice none 0 0, .slice none 0 0] 27 (0, 0))) := block_alloc _ ((hb1.block _ (Array.getElem?_eq_some_iff.1 HE.out).1).trans HE.out)
  have hN2 := cell_step HN.out B2.out
  have hne : 8 ≠ w.heap.size + 1 := by have := lt_of_cell HN.out; omega
  clear HG HC HE HB HN c0 c1 c2 c3 hw1
  generalize w1.alloc (.cells #[.string ⟨#[]⟩, .string ⟨#[]⟩, .int .i64 0, .int .i64 0, .string ⟨#[]⟩, .int .i64 0, .slice r1 0 rc1, .int .i64 0, .int .i64 0, .slice s1 0 sc1, .slice m1 0 mc1] 27) = w2 at B2 KR hN2 ⊢
  obtain ⟨t0, t1, t2, t3, t4, t5, t6, t7, t8, t9, t10⟩ := blk11 KR.out
  have f0 := blk11_frozen KR.out 0
  have f1 := blk11_frozen KR.out 1
  have f2 := blk11_frozen KR.out 2
  have f3 := blk11_frozen KR.out 3
  have f4 := blk11_frozen KR.out 4
  have f5 := blk11_frozen KR.out 5
  have f6 := blk11_frozen KR.out 6
  have f7 := blk11_frozen KR.out 7
  have f8 := blk11_frozen KR.out 8
  have f9 := blk11_frozen KR.out 9
  have f10 := blk11_frozen KR.out 10
  have NC : Hid (w2.drew.cell? ⟨8, 0, none⟩ = some (.iface 236 (.pointer (some p)))) := hN2
  have ND : Hid ((put11 w2 (w.heap.size + 1) (.string ⟨#[]⟩) (.string ⟨#[]⟩) (.int .i64 0) (.int .i64 0) (.string ⟨#[]⟩) (.int .i64 0) (.slice none 0 0) (.int .i64 0) (.int .i64 0) (.slice none 0 0) (.slice none 0 0)).drew.cell? ⟨8, 0, none⟩ = some (.iface 236 (.pointer (some p)))) := cell_step (put11_cell _ _ _ _ _ _ _ _ _ _ _ hN2 hne) (drew_below _)
  go_wp2
  go_region_held3 (fun W => W.cell? ⟨8, 0, none⟩ = some (.iface 236 (.pointer (some p)))) (first | (rw [put11_fold]; exact ND.out) | with_reducible exact NC.out) (fail)
  rw [put11_fold]
  have n10 := put11_blk (.string ⟨#[]⟩) (.string ⟨#[]⟩) (.int .i64 0) (.int .i64 0) (.string ⟨#[]⟩) (.int .i64 0) (.slice none 0 0) (.int .i64 0) (.int .i64 0) (.slice none 0 0) (.slice none 0 0) KR.out
  have g7 := put11_grown w2 (w.heap.size + 1) (.string ⟨#[]⟩) (.string ⟨#[]⟩) (.int .i64 0) (.int .i64 0) (.string ⟨#[]⟩) (.int .i64 0) (.slice none 0 0) (.int .i64 0) (.int .i64 0) (.slice none 0 0) (.slice none 0 0)
  clear t0 t1 t2 t3 t4 t5 t6 t7 t8 t9 t10 f0 f1 f2 f3 f4 f5 f6 f7 f8 f9 f10
  generalize put11 w2 (w.heap.size + 1) (.string ⟨#[]⟩) (.string ⟨#[]⟩) (.int .i64 0) (.int .i64 0) (.string ⟨#[]⟩) (.int .i64 0) (.slice none 0 0) (.int .i64 0) (.int .i64 0) (.slice none 0 0) (.slice none 0 0) = w7 at n10 g7 ⊢
  have n11 : w7.drew.heap[w.heap.size + 1]? = some _ := n10
  have B7 : Hid (Below w.heap.size w w7.drew) := below_then (B2.out.grown g7 B2.out.size (fun k q => by cases q; exact Nat.le_succ _)) (drew_below _)
  clear n10 g7
  generalize w7.drew = w8 at n11 B7 ⊢
  obtain ⟨c0, c1, c2, c3, c4, c5, c6, c7, c8, c9, c10⟩ := blk11 n11
  go_wp2
  refine bodyPost_ret (v := .tuple #[zV, .iface 236 (.pointer (some p))]) (by simp [results, Tryz.f134, go_sem, c0, c1, c2, c3, c4, c5, c6, c7, c8, c9, c10, zV]) rfl ⟨rfl, B7.out⟩
end Go.Proofs.YtjhlbkjcchejjaaGreatDoor

/- Package diff's find, where the event is no longer as the change knew it. -/
namespace Go.Proofs.YtjhlbkjcchejjaaGreatDoor
open Go Go.RowKit Go.Maps Go.Sort Cal
attribute [local go_sem] Oper.semAt_some

set_option maxHeartbeats 1000000 in
set_option maxRecDepth 100000 in
theorem find_stale (lo bb n : Nat) (mo : Option Nat) (C : List EV) (E : EV) (hE : E ∈ C) (k : Nat) (hk : k < 7) (o t : ByteArray) (ho : o ≠ bs (cT E k)) (p : Addr) (s : Nat → Addr) (w : World) (gk : GlobK s w) (g : GlobR w) (h : BookAt lo w bb mo n C) (hS : w.cell? ⟨9, 0, none⟩ = some (.iface 236 (.pointer (some p)))) :
    Calls Tryz.prog 134 #[.pointer (some ⟨bb, 0, none⟩), chV E.id (fieldB k) o t] w fun r w' => r = .returned (.tuple #[zV, .iface 236 (.pointer (some p))]) ∧ Below w.heap.size w w' := by
  have HW : Hid (EW E) := (h.rises.2 E hE)
  have HB : Hid (Below w.heap.size w (fiW w E.id (fieldB k) o t)) := fiW_below w E.id (fieldB k) o t
  have HG : Hid (Calls _ _ _ _ _) := get_C lo bb n mo C E hE (fiW w E.id (fieldB k) o t) (h.step HB.out)
  have HC : Hid (_) := fiW_ch w E.id (fieldB k) o t
  have HE : Hid (_) := fiW_ev w E.id (fieldB k) o t
  have HZ : Hid (_) := fiW_size w E.id (fieldB k) o t
  have HS : Hid (w.cell? ⟨9, 0, none⟩ = some (.iface 236 (.pointer (some p)))) := hS
  have GK : Hid (GlobK s w) := gk
  have GR : Hid (GlobR w) := g
  have hne : 9 ≠ w.heap.size + 1 := by have := lt_of_cell hS; omega
  have NE : Hid (9 ≠ w.heap.size + 1) := hne
  have TX : Hid (∀ sl skv mvv W, Below w.heap.size w W → Ls W E sl skv mvv → Calls Tryz.prog 95 #[ev E sl skv mvv, .string (fieldB k)] W fun r w' => r = .returned (.string (bs (cT E k))) ∧ Below W.heap.size W w') := fun sl skv mvv W hW hl => textOf_any E sl skv mvv k hk s W (GK.out.step hW) (GR.out.step hW) hl HW.out
  clear h hS gk g hE hne HW GK GR
  generalize bs (cT E k) = tx at TX ho ⊢
  generalize fieldB k = fb at *
  unfold chV
  go_enter Tryz.func134, Tryz.ntmps134
  generalize hw0 : fiW w E.id fb o t = w0 at HB HG HC HE HZ
  obtain ⟨c0, c1, c2, c3⟩ := blk4 HC.out
  have hw1 : (w.alloc (.cells #[.string E.id, .string fb, .string o, .string t] 82)).alloc (.cells #[.string ⟨#[]⟩, .string ⟨#[]⟩, .int .i64 0, .int .i64 0, .string ⟨#[]⟩, .int .i64 0, .slice none 0 0, .int .i64 0, .int .i64 0, .slice none 0 0, .slice none 0 0] 27) = w0 := hw0
  clear hw0
  go_upto_region 2 with (go_at_call 94; refine Calls.mono HG.out ?_; rintro r w1 ⟨sl', skv', mvv', rfl, hL1, hb1⟩; obtain ⟨r1, rc1, rfl, _⟩ := hL1.d; obtain ⟨s1, sc1, rfl, _⟩ := hL1.s; obtain ⟨m1, mc1, rfl, _⟩ := hL1.m; unfold ev; dsimp only)
  have B2 : Hid (Below w.heap.size w (w1.alloc (.cells #[.string E.id, .string E.ti, .int .i64 E.st, .int .i64 E.lg, .string E.f, .int .i64 E.e, .slice r1 E.ds.length rc1, .int .i64 E.c, .int .i64 E.u, .slice s1 E.sk.length sc1, .slice m1 E.mv.length mc1] 27))) := below_then HB.out (below_then hb1 (below_alloc _ _))
  have KR : Hid ((w1.alloc (.cells #[.string E.id, .string E.ti, .int .i64 E.st, .int .i64 E.lg, .string E.f, .int .i64 E.e, .slice r1 E.ds.length rc1, .int .i64 E.c, .int .i64 E.u, .slice s1 E.sk.length sc1, .slice m1 E.mv.length mc1] 27)).heap[w.heap.size + 1]? = some (.cells #[.string ⟨#[]⟩, .string ⟨#[]⟩, .int .i64 0, .int .i64 0, .string ⟨#[]⟩, .int .i64 0, .slice none 0 0, .int .i64 0, .int .i64 0, .slice none 0 0, .slice none 0 0] 27 (0, 0))) := block_alloc _ ((hb1.block _ (Array.getElem?_eq_some_iff.1 HE.out).1).trans HE.out)
  have KC : Hid ((w1.alloc (.cells #[.string E.id, .string E.ti, .int .i64 E.st, .int .i64 E.lg, .string E.f, .int .i64 E.e, .slice r1 E.ds.length rc1, .int .i64 E.c, .int .i64 E.u, .slice s1 E.sk.length sc1, .slice m1 E.mv.length mc1] 27)).heap[w.heap.size]? = some (.cells #[.string E.id, .string fb, .string o, .string t] 82 (0, 0))) := block_alloc _ ((hb1.block _ (Array.getElem?_eq_some_iff.1 HC.out).1).trans HC.out)
  have KE : Hid ((w1.alloc (.cells #[.string E.id, .string E.ti, .int .i64 E.st, .int .i64 E.lg, .string E.f, .int .i64 E.e, .slice r1 E.ds.length rc1, .int .i64 E.c, .int .i64 E.u, .slice s1 E.sk.length sc1, .slice m1 E.mv.length mc1] 27)).heap[w1.heap.size]? = some (.cells #[.string E.id, .string E.ti, .int .i64 E.st, .int .i64 E.lg, .string E.f, .int .i64 E.e, .slice r1 E.ds.length rc1, .int .i64 E.c, .int .i64 E.u, .slice s1 E.sk.length sc1, .slice m1 E.mv.length mc1] 27 (0, 0))) := block_at _ rfl
  have LE : Hid (Ls (w1.alloc (.cells #[.string E.id, .string E.ti, .int .i64 E.st, .int .i64 E.lg, .string E.f, .int .i64 E.e, .slice r1 E.ds.length rc1, .int .i64 E.c, .int .i64 E.u, .slice s1 E.sk.length sc1, .slice m1 E.mv.length mc1] 27)) E (.slice r1 E.ds.length rc1) (.slice s1 E.sk.length sc1) (.slice m1 E.mv.length mc1)) := hL1.step (below_alloc _ _)
  have hS2 := cell_step HS.out B2.out
  have SC : Hid ((w1.alloc (.cells #[.string E.id, .string E.ti, .int .i64 E.st, .int .i64 E.lg, .string E.f, .int .i64 E.e, .slice r1 E.ds.length rc1, .int .i64 E.c, .int .i64 E.u, .slice s1 E.sk.length sc1, .slice m1 E.mv.length mc1] 27)).cell? ⟨9, 0, none⟩ = some (.iface 236 (.pointer (some p)))) := hS2
  clear HG HC HE HB HS c0 c1 c2 c3 hw1 hS2 hL1
  have hwz : w.heap.size + 2 ≤ w1.heap.size := by have := HZ.out; have := hb1.size; omega
  clear HZ hb1
  generalize w1.alloc (.cells #[.string E.id, .string E.ti, .int .i64 E.st, .int .i64 E.lg, .string E.f, .int .i64 E.e, .slice r1 E.ds.length rc1, .int .i64 E.c, .int .i64 E.u, .slice s1 E.sk.length sc1, .slice m1 E.mv.length mc1] 27) = w2 at B2 KR KC KE LE SC ⊢
  generalize w1.heap.size = be at *
  obtain ⟨c0, c1, c2, c3⟩ := blk4 KC.out
  obtain ⟨x0, x1, x2, x3, x4, x5, x6, x7, x8, x9, x10⟩ := blk11 KE.out
  have C1 := cell_regrown c1
  have C2 := cell_regrown c2
  have X0 := cell_regrown x0
  have X1 := cell_regrown x1
  have X2 := cell_regrown x2
  have X3 := cell_regrown x3
  have X4 := cell_regrown x4
  have X5 := cell_regrown x5
  have X6 := cell_regrown x6
  have X7 := cell_regrown x7
  have X8 := cell_regrown x8
  have X9 := cell_regrown x9
  have X10 := cell_regrown x10
  have T1 : Hid (∀ d os, Calls Tryz.prog 95 #[.agg #[.string E.id, .string E.ti, .int .i64 E.st, .int .i64 E.lg, .string E.f, .int .i64 E.e, .slice r1 E.ds.length rc1, .int .i64 E.c, .int .i64 E.u, .slice s1 E.sk.length sc1, .slice m1 E.mv.length mc1], .string fb] (grow (redrawn w2 d) os) fun r w'' => r = .returned (.string tx) ∧ ∃ p : Regrown, w'' = grow (redrawn w2 p.d) p.os) := fun d os => Calls.regrown_of (TX.out _ _ _ _ (below_then B2.out (below_regrown _ _ _)) (LE.out.step (below_regrown _ _ _)))
  go_upto_region 4 with (fail)
  refine wp_region_quiet_below (by kernel_rfl) (by kernel_rfl) ?_
  repeat (quiet_step (first | (go_at_call 95; exact T1.out _ _)))
  refine wpQuiet_nil ?_
  intro w3 hw'
  have hb3 : Below w2.heap.size w2 w3 := by
    obtain ⟨⟨dq, osq⟩, hw''⟩ := hw'
    subst hw''
    exact below_regrown _ _ _
  clear hw' X0 X1 X2 X3 X4 X5 X6 X7 X8 X9 X10 C1 C2 x0 x1 x2 x3 x4 x5 x6 x7 x8 x9 x10 c0 c1 c2 c3 T1
  have B3 : Hid (Below w.heap.size w w3) := below_then B2.out hb3
  have KR3 : Hid (w3.heap[w.heap.size + 1]? = some (.cells #[.string ⟨#[]⟩, .string ⟨#[]⟩, .int .i64 0, .int .i64 0, .string ⟨#[]⟩, .int .i64 0, .slice none 0 0, .int .i64 0, .int .i64 0, .slice none 0 0, .slice none 0 0] 27 (0, 0))) := (hb3.block _ (Array.getElem?_eq_some_iff.1 KR.out).1).trans KR.out
  have KE3 : Hid (w3.heap[be]? = some (.cells #[.string E.id, .string E.ti, .int .i64 E.st, .int .i64 E.lg, .string E.f, .int .i64 E.e, .slice r1 E.ds.length rc1, .int .i64 E.c, .int .i64 E.u, .slice s1 E.sk.length sc1, .slice m1 E.mv.length mc1] 27 (0, 0))) := (hb3.block _ (Array.getElem?_eq_some_iff.1 KE.out).1).trans KE.out
  have LE3 : Hid (Ls w3 E (.slice r1 E.ds.length rc1) (.slice s1 E.sk.length sc1) (.slice m1 E.mv.length mc1)) := LE.out.step hb3
  have hN3 := cell_step SC.out hb3
  clear KR KE LE SC KC hb3 B2 TX
  obtain ⟨t0, t1, t2, t3, t4, t5, t6, t7, t8, t9, t10⟩ := blk11 KR3.out
  have f0 := blk11_frozen KR3.out 0
  have f1 := blk11_frozen KR3.out 1
  have f2 := blk11_frozen KR3.out 2
  have f3 := blk11_frozen KR3.out 3
  have f4 := blk11_frozen KR3.out 4
  have f5 := blk11_frozen KR3.out 5
  have f6 := blk11_frozen KR3.out 6
  have f7 := blk11_frozen KR3.out 7
  have f8 := blk11_frozen KR3.out 8
  have f9 := blk11_frozen KR3.out 9
  have f10 := blk11_frozen KR3.out 10
  have HO : Hid (o ≠ tx) := ho
  have hq : (tx.toList == o.toList) = false := txt_ne (fun q => ho q.symm)
  clear ho
  have NC : Hid (w3.drew.cell? ⟨9, 0, none⟩ = some (.iface 236 (.pointer (some p)))) := hN3
  have ND : Hid ((put11 w3 (w.heap.size + 1) (.string ⟨#[]⟩) (.string ⟨#[]⟩) (.int .i64 0) (.int .i64 0) (.string ⟨#[]⟩) (.int .i64 0) (.slice none 0 0) (.int .i64 0) (.int .i64 0) (.slice none 0 0) (.slice none 0 0)).drew.cell? ⟨9, 0, none⟩ = some (.iface 236 (.pointer (some p)))) := cell_step (put11_cell _ _ _ _ _ _ _ _ _ _ _ hN3 NE.out) (drew_below _)
  rw [hq, Bool.not_false]
  clear hq hN3
  go_wp2
  go_region_held3 (fun W => W.cell? ⟨9, 0, none⟩ = some (.iface 236 (.pointer (some p)))) (first | (rw [put11_fold]; exact ND.out) | with_reducible exact NC.out) (fail)
  rw [put11_fold]
  have n10 := put11_blk (.string ⟨#[]⟩) (.string ⟨#[]⟩) (.int .i64 0) (.int .i64 0) (.string ⟨#[]⟩) (.int .i64 0) (.slice none 0 0) (.int .i64 0) (.int .i64 0) (.slice none 0 0) (.slice none 0 0) KR3.out
  have g7 := put11_grown w3 (w.heap.size + 1) (.string ⟨#[]⟩) (.string ⟨#[]⟩) (.int .i64 0) (.int .i64 0) (.string ⟨#[]⟩) (.int .i64 0) (.slice none 0 0) (.int .i64 0) (.int .i64 0) (.slice none 0 0) (.slice none 0 0)
  clear t0 t1 t2 t3 t4 t5 t6 t7 t8 t9 t10 f0 f1 f2 f3 f4 f5 f6 f7 f8 f9 f10
  generalize put11 w3 (w.heap.size + 1) (.string ⟨#[]⟩) (.string ⟨#[]⟩) (.int .i64 0) (.int .i64 0) (.string ⟨#[]⟩) (.int .i64 0) (.slice none 0 0) (.int .i64 0) (.int .i64 0) (.slice none 0 0) (.slice none 0 0) = w7 at n10 g7 ⊢
  have n11 : w7.drew.heap[w.heap.size + 1]? = some _ := n10
  have B7 : Hid (Below w.heap.size w w7.drew) := below_then (B3.out.grown g7 B3.out.size (fun k q => by cases q; exact Nat.le_succ _)) (drew_below _)
  clear n10 g7 NC ND
  generalize w7.drew = w8 at n11 B7 ⊢
  obtain ⟨c0, c1, c2, c3, c4, c5, c6, c7, c8, c9, c10⟩ := blk11 n11
  go_wp2
  refine bodyPost_ret (v := .tuple #[zV, .iface 236 (.pointer (some p))]) (by simp [results, Tryz.f134, go_sem, c0, c1, c2, c3, c4, c5, c6, c7, c8, c9, c10, zV]) rfl ⟨rfl, B7.out⟩
end Go.Proofs.YtjhlbkjcchejjaaGreatDoor

/- A list of numbers, or of moves, lies in no block that begins with a text. -/
namespace Go.Proofs.YtjhlbkjcchejjaaGreatDoor
open Go Go.RowKit Cal

theorem off_blkI {W : World} {v : Value} {xs : List Int} {B : Nat} {x : ByteArray} (h : Ints W v xs) (h30 : xs.length ≤ 60) (hb : W.cell? ⟨B, 0, none⟩ = some (.string x)) : OffI (· = B) W v xs := by
  obtain ⟨a, c, h1, h2, h3, h4⟩ := h
  refine ⟨a, c, h1, h30, h3, fun j hj => ?_⟩
  obtain ⟨b, e, hl, hc⟩ := h4 j hj
  refine ⟨b, e, fun q => ?_, hl, hc⟩
  obtain ⟨b', e', _, hc'⟩ := h4 0 (by omega)
  have eb : b' = b := by rw [e] at e'; cases e'; rfl
  have q' : b = B := q
  rw [eb, q', hb] at hc'
  cases hc'
theorem off_blkM {W : World} {v : Value} {xs : List (Int × Int)} {B : Nat} {x : ByteArray} (h : Movs W v xs) (h30 : xs.length ≤ 60) (hb : W.cell? ⟨B, 0, none⟩ = some (.string x)) : OffM (· = B) W v xs := by
  obtain ⟨a, c, h1, h2, h3, h4⟩ := h
  refine ⟨a, c, h1, h30, h3, fun j hj => ?_⟩
  obtain ⟨b, e, hl, hc⟩ := h4 j hj
  refine ⟨b, e, fun q => ?_, hl, hc⟩
  obtain ⟨b', e', _, hc', _⟩ := h4 0 (by omega)
  have eb : b' = b := by rw [e] at e'; cases e'; rfl
  have q' : b = B := q
  rw [eb, q', Nat.zero_mul, hb] at hc'
  cases hc'
end Go.Proofs.YtjhlbkjcchejjaaGreatDoor

/- Package diff's find, where the event is as the change knew it. -/
namespace Go.Proofs.YtjhlbkjcchejjaaGreatDoor
open Go Go.RowKit Go.Maps Go.Sort Cal
attribute [local go_sem] Oper.semAt_some

set_option maxHeartbeats 1000000 in
set_option maxRecDepth 100000 in
theorem find_found (lo bb n : Nat) (mo : Option Nat) (C : List EV) (E : EV) (hE : E ∈ C) (k : Nat) (hk : k < 7) (o t : ByteArray) (ho : o = bs (cT E k)) (s : Nat → Addr) (w : World) (gk : GlobK s w) (g : GlobR w) (h : BookAt lo w bb mo n C) :
    Calls Tryz.prog 134 #[.pointer (some ⟨bb, 0, none⟩), chV E.id (fieldB k) o t] w fun r w' => ∃ sl skv mvv, r = .returned (.tuple #[ev E sl skv mvv, .nilIface]) ∧ Ls w' E sl skv mvv ∧ Below w.heap.size w w' := by
  have HW : Hid (EW E) := (h.rises.2 E hE)
  have HB : Hid (Below w.heap.size w (fiW w E.id (fieldB k) o t)) := fiW_below w E.id (fieldB k) o t
  have HG : Hid (Calls _ _ _ _ _) := get_C lo bb n mo C E hE (fiW w E.id (fieldB k) o t) (h.step HB.out)
  have HC : Hid (_) := fiW_ch w E.id (fieldB k) o t
  have HE : Hid (_) := fiW_ev w E.id (fieldB k) o t
  have HZ : Hid (_) := fiW_size w E.id (fieldB k) o t
  have GK : Hid (GlobK s w) := gk
  have GR : Hid (GlobR w) := g
  have TX : Hid (∀ sl skv mvv W, Below w.heap.size w W → Ls W E sl skv mvv → Calls Tryz.prog 95 #[ev E sl skv mvv, .string (fieldB k)] W fun r w' => r = .returned (.string (bs (cT E k))) ∧ Below W.heap.size W w') := fun sl skv mvv W hW hl => textOf_any E sl skv mvv k hk s W (GK.out.step hW) (GR.out.step hW) hl HW.out
  have HB3 : Hid (E.ds.length ≤ 20 ∧ E.sk.length ≤ 20 ∧ E.mv.length ≤ 20) := by
    obtain ⟨i12, t40, k20, m20⟩ := ew_bd HW.out
    obtain ⟨D, h1, h2, h3, h4⟩ := id h
    exact ⟨(h4.at_ E hE).1.2, k20, m20⟩
  clear h gk g hE HW GK GR
  have HO : Hid (o = bs (cT E k)) := ho
  clear ho
  generalize bs (cT E k) = tx at TX HO
  generalize fieldB k = fb at *
  unfold chV
  go_enter Tryz.func134, Tryz.ntmps134
  generalize hw0 : fiW w E.id fb o t = w0 at HB HG HC HE HZ
  obtain ⟨c0, c1, c2, c3⟩ := blk4 HC.out
  have hw1 : (w.alloc (.cells #[.string E.id, .string fb, .string o, .string t] 82)).alloc (.cells #[.string ⟨#[]⟩, .string ⟨#[]⟩, .int .i64 0, .int .i64 0, .string ⟨#[]⟩, .int .i64 0, .slice none 0 0, .int .i64 0, .int .i64 0, .slice none 0 0, .slice none 0 0] 27) = w0 := hw0
  clear hw0
  go_upto_region 2 with (go_at_call 94; refine Calls.mono HG.out ?_; rintro r w1 ⟨sl', skv', mvv', rfl, hL1, hb1⟩; obtain ⟨r1, rc1, rfl, _⟩ := hL1.d; obtain ⟨s1, sc1, rfl, _⟩ := hL1.s; obtain ⟨m1, mc1, rfl, _⟩ := hL1.m; unfold ev; dsimp only)
  have B2 : Hid (Below w.heap.size w (w1.alloc (.cells #[.string E.id, .string E.ti, .int .i64 E.st, .int .i64 E.lg, .string E.f, .int .i64 E.e, .slice r1 E.ds.length rc1, .int .i64 E.c, .int .i64 E.u, .slice s1 E.sk.length sc1, .slice m1 E.mv.length mc1] 27))) := below_then HB.out (below_then hb1 (below_alloc _ _))
  have KR : Hid ((w1.alloc (.cells #[.string E.id, .string E.ti, .int .i64 E.st, .int .i64 E.lg, .string E.f, .int .i64 E.e, .slice r1 E.ds.length rc1, .int .i64 E.c, .int .i64 E.u, .slice s1 E.sk.length sc1, .slice m1 E.mv.length mc1] 27)).heap[w.heap.size + 1]? = some (.cells #[.string ⟨#[]⟩, .string ⟨#[]⟩, .int .i64 0, .int .i64 0, .string ⟨#[]⟩, .int .i64 0, .slice none 0 0, .int .i64 0, .int .i64 0, .slice none 0 0, .slice none 0 0] 27 (0, 0))) := block_alloc _ ((hb1.block _ (Array.getElem?_eq_some_iff.1 HE.out).1).trans HE.out)
  have KC : Hid ((w1.alloc (.cells #[.string E.id, .string E.ti, .int .i64 E.st, .int .i64 E.lg, .string E.f, .int .i64 E.e, .slice r1 E.ds.length rc1, .int .i64 E.c, .int .i64 E.u, .slice s1 E.sk.length sc1, .slice m1 E.mv.length mc1] 27)).heap[w.heap.size]? = some (.cells #[.string E.id, .string fb, .string o, .string t] 82 (0, 0))) := block_alloc _ ((hb1.block _ (Array.getElem?_eq_some_iff.1 HC.out).1).trans HC.out)
  have KE : Hid ((w1.alloc (.cells #[.string E.id, .string E.ti, .int .i64 E.st, .int .i64 E.lg, .string E.f, .int .i64 E.e, .slice r1 E.ds.length rc1, .int .i64 E.c, .int .i64 E.u, .slice s1 E.sk.length sc1, .slice m1 E.mv.length mc1] 27)).heap[w1.heap.size]? = some (.cells #[.string E.id, .string E.ti, .int .i64 E.st, .int .i64 E.lg, .string E.f, .int .i64 E.e, .slice r1 E.ds.length rc1, .int .i64 E.c, .int .i64 E.u, .slice s1 E.sk.length sc1, .slice m1 E.mv.length mc1] 27 (0, 0))) := block_at _ rfl
  have LE : Hid (Ls (w1.alloc (.cells #[.string E.id, .string E.ti, .int .i64 E.st, .int .i64 E.lg, .string E.f, .int .i64 E.e, .slice r1 E.ds.length rc1, .int .i64 E.c, .int .i64 E.u, .slice s1 E.sk.length sc1, .slice m1 E.mv.length mc1] 27)) E (.slice r1 E.ds.length rc1) (.slice s1 E.sk.length sc1) (.slice m1 E.mv.length mc1)) := hL1.step (below_alloc _ _)
  clear HG HC HE HB c0 c1 c2 c3 hw1 hL1
  have hwz : w.heap.size + 2 ≤ w1.heap.size := by have := HZ.out; have := hb1.size; omega
  clear HZ hb1
  generalize w1.alloc (.cells #[.string E.id, .string E.ti, .int .i64 E.st, .int .i64 E.lg, .string E.f, .int .i64 E.e, .slice r1 E.ds.length rc1, .int .i64 E.c, .int .i64 E.u, .slice s1 E.sk.length sc1, .slice m1 E.mv.length mc1] 27) = w2 at B2 KR KC KE LE ⊢
  generalize w1.heap.size = be at *
  obtain ⟨c0, c1, c2, c3⟩ := blk4 KC.out
  obtain ⟨x0, x1, x2, x3, x4, x5, x6, x7, x8, x9, x10⟩ := blk11 KE.out
  have C1 := cell_regrown c1
  have C2 := cell_regrown c2
  have X0 := cell_regrown x0
  have X1 := cell_regrown x1
  have X2 := cell_regrown x2
  have X3 := cell_regrown x3
  have X4 := cell_regrown x4
  have X5 := cell_regrown x5
  have X6 := cell_regrown x6
  have X7 := cell_regrown x7
  have X8 := cell_regrown x8
  have X9 := cell_regrown x9
  have X10 := cell_regrown x10
  have T1 : Hid (∀ d os, Calls Tryz.prog 95 #[.agg #[.string E.id, .string E.ti, .int .i64 E.st, .int .i64 E.lg, .string E.f, .int .i64 E.e, .slice r1 E.ds.length rc1, .int .i64 E.c, .int .i64 E.u, .slice s1 E.sk.length sc1, .slice m1 E.mv.length mc1], .string fb] (grow (redrawn w2 d) os) fun r w'' => r = .returned (.string tx) ∧ ∃ p : Regrown, w'' = grow (redrawn w2 p.d) p.os) := fun d os => Calls.regrown_of (TX.out _ _ _ _ (below_then B2.out (below_regrown _ _ _)) (LE.out.step (below_regrown _ _ _)))
  go_upto_region 4 with (fail)
  refine wp_region_quiet_below (by kernel_rfl) (by kernel_rfl) ?_
  repeat (quiet_step (first | (go_at_call 95; exact T1.out _ _)))
  refine wpQuiet_nil ?_
  intro w3 hw'
  have hb3 : Below w2.heap.size w2 w3 := by
    obtain ⟨⟨dq, osq⟩, hw''⟩ := hw'
    subst hw''
    exact below_regrown _ _ _
  clear hw' X0 X1 X2 X3 X4 X5 X6 X7 X8 X9 X10 C1 C2 x0 x1 x2 x3 x4 x5 x6 x7 x8 x9 x10 c0 c1 c2 c3 T1
  have B3 : Hid (Below w.heap.size w w3) := below_then B2.out hb3
  have KR3 : Hid (w3.heap[w.heap.size + 1]? = some (.cells #[.string ⟨#[]⟩, .string ⟨#[]⟩, .int .i64 0, .int .i64 0, .string ⟨#[]⟩, .int .i64 0, .slice none 0 0, .int .i64 0, .int .i64 0, .slice none 0 0, .slice none 0 0] 27 (0, 0))) := (hb3.block _ (Array.getElem?_eq_some_iff.1 KR.out).1).trans KR.out
  have KE3 : Hid (w3.heap[be]? = some (.cells #[.string E.id, .string E.ti, .int .i64 E.st, .int .i64 E.lg, .string E.f, .int .i64 E.e, .slice r1 E.ds.length rc1, .int .i64 E.c, .int .i64 E.u, .slice s1 E.sk.length sc1, .slice m1 E.mv.length mc1] 27 (0, 0))) := (hb3.block _ (Array.getElem?_eq_some_iff.1 KE.out).1).trans KE.out
  have LE3 : Hid (Ls w3 E (.slice r1 E.ds.length rc1) (.slice s1 E.sk.length sc1) (.slice m1 E.mv.length mc1)) := LE.out.step hb3
  clear KR KE LE KC hb3 B2 TX
  obtain ⟨t0, t1, t2, t3, t4, t5, t6, t7, t8, t9, t10⟩ := blk11 KR3.out
  obtain ⟨x0, x1, x2, x3, x4, x5, x6, x7, x8, x9, x10⟩ := blk11 KE3.out
  have f0 := blk11_frozen KR3.out 0
  have f1 := blk11_frozen KR3.out 1
  have f2 := blk11_frozen KR3.out 2
  have f3 := blk11_frozen KR3.out 3
  have f4 := blk11_frozen KR3.out 4
  have f5 := blk11_frozen KR3.out 5
  have f6 := blk11_frozen KR3.out 6
  have f7 := blk11_frozen KR3.out 7
  have f8 := blk11_frozen KR3.out 8
  have f9 := blk11_frozen KR3.out 9
  have f10 := blk11_frozen KR3.out 10
  have hq : (tx.toList == o.toList) = true := by rw [HO.out]; exact beq_self_eq_true _
  have HOF : Hid (Off (· = w.heap.size + 1) w3 E (.slice r1 E.ds.length rc1) (.slice s1 E.sk.length sc1) (.slice m1 E.mv.length mc1)) := ⟨off_blkI (days_ints LE3.out.d) (by have := HB3.out; omega) t0, off_blkI LE3.out.s (by have := HB3.out; omega) t0, off_blkM LE3.out.m (by have := HB3.out; omega) t0⟩
  rw [hq, Bool.not_true]
  clear hq
  go_wp2
  rw [put11_fold]
  have n10 := put11_blk (.string E.id) (.string E.ti) (.int .i64 E.st) (.int .i64 E.lg) (.string E.f) (.int .i64 E.e) (.slice r1 E.ds.length rc1) (.int .i64 E.c) (.int .i64 E.u) (.slice s1 E.sk.length sc1) (.slice m1 E.mv.length mc1) KR3.out
  have g7 := put11_grown w3 (w.heap.size + 1) (.string E.id) (.string E.ti) (.int .i64 E.st) (.int .i64 E.lg) (.string E.f) (.int .i64 E.e) (.slice r1 E.ds.length rc1) (.int .i64 E.c) (.int .i64 E.u) (.slice s1 E.sk.length sc1) (.slice m1 E.mv.length mc1)
  clear t0 t1 t2 t3 t4 t5 t6 t7 t8 t9 t10 f0 f1 f2 f3 f4 f5 f6 f7 f8 f9 f10 x0 x1 x2 x3 x4 x5 x6 x7 x8 x9 x10
  generalize put11 w3 (w.heap.size + 1) (.string E.id) (.string E.ti) (.int .i64 E.st) (.int .i64 E.lg) (.string E.f) (.int .i64 E.e) (.slice r1 E.ds.length rc1) (.int .i64 E.c) (.int .i64 E.u) (.slice s1 E.sk.length sc1) (.slice m1 E.mv.length mc1) = w7 at n10 g7 ⊢
  have B7 : Hid (Below w.heap.size w w7) := B3.out.grown g7 B3.out.size (fun k q => by cases q; exact Nat.le_succ _)
  have L7 : Hid (Ls w7 E (.slice r1 E.ds.length rc1) (.slice s1 E.sk.length sc1) (.slice m1 E.mv.length mc1)) := (HOF.out.grown rfl g7).ls HB3.out.1
  obtain ⟨c0, c1, c2, c3, c4, c5, c6, c7, c8, c9, c10⟩ := blk11 n10
  refine bodyPost_ret (v := .tuple #[ev E (.slice r1 E.ds.length rc1) (.slice s1 E.sk.length sc1) (.slice m1 E.mv.length mc1), .nilIface]) (by simp [results, Tryz.f134, go_sem, c0, c1, c2, c3, c4, c5, c6, c7, c8, c9, c10, ev]) rfl ⟨_, _, _, rfl, L7.out, B7.out⟩
end Go.Proofs.YtjhlbkjcchejjaaGreatDoor
