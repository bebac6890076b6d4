/- Package diff's find in one; set, add, drop: a change applied to a calendar. -/
import Derived.Test.YtjhlbkjcchejjaaGreatDoorYaT
import Derived.Test.YtjhlbkjcchejjaaGreatDoorBpFW
namespace Go.Proofs.YtjhlbkjcchejjaaGreatDoor
open Go Go.RowKit Go.Maps Cal
attribute [local go_sem] Oper.semAt_some

/-- the package-level variables that package diff reads -/
structure GlobD (s : Nat → Addr) (w : World) : Prop where
  gk : GlobK s w
  gr : GlobR w
  nn : ∃ p, w.cell? ⟨8, 0, none⟩ = some (.iface 236 (.pointer (some p)))
  st : ∃ p, w.cell? ⟨9, 0, none⟩ = some (.iface 236 (.pointer (some p)))
theorem GlobD.step {s : Nat → Addr} {w w' : World} (g : GlobD s w) (hb : Below w.heap.size w w') : GlobD s w' := by
  obtain ⟨p, hp⟩ := g.nn
  obtain ⟨q, hq⟩ := g.st
  exact ⟨g.gk.step hb, g.gr.step hb, ⟨p, cell_step hp hb⟩, ⟨q, cell_step hq hb⟩⟩
theorem bs_inj {a b : List UInt8} (h : bs a = bs b) : a = b := by
  have := congrArg (fun x => x.data.toList) h
  exact this
theorem PutTo.from {lo : Nat} {w w1 w2 : World} {bb : Nat} {mo : Option Nat} {n : Nat} {C : List EV} (hb : Below w.heap.size w w1) (h : PutTo lo w1 w2 bb mo n C) : PutTo lo w w2 bb mo n C := by
  obtain ⟨mo', q1, q2, q3⟩ := h
  exact ⟨mo', q1, kept_from hb q2, q3.imp id (fun q => ⟨q.1, fun mb e => Nat.le_trans hb.size (q.2 mb e)⟩)⟩
theorem BookAt.more {lo : Nat} {W : World} {bb : Nat} {mo : Option Nat} {n n' : Nat} {C : List EV} (h : BookAt lo W bb mo n C) (hn : n ≤ n') : BookAt lo W bb mo n' C := by
  obtain ⟨D, h1, h2, h3, h4⟩ := h
  exact ⟨D, bok_mono h1 hn, h2, h3, h4⟩

theorem find_C (lo bb n : Nat) (mo : Option Nat) (C : List EV) (id : ByteArray) (k : Nat) (hk : k < 7) (o t : ByteArray) (hid : id.size ≤ 1000) (s : Nat → Addr) (w : World) (g : GlobD s w) (h : BookAt lo w bb mo n C) :
    Calls Tryz.prog 134 #[.pointer (some ⟨bb, 0, none⟩), chV id (fieldB k) o t] w fun r w' => (∃ H ∈ C, H.id = id ∧ o = bs (cT H k) ∧ ∃ sl skv mvv, r = .returned (.tuple #[ev H sl skv mvv, .nilIface]) ∧ Ls w' H sl skv mvv ∧ Below w.heap.size w w') ∨ ((¬ ∃ H ∈ C, H.id = id ∧ o = bs (cT H k)) ∧ (∃ p, r = .returned (.tuple #[zV, .iface 236 (.pointer (some p))])) ∧ Below w.heap.size w w') := by
  obtain ⟨p, hp⟩ := g.nn
  obtain ⟨q, hq⟩ := g.st
  by_cases hx : ∃ H ∈ C, H.id = id
  · obtain ⟨H, hH, rfl⟩ := hx
    by_cases ho : o = bs (cT H k)
    · refine Calls.mono (find_found lo bb n mo C H hH k hk o t ho s w g.gk g.gr h) ?_
      rintro r w' hr
      exact .inl ⟨H, hH, rfl, ho, hr⟩
    · refine Calls.mono (find_stale lo bb n mo C H hH k hk o t ho q s w g.gk g.gr h hq) ?_
      rintro r w' ⟨rfl, hb⟩
      refine .inr ⟨?_, ⟨_, rfl⟩, hb⟩
      rintro ⟨K, hK, e, z⟩
      rw [h.rises.1.uniq hK hH e] at z
      exact ho z
  · refine Calls.mono (find_no lo bb n mo C id (fieldB k) o t p hid hx w h hp) ?_
    rintro r w' ⟨rfl, hb⟩
    exact .inr ⟨fun ⟨H, hH, e, _⟩ => hx ⟨H, hH, e⟩, ⟨_, rfl⟩, hb⟩

set_option maxHeartbeats 1000000 in
set_option maxRecDepth 100000 in
theorem ddrop_C (lo bb n : Nat) (mo : Option Nat) (C : List EV) (id : ByteArray) (o t : ByteArray) (hid : id.size ≤ 1000) (s : Nat → Addr) (w : World) (g : GlobD s w) (h : BookAt lo w bb mo n C) :
    Calls Tryz.prog 100 #[.pointer (some ⟨bb, 0, none⟩), chV id (fieldB 6) o t] w fun r w' => ((∃ H ∈ C, H.id = id ∧ o = bs (eT H)) ∧ r = .returned .nilIface ∧ PutTo lo w w' bb mo n (woC id C)) ∨ ((¬ ∃ H ∈ C, H.id = id ∧ o = bs (eT H)) ∧ (∃ p, r = .returned (.iface 236 (.pointer (some p)))) ∧ Below w.heap.size w w') := by
  obtain ⟨p, hp⟩ := g.nn
  have hA := below_alloc w (.cells #[.string id, .string (fieldB 6), .string o, .string t] 82)
  have kC : (w.alloc (.cells #[.string id, .string (fieldB 6), .string o, .string t] 82)).heap[w.heap.size]? = some (.cells #[.string id, .string (fieldB 6), .string o, .string t] 82 (0, 0)) := block_at _ rfl
  have FD : Hid (Calls _ _ _ _ _) := find_C lo bb n mo C id 6 (by omega) o t hid s _ (g.step hA) (h.step hA)
  have DR : Hid (∀ W, Below w.heap.size w W → Calls Tryz.prog 135 #[.pointer (some ⟨bb, 0, none⟩), .string id] W fun r w' => ((∃ E ∈ C, E.id = id) ∧ r = .returned .nilIface ∧ BookAt lo w' bb mo n (woC id C) ∧ Kept W w' bb mo) ∨ ((¬ ∃ E ∈ C, E.id = id) ∧ r = .returned (.iface 236 (.pointer (some p))) ∧ Below W.heap.size W w')) := fun W hW => drop_C lo bb n mo C id hid p W (h.step hW) (cell_step hp hW)
  have HA : Hid (_) := hA
  clear hA hp g h
  unfold chV at FD ⊢
  generalize fieldB 6 = fb at FD HA kC ⊢
  generalize hw0 : w.alloc (.cells #[.string id, .string fb, .string o, .string t] 82) = w0 at FD HA kC
  obtain ⟨c0, c1, c2, c3⟩ := blk4 kC
  have KC : Hid (∀ W, Below w0.heap.size w0 W → _) := fun W hW => blk4 ((hW.block _ (Array.getElem?_eq_some_iff.1 kC).1).trans kC)
  clear kC
  go_enter Tryz.func100, Tryz.ntmps100
  go_upto_region 2 with (go_at_call 134; refine Calls.mono FD.out ?_; rintro r w1 (⟨H, hH, he, ho, sl, skv, mvv, rfl, hL1, hb1⟩ | ⟨hno, ⟨p1, rfl⟩, hb1⟩) <;> (first | (have HX : Hid (∃ H ∈ C, H.id = id ∧ o = bs (eT H)) := ⟨H, hH, he, ho⟩; clear he ho; obtain ⟨r1, rc1, rfl, _⟩ := hL1.d; obtain ⟨s1, sc1, rfl, _⟩ := hL1.s; obtain ⟨m1, mc1, rfl, _⟩ := hL1.m; unfold ev; dsimp only) | unfold zV))
  · generalize hw2 : w1.alloc (.cells #[.string H.id, .string H.ti, .int .i64 H.st, .int .i64 H.lg, .string H.f, .int .i64 H.e, .slice r1 H.ds.length rc1, .int .i64 H.c, .int .i64 H.u, .slice s1 H.sk.length sc1, .slice m1 H.mv.length mc1] 27) = w2
    have k2 : Below w0.heap.size w0 w2 := by rw [← hw2]; exact below_then hb1 (below_alloc _ _)
    have DR2 : Hid (Calls _ _ _ _ _) := DR.out w2 (below_then HA.out k2)
    have K2 : Hid (Below w.heap.size w w2) := below_then HA.out k2
    clear hw2 c0 c1 c2 c3
    obtain ⟨c0, c1, c2, c3⟩ := KC.out w2 k2
    go_wp2_with (go_at_call 135; refine Calls.mono DR2.out ?_; rintro r w3 (⟨_, rfl, hbk, hK⟩ | ⟨hno, _⟩); rotate_left; exact absurd (by obtain ⟨H, h1, h2, _⟩ := HX.out; exact ⟨H, h1, h2⟩) hno)
    go_ret
    exact .inl ⟨HX.out, rfl, PutTo.from K2.out ⟨mo, hbk.more (Nat.le_succ _), hK, .inl rfl⟩⟩
  · have HX : Hid (¬ ∃ H ∈ C, H.id = id ∧ o = bs (eT H)) := hno
    go_wp2
    go_ret
    exact .inr ⟨HX.out, ⟨p1, rfl⟩, below_then HA.out (below_then hb1 (below_alloc _ _))⟩

theorem ew_k0 {E : EV} (h : EW E) : EvK E 0 := by
  obtain ⟨k, hk⟩ := evK_ex E
  have := (evK_0 hk).2 h
  subst this
  exact hk
/-- Put of an event that is well -/
theorem put_ew (lo bb n : Nat) (mo : Option Nat) (C : List EV) (E : EV) (sl skv mvv : Value) (s : Nat → Addr) (w : World) (g : GlobK s w) (h : BookAt lo w bb mo n C) (hn : n ≤ 90000) (hE : EW E) (hL : Ls w E sl skv mvv) :
    Calls Tryz.prog 46 #[.pointer (some ⟨bb, 0, none⟩), ev E sl skv mvv] w fun r w' => (((¬ ∃ F ∈ C, F.id = E.id) ∧ 60 ≤ C.length) ∧ (∃ p, r = .returned (.iface 236 (.pointer (some p)))) ∧ Below w.heap.size w w') ∨ (¬ ((¬ ∃ F ∈ C, F.id = E.id) ∧ 60 ≤ C.length) ∧ r = .returned .nilIface ∧ PutTo lo w w' bb mo n (putC E C)) := by
  obtain ⟨i12, t40, _, _⟩ := ew_bd hE
  refine Calls.mono (put_C lo bb n mo C E sl skv mvv 0 s w g h hn (by omega) (by omega) hL (ew_k0 hE)) ?_
  rintro r w' (⟨h0, _⟩ | ⟨_, h1, rfl, hb⟩ | ⟨_, h1, rfl, hp⟩)
  · exact absurd rfl h0
  · exact .inl ⟨h1, ⟨_, rfl⟩, hb⟩
  · exact .inr ⟨h1, rfl, hp⟩

set_option maxHeartbeats 1000000 in
set_option maxRecDepth 100000 in
theorem dadd_C (lo bb n : Nat) (mo : Option Nat) (C : List EV) (G : EV) (hG : EW G) (h20 : G.ds.length ≤ 20) (fb o : ByteArray) (s : Nat → Addr) (w : World) (g : GlobD s w) (h : BookAt lo w bb mo n C) (hn : n ≤ 90000) :
    Calls Tryz.prog 99 #[.pointer (some ⟨bb, 0, none⟩), chV G.id fb o (bs (eT G))] w fun r w' => (((¬ ∃ H ∈ C, H.id = G.id) ∧ C.length < 60) ∧ r = .returned .nilIface ∧ PutTo lo w w' bb mo n (putC G C)) ∨ (¬ ((¬ ∃ H ∈ C, H.id = G.id) ∧ C.length < 60) ∧ (∃ p, r = .returned (.iface 236 (.pointer (some p)))) ∧ Below w.heap.size w w') := by
  have hA := below_alloc w (.cells #[.string G.id, .string fb, .string o, .string (bs (eT G))] 82)
  have kC : (w.alloc (.cells #[.string G.id, .string fb, .string o, .string (bs (eT G))] 82)).heap[w.heap.size]? = some (.cells #[.string G.id, .string fb, .string o, .string (bs (eT G))] 82 (0, 0)) := block_at _ rfl
  have hi12 : G.id.size ≤ 12 := (ew_bd hG).1
  have HA : Hid (_) := hA
  have HG : Hid (GlobD s w) := g
  have HBK : Hid (BookAt lo w bb mo n C) := h
  have HEW : Hid (EW G) := hG
  have RD : Hid (∀ W, Below w.heap.size w W → Calls Tryz.prog 10 #[.string (bs (eT G))] W fun r w' => ∃ sl skv mvv, r = .returned (.tuple #[ev G sl skv mvv, .nilIface]) ∧ Ls w' G sl skv mvv ∧ Below W.heap.size W w') := fun W hW => eread_any G s W (g.step hW).gk (g.step hW).gr hG h20
  have hc5 := g.gk.c5
  have HC5 : Hid (∀ W, Below w.heap.size w W → W.cell? ⟨6, 0, none⟩ = some (.iface 236 (.pointer (some (s 5))))) := fun W hW => cell_step hc5 hW
  have PT : Hid (∀ (W : World) (sl skv mvv : Value), Below w.heap.size w W → Ls W G sl skv mvv → Calls Tryz.prog 46 #[.pointer (some ⟨bb, 0, none⟩), ev G sl skv mvv] W fun r w' => (((¬ ∃ F ∈ C, F.id = G.id) ∧ 60 ≤ C.length) ∧ (∃ p, r = .returned (.iface 236 (.pointer (some p)))) ∧ Below W.heap.size W w') ∨ (¬ ((¬ ∃ F ∈ C, F.id = G.id) ∧ 60 ≤ C.length) ∧ r = .returned .nilIface ∧ PutTo lo W w' bb mo n (putC G C))) := fun W sl skv mvv hW hL => put_ew lo bb n mo C G sl skv mvv s W (g.step hW).gk (h.step hW) hn hG hL
  by_cases hx : ∃ H ∈ C, H.id = G.id
  · have HX : Hid (∃ H ∈ C, H.id = G.id) := hx
    have hGT : ∃ H ∈ C, ∀ W, Below w.heap.size w W → Calls Tryz.prog 94 #[.pointer (some ⟨bb, 0, none⟩), .string G.id] W fun r w' => ∃ sl' skv' mvv', r = .returned (.tuple #[ev H sl' skv' mvv', .bool true]) ∧ Ls w' H sl' skv' mvv' ∧ Below W.heap.size W w' := by
      obtain ⟨H, hH, e⟩ := hx
      refine ⟨H, hH, fun W hW => ?_⟩
      rw [← e]
      exact get_C lo bb n mo C H hH W (h.step hW)
    obtain ⟨H, hH, hGT⟩ := hGT
    have GT : Hid (Calls _ _ _ _ _) := hGT _ hA
    clear hA g h hG hx hGT hH hc5
    unfold chV
    generalize bs (eT G) = tx at RD HA kC GT ⊢
    generalize hw0 : w.alloc (.cells #[.string G.id, .string fb, .string o, .string tx] 82) = w0 at HA kC GT
    obtain ⟨c0, c1, c2, c3⟩ := blk4 kC
    clear kC
    go_enter Tryz.func99, Tryz.ntmps99
    go_upto_region 2 with (go_at_call 94; refine Calls.mono GT.out ?_; rintro r w1 ⟨sl, skv, mvv, rfl, hL1, hb1⟩; obtain ⟨r1, rc1, rfl, _⟩ := hL1.d; obtain ⟨s1, sc1, rfl, _⟩ := hL1.s; obtain ⟨m1, mc1, rfl, _⟩ := hL1.m; unfold ev; dsimp only)
    generalize hw2 : w1.alloc (.cells #[.string H.id, .string H.ti, .int .i64 H.st, .int .i64 H.lg, .string H.f, .int .i64 H.e, .slice r1 H.ds.length rc1, .int .i64 H.c, .int .i64 H.u, .slice s1 H.sk.length sc1, .slice m1 H.mv.length mc1] 27) = w2
    have k2 : Below w.heap.size w w2 := by rw [← hw2]; exact below_then HA.out (below_then hb1 (below_alloc _ _))
    have e5 := HC5.out w2 k2
    go_wp2
    go_ret
    exact .inr ⟨fun q => q.1 HX.out, ⟨_, rfl⟩, k2⟩
  · have HX : Hid (¬ ∃ H ∈ C, H.id = G.id) := hx
    have GT : Hid (Calls _ _ _ _ _) := get_no lo bb n mo C G.id (by omega) hx _ (h.step hA)
    clear hA g h hG hx hc5
    unfold chV
    generalize bs (eT G) = tx at RD HA kC GT ⊢
    generalize zE = Z at GT
    generalize hw0 : w.alloc (.cells #[.string G.id, .string fb, .string o, .string tx] 82) = w0 at HA kC GT
    obtain ⟨c0, c1, c2, c3⟩ := blk4 kC
    have KC : Hid (∀ W, Below w0.heap.size w0 W → _) := fun W hW => blk4 ((hW.block _ (Array.getElem?_eq_some_iff.1 kC).1).trans kC)
    clear kC
    go_enter Tryz.func99, Tryz.ntmps99
    go_upto_region 2 with (go_at_call 94; refine Calls.mono GT.out ?_; rintro r w1 ⟨sl, skv, mvv, rfl, hL1, hb1⟩; obtain ⟨r1, rc1, rfl, _⟩ := hL1.d; obtain ⟨s1, sc1, rfl, _⟩ := hL1.s; obtain ⟨m1, mc1, rfl, _⟩ := hL1.m; unfold ev; dsimp only)
    generalize hw2 : w1.alloc (.cells #[.string Z.id, .string Z.ti, .int .i64 Z.st, .int .i64 Z.lg, .string Z.f, .int .i64 Z.e, .slice r1 Z.ds.length rc1, .int .i64 Z.c, .int .i64 Z.u, .slice s1 Z.sk.length sc1, .slice m1 Z.mv.length mc1] 27) = w2
    have k2 : Below w0.heap.size w0 w2 := by rw [← hw2]; exact below_then hb1 (below_alloc _ _)
    have K2 : Hid (Below w0.heap.size w0 w2) := k2
    have RD2 : Hid (Calls _ _ _ _ _) := RD.out w2 (below_then HA.out k2)
    clear hw2 c0 c1 c2 c3 hL1 hb1
    obtain ⟨c0, c1, c2, c3⟩ := KC.out w2 k2
    clear k2
    unfold ev at RD2
    go_upto_region 5 with (go_at_call 10; refine Calls.mono RD2.out ?_; rintro r w3 ⟨sl, skv, mvv, rfl, hL3, hb3⟩; have HL3 : Hid (Ls w3 G sl skv mvv) := hL3; obtain ⟨r3, rc3, rfl, _⟩ := hL3.d; obtain ⟨s3, sc3, rfl, _⟩ := hL3.s; obtain ⟨m3, mc3, rfl, _⟩ := hL3.m)
    have kE := EB.new w3 G (.slice r3 G.ds.length rc3) (.slice s3 G.sk.length sc3) (.slice m3 G.mv.length mc3)
    unfold EB at kE
    have K4 : Hid (Below w0.heap.size w0 (w3.alloc (.cells #[.string G.id, .string G.ti, .int .i64 G.st, .int .i64 G.lg, .string G.f, .int .i64 G.e, .slice r3 G.ds.length rc3, .int .i64 G.c, .int .i64 G.u, .slice s3 G.sk.length sc3, .slice m3 G.mv.length mc3] 27))) := below_then K2.out (below_then hb3 (below_alloc _ _))
    have PT4 : Hid (Calls _ _ _ _ _) := PT.out _ _ _ _ (below_then HA.out K4.out) (HL3.out.step (below_alloc _ _))
    clear hL3 hb3 HL3 c0 c1 c2 c3
    generalize w3.alloc (.cells #[.string G.id, .string G.ti, .int .i64 G.st, .int .i64 G.lg, .string G.f, .int .i64 G.e, .slice r3 G.ds.length rc3, .int .i64 G.c, .int .i64 G.u, .slice s3 G.sk.length sc3, .slice m3 G.mv.length mc3] 27) = w4 at kE K4 PT4 ⊢
    generalize w3.heap.size = be at kE ⊢
    obtain ⟨c0, c1, c2, c3⟩ := KC.out w4 K4.out
    obtain ⟨x0, x1, x2, x3, x4, x5, x6, x7, x8, x9, x10⟩ := blk11 kE
    unfold ev at PT4
    clear kE
    go_wp2_with (go_at_call 46; refine Calls.mono PT4.out ?_; rintro r w5 (⟨h1, ⟨p, rfl⟩, hb5⟩ | ⟨h1, rfl, hp5⟩))
    · go_ret
      exact .inr ⟨fun q => absurd h1.2 (by omega), ⟨_, rfl⟩, below_then HA.out (below_then K4.out hb5)⟩
    · go_ret
      refine .inl ⟨⟨HX.out, ?_⟩, rfl, PutTo.from (below_then HA.out K4.out) hp5⟩
      by_cases q : 60 ≤ C.length
      · exact absurd ⟨HX.out, q⟩ h1
      · omega
end Go.Proofs.YtjhlbkjcchejjaaGreatDoor
