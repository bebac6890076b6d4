/- Package diff's find in one; set, add, drop: a change applied to a calendar. -/
import Derived.Test.YtpdcjnkgkpbdgaaGreatDoorPcA
import Derived.Test.YtpdcjnkgkpbdgaaGreatDoorPbF
namespace Go.Proofs.YtpdcjnkgkpbdgaaGreatDoor
open Go Go.RowKit Go.Maps Cal
attribute [local go_sem] Oper.semAt_some

/-- the package-level variables that package diff reads -/
structure GlobD (s : Nat → Addr) (w : World) : Prop where
  gk : GlobK s w
  gr : GlobR w
  nn : ∃ p, w.cell? ⟨6, 0, none⟩ = some (.iface 278 (.pointer (some p)))
  st : ∃ p, w.cell? ⟨9, 0, none⟩ = some (.iface 278 (.pointer (some p)))
theorem GlobD.step {s : Nat → Addr} {w w' : World} (g : GlobD s w) (hb : Below w.heap.size w w') : GlobD s w' := by
  obtain ⟨p, hp⟩ := g.nn
  obtain ⟨q, hq⟩ := g.st
  exact ⟨g.gk.step hb, g.gr.step hb, ⟨p, cell_step hp hb⟩, ⟨q, cell_step hq hb⟩⟩
theorem bs_inj {a b : List UInt8} (h : bs a = bs b) : a = b := by
  have := congrArg (fun x => x.data.toList) h
  exact this
theorem PutTo.from {lo : Nat} {w w1 w2 : World} {bb : Nat} {mo : Option Nat} {n : Nat} {C : List EV} (hb : Below w.heap.size w w1) (h : PutTo lo w1 w2 bb mo n C) : PutTo lo w w2 bb mo n C := by
  obtain ⟨mo', q1, q2, q3⟩ := h
  exact ⟨mo', q1, kept_from hb q2, q3.imp id (fun q => ⟨q.1, fun mb e => Nat.le_trans hb.size (q.2 mb e)⟩)⟩
theorem BookAt.more {lo : Nat} {W : World} {bb : Nat} {mo : Option Nat} {n n' : Nat} {C : List EV} (h : BookAt lo W bb mo n C) (hn : n ≤ n') : BookAt lo W bb mo n' C := by
  obtain ⟨D, h1, h2, h3, h4⟩ := h
  exact ⟨D, bok_mono h1 hn, h2, h3, h4⟩

theorem find_C (lo bb n : Nat) (mo : Option Nat) (C : List EV) (id : ByteArray) (k : Nat) (hk : k < 7) (o t : ByteArray) (hid : id.size ≤ 1000) (s : Nat → Addr) (w : World) (g : GlobD s w) (h : BookAt lo w bb mo n C) :
    Calls Tryz.prog 170 #[.pointer (some ⟨bb, 0, none⟩), chV id (fieldB k) o t] w fun r w' => (∃ H ∈ C, H.id = id ∧ o = bs (cT H k) ∧ ∃ sl skv mvv, r = .returned (.tuple #[ev H sl skv mvv, .nilIface]) ∧ Ls w' H sl skv mvv ∧ Below w.heap.size w w') ∨ ((¬ ∃ H ∈ C, H.id = id ∧ o = bs (cT H k)) ∧ (∃ p, r = .returned (.tuple #[zV, .iface 278 (.pointer (some p))])) ∧ Below w.heap.size w w') := by
  obtain ⟨p, hp⟩ := g.nn
  obtain ⟨q, hq⟩ := g.st
  by_cases hx : ∃ H ∈ C, H.id = id
  · obtain ⟨H, hH, rfl⟩ := hx
    by_cases ho : o = bs (cT H k)
    · refine Calls.mono (find_found lo bb n mo C H hH k hk o t ho s w g.gk g.gr h) ?_
      rintro r w' hr
      exact .inl ⟨H, hH, rfl, ho, hr⟩
    · refine Calls.mono (find_stale lo bb n mo C H hH k hk o t ho q s w g.gk g.gr h hq) ?_
      rintro r w' ⟨rfl, hb⟩
      refine .inr ⟨?_, ⟨_, rfl⟩, hb⟩
      rintro ⟨K, hK, e, z⟩
      rw [h.rises.1.uniq hK hH e] at z
      exact ho z
  · refine Calls.mono (find_no lo bb n mo C id (fieldB k) o t p hid hx w h hp) ?_
    rintro r w' ⟨rfl, hb⟩
    exact .inr ⟨fun ⟨H, hH, e, _⟩ => hx ⟨H, hH, e⟩, ⟨_, rfl⟩, hb⟩

set_option maxHeartbeats 1000000 in
set_option maxRecDepth 100000 in
theorem ddrop_C (lo bb n : Nat) (mo : Option Nat) (C : List EV) (id : ByteArray) (o t : ByteArray) (hid : id.size ≤ 1000) (s : Nat → Addr) (w : World) (g : GlobD s w) (h : BookAt lo w bb mo n C) :
    Calls Tryz.prog 131 #[.pointer (some ⟨bb, 0, none⟩), chV id (fieldB 6) o t] w fun r w' => ((∃ H ∈ C, H.id = id ∧ o = bs (eT H)) ∧ r = .returned .nilIface ∧ PutTo lo w w' bb mo n (woC id C)) ∨ ((¬ ∃ H ∈ C, H.id = id ∧ o = bs (eT H)) ∧ (∃ p, r = .returned (.iface 278 (.pointer (some p)))) ∧ Below w.heap.size w w') := by
  obtain ⟨p, hp⟩ := g.nn
  have hA := below_alloc w (.cells #[.string id, .string (fieldB 6), .string o, .string t] 121)
  have kC : (w.alloc (.cells #[.string id, .string (fieldB 6), .string o, .string t] 121)).heap[w.heap.size]? = some (.cells #[.string id, .string (fieldB 6), .string o, .string t] 121 (0, 0)) := block_at _ rfl
  have FD : Hid (Calls _ _ _ _ _) := find_C lo bb n mo C id 6 (by omega) o t hid s _ (g.step hA) (h.step hA)
  have DR : Hid (∀ W, Below w.heap.size w W → Calls Tryz.prog 35 #[.pointer (some ⟨bb, 0, none⟩), .string id] W fun r w' => ((∃ E ∈ C, E.id = id) ∧ r = .returned .nilIface ∧ BookAt lo w' bb mo n (woC id C) ∧ Kept W w' bb mo) ∨ ((¬ ∃ E ∈ C, E.id = id) ∧ r = .returned (.iface 278 (.pointer (some p))) ∧ Below W.heap.size W w')) := fun W hW => drop_C lo bb n mo C id hid p W (h.step hW) (cell_step hp hW)
  have HA : Hid (_) := hA
  clear hA hp g h
  unfold chV at FD ⊢
  generalize fieldB 6 = fb at FD HA kC ⊢
  generalize hw0 : w.alloc (.cells #[.string id, .string fb, .string o, .string t] 121) = w0 at FD HA kC
  obtain ⟨c0, c1, c2, c3⟩ := blk4 kC
  have KC : Hid (∀ W, Below w0.heap.size w0 W → _) := fun W hW => blk4 ((hW.block _ (Array.getElem?_eq_some_iff.1 kC).1).trans kC)
  clear kC
  go_enter Tryz.func131, Tryz.ntmps131
  go_upto_region 2 with (go_at_call 170; refine Calls.mono FD.out ?_; rintro r w1 (⟨H, hH, he, ho, sl, skv, mvv, rfl, hL1, hb1⟩ | ⟨hno, ⟨p1, rfl⟩, hb1⟩) <;> (first | (have HX : Hid (∃ H ∈ C, H.id = id ∧ o = bs (eT H)) := ⟨H, hH, he, ho⟩; clear he ho; obtain ⟨r1, rc1, rfl, _⟩ := hL1.d; obtain ⟨s1, sc1, rfl, _⟩ := hL1.s; obtain ⟨m1, mc1, rfl, _⟩ := hL1.m; unfold ev; dsimp only) | unfold zV))
  · generalize hw2 : w1.alloc (.cells #[.string H.id, .string H.ti, .int .i64 H.st, .int .i64 H.lg, .string H.f, .int .i64 H.e, .slice r1 H.ds.length rc1, .int .i64 H.c, .int .i64 H.u, .slice s1 H.sk.length sc1, .slice m1 H.mv.length mc1] 37) = w2
    have k2 : Below w0.heap.size w0 w2 := by rw [← hw2]; exact below_then hb1 (below_alloc _ _)
    have DR2 : Hid (Calls _ _ _ _ _) := DR.out w2 (below_then HA.out k2)
    have K2 : Hid (Below w.heap.size w w2) := below_then HA.out k2
    clear hw2 c0 c1 c2 c3
    obtain ⟨c0, c1, c2, c3⟩ := KC.out w2 k2
    go_wp2_with (go_at_call 35; refine Calls.mono DR2.out ?_; rintro r w3 (⟨_, rfl, hbk, hK⟩ | ⟨hno, _⟩); rotate_left; exact absurd (by obtain ⟨H, h1, h2, _⟩ := HX.out; exact ⟨H, h1, h2⟩) hno)
    go_ret
    exact .inl ⟨HX.out, rfl, PutTo.from K2.out ⟨mo, hbk.more (Nat.le_succ _), hK, .inl rfl⟩⟩
  · have HX : Hid (¬ ∃ H ∈ C, H.id = id ∧ o = bs (eT H)) := hno
    go_wp2
    go_ret
    exact .inr ⟨HX.out, ⟨p1, rfl⟩, below_then HA.out (below_then hb1 (below_alloc _ _))⟩

theorem ew_k0 {E : EV} (h : EW E) : EvK E 0 := by
  obtain ⟨k, hk⟩ := evK_ex E
  have := (evK_0 hk).2 h
  subst this
  exact hk
/-- Put of an event that is well -/
theorem put_ew (lo bb n : Nat) (mo : Option Nat) (C : List EV) (E : EV) (sl skv mvv : Value) (s : Nat → Addr) (w : World) (g : GlobK s w) (h : BookAt lo w bb mo n C) (hn : n ≤ 90000) (hE : EW E) (hL : Ls w E sl skv mvv) :
    Calls Tryz.prog 34 #[.pointer (some ⟨bb, 0, none⟩), ev E sl skv mvv] w fun r w' => (((¬ ∃ F ∈ C, F.id = E.id) ∧ 60 ≤ C.length) ∧ (∃ p, r = .returned (.iface 278 (.pointer (some p)))) ∧ Below w.heap.size w w') ∨ (¬ ((¬ ∃ F ∈ C, F.id = E.id) ∧ 60 ≤ C.length) ∧ r = .returned .nilIface ∧ PutTo lo w w' bb mo n (putC E C)) := by
  obtain ⟨i12, t40, _, _⟩ := ew_bd hE
  refine Calls.mono (put_C lo bb n mo C E sl skv mvv 0 s w g h hn (by omega) (by omega) hL (ew_k0 hE)) ?_
  rintro r w' (⟨h0, _⟩ | ⟨_, h1, rfl, hb⟩ | ⟨_, h1, rfl, hp⟩)
  · exact absurd rfl h0
  · exact .inl ⟨h1, ⟨_, rfl⟩, hb⟩
  · exact .inr ⟨h1, rfl, hp⟩

set_option maxHeartbeats 1000000 in
set_option maxRecDepth 100000 in
theorem dadd_C (lo bb n : Nat) (mo : Option Nat) (C : List EV) (G : EV) (hG : EW G) (h20 : G.ds.length ≤ 20) (fb o : ByteArray) (s : Nat → Addr) (w : World) (g : GlobD s w) (h : BookAt lo w bb mo n C) (hn : n ≤ 90000) :
    Calls Tryz.prog 130 #[.pointer (some ⟨bb, 0, none⟩), chV G.id fb o (bs (eT G))] w fun r w' => (((¬ ∃ H ∈ C, H.id = G.id) ∧ C.length < 60) ∧ r = .returned .nilIface ∧ PutTo lo w w' bb mo n (putC G C)) ∨ (¬ ((¬ ∃ H ∈ C, H.id = G.id) ∧ C.length < 60) ∧ (∃ p, r = .returned (.iface 278 (.pointer (some p)))) ∧ Below w.heap.size w w') := by
  have hA := below_alloc w (.cells #[.string G.id, .string fb, .string o, .string (bs (eT G))] 121)
  have kC : (w.alloc (.cells #[.string G.id, .string fb, .string o, .string (bs (eT G))] 121)).heap[w.heap.size]? = some (.cells #[.string G.id, .string fb, .string o, .string (bs (eT G))] 121 (0, 0)) := block_at _ rfl
  have hi12 : G.id.size ≤ 12 := (ew_bd hG).1
  have HA : Hid (_) := hA
  have HG : Hid (GlobD s w) := g
  have HBK : Hid (BookAt lo w bb mo n C) := h
  have HEW : Hid (EW G) := hG
  have RD : Hid (∀ W, Below w.heap.size w W → Calls Tryz.prog 19 #[.string (bs (eT G))] W fun r w' => ∃ sl skv mvv, r = .returned (.tuple #[ev G sl skv mvv, .nilIface]) ∧ Ls w' G sl skv mvv ∧ Below W.heap.size W w') := fun W hW => eread_any G s W (g.step hW).gk (g.step hW).gr hG h20
  have hc5 := g.gk.c5
  have HC5 : Hid (∀ W, Below w.heap.size w W → W.cell? ⟨8, 0, none⟩ = some (.iface 278 (.pointer (some (s 5))))) := fun W hW => cell_step hc5 hW
  have PT : Hid (∀ (W : World) (sl skv mvv : Value), Below w.heap.size w W → Ls W G sl skv mvv → Calls Tryz.prog 34 #[.pointer (some ⟨bb, 0, none⟩), ev G sl skv mvv] W fun r w' => (((¬ ∃ F ∈ C, F.id = G.id) ∧ 60 ≤ C.length) ∧ (∃ p, r = .returned (.iface 278 (.pointer (some p)))) ∧ Below W.heap.size W w') ∨ (¬ ((¬ ∃ F ∈ C, F.id = G.id) ∧ 60 ≤ C.length) ∧ r = .returned .nilIface ∧ PutTo lo W w' bb mo n (putC G C))) := fun W sl skv mvv hW hL => put_ew lo bb n mo C G sl skv mvv s W (g.step hW).gk (h.step hW) hn hG hL
  by_cases hx : ∃ H ∈ C, H.id = G.id
  · have HX : Hid (∃ H ∈ C, H.id = G.id) := hx
    have hGT : ∃ H ∈ C, ∀ W, Below w.heap.size w W → Calls Tryz.prog 33 #[.pointer (some ⟨bb, 0, none⟩), .string G.id] W fun r w' => ∃ sl' skv' mvv', r = .returned (.tuple #[ev H sl' skv' mvv', .bool true]) ∧ Ls w' H sl' skv' mvv' ∧ Below W.heap.size W w' := by
      obtain ⟨H, hH, e⟩ := hx
      refine ⟨H, hH, fun W hW => ?_⟩
      rw [← e]
      exact get_C lo bb n mo C H hH W (h.step hW)
    obtain ⟨H, hH, hGT⟩ := hGT
    have GT : Hid (Calls _ _ _ _ _) := hGT _ hA
    clear hA g h hG hx hGT hH hc5
    unfold chV
    generalize bs (eT G) = tx at RD HA kC GT ⊢
    generalize hw0 : w.alloc (.cells #[.string G.id, .string fb, .string o, .string tx] 121) = w0 at HA kC GT
    obtain ⟨c0, c1, c2, c3⟩ := blk4 kC
    clear kC
    go_enter Tryz.func130, Tryz.ntmps130
    go_upto_region 2 with (go_at_call 33; refine Calls.mono GT.out ?_; rintro r w1 ⟨sl, skv, mvv, rfl, hL1, hb1⟩; obtain ⟨r1, rc1, rfl, _⟩ := hL1.d; obtain ⟨s1, sc1, rfl, _⟩ := hL1.s; obtain ⟨m1, mc1, rfl, _⟩ := hL1.m; unfold ev; dsimp only)
    generalize hw2 : w1.alloc (.cells #[.string H.id, .string H.ti, .int .i64 H.st, .int .i64 H.lg, .string H.f, .int .i64 H.e, .slice r1 H.ds.length rc1, .int .i64 H.c, .int .i64 H.u, .slice s1 H.sk.length sc1, .slice m1 H.mv.length mc1] 37) = w2
    have k2 : Below w.heap.size w w2 := by rw [← hw2]; exact below_then HA.out (below_then hb1 (below_alloc _ _))
    have e5 := HC5.out w2 k2
    go_wp2
    go_ret
    exact .inr ⟨fun q => q.1 HX.out, ⟨_, rfl⟩, k2⟩
  · have HX : Hid (¬ ∃ H ∈ C, H.id = G.id) := hx
    have GT : Hid (Calls _ _ _ _ _) := get_no lo bb n mo C G.id (by omega) hx _ (h.step hA)
    clear hA g h hG hx hc5
    unfold chV
    generalize bs (eT G) = tx at RD HA kC GT ⊢
    generalize zE = Z at GT
    generalize hw0 : w.alloc (.cells #[.string G.id, .string fb, .string o, .string tx] 121) = w0 at HA kC GT
    obtain ⟨c0, c1, c2, c3⟩ := blk4 kC
    have KC : Hid (∀ W, Below w0.heap.size w0 W → _) := fun W hW => blk4 ((hW.block _ (Array.getElem?_eq_some_iff.1 kC).1).trans kC)
    clear kC
    go_enter Tryz.func130, Tryz.ntmps130
    go_upto_region 2 with (go_at_call 33; refine Calls.mono GT.out ?_; rintro r w1 ⟨sl, skv, mvv, rfl, hL1, hb1⟩; obtain ⟨r1, rc1, rfl, _⟩ := hL1.d; obtain ⟨s1, sc1, rfl, _⟩ := hL1.s; obtain ⟨m1, mc1, rfl, _⟩ := hL1.m; unfold ev; dsimp only)
    generalize hw2 : w1.alloc (.cells #[.string Z.id, .string Z.ti, .int .i64 Z.st, .int .i64 Z.lg, .string Z.f, .int .i64 Z.e, .slice r1 Z.ds.length rc1, .int .i64 Z.c, .int .i64 Z.u, .slice s1 Z.sk.length sc1, .slice m1 Z.mv.length mc1] 37) = w2
    have k2 : Below w0.heap.size w0 w2 := by rw [← hw2]; exact below_then hb1 (below_alloc _ _)
    have K2 : Hid (Below w0.heap.size w0 w2) := k2
    have RD2 : Hid (Calls _ _ _ _ _) := RD.out w2 (below_then HA.out k2)
    clear hw2 c0 c1 c2 c3 hL1 hb1
    obtain ⟨c0, c1, c2, c3⟩ := KC.out w2 k2
    clear k2
    unfold ev at RD2
    go_upto_region 5 with (go_at_call 19; refine Calls.mono RD2.out ?_; rintro r w3 ⟨sl, skv, mvv, rfl, hL3, hb3⟩; have HL3 : Hid (Ls w3 G sl skv mvv) := hL3; obtain ⟨r3, rc3, rfl, _⟩ := hL3.d; obtain ⟨s3, sc3, rfl, _⟩ := hL3.s; obtain ⟨m3, mc3, rfl, _⟩ := hL3.m)
    have kE := EB.new w3 G (.slice r3 G.ds.length rc3) (.slice s3 G.sk.length sc3) (.slice m3 G.mv.length mc3)
    unfold EB at kE
    have K4 : Hid (Below w0.heap.size w0 (w3.alloc (.cells #[.string G.id, .string G.ti, .int .i64 G.st, .int .i64 G.lg, .string G.f, .int .i64 G.e, .slice r3 G.ds.length rc3, .int .i64 G.c, .int .i64 G.u, .slice s3 G.sk.length sc3, .slice m3 G.mv.length mc3] 37))) := below_then K2.out (below_then hb3 (below_alloc _ _))
    have PT4 : Hid (Calls _ _ _ _ _) := PT.out _ _ _ _ (below_then HA.out K4.out) (HL3.out.step (below_alloc _ _))
    clear hL3 hb3 HL3 c0 c1 c2 c3
    generalize w3.alloc (.cells #[.string G.id, .string G.ti, .int .i64 G.st, .int .i64 G.lg, .string G.f, .int .i64 G.e, .slice r3 G.ds.length rc3, .int .i64 G.c, .int .i64 G.u, .slice s3 G.sk.length sc3, .slice m3 G.mv.length mc3] 37) = w4 at kE K4 PT4 ⊢
    generalize w3.heap.size = be at kE ⊢
    obtain ⟨c0, c1, c2, c3⟩ := KC.out w4 K4.out
    obtain ⟨x0, x1, x2, x3, x4, x5, x6, x7, x8, x9, x10⟩ := blk11 kE
    unfold ev at PT4
    clear kE
    go_wp2_with (go_at_call 34; refine Calls.mono PT4.out ?_; rintro r w5 (⟨h1, ⟨p, rfl⟩, hb5⟩ | ⟨h1, rfl, hp5⟩))
    · go_ret
      exact .inr ⟨fun q => absurd h1.2 (by omega), ⟨_, rfl⟩, below_then HA.out (below_then K4.out hb5)⟩
    · go_ret
      refine .inl ⟨⟨HX.out, ?_⟩, rfl, PutTo.from (below_then HA.out K4.out) hp5⟩
      by_cases q : 60 ≤ C.length
      · exact absurd ⟨HX.out, q⟩ h1
      · omega
end Go.Proofs.YtpdcjnkgkpbdgaaGreatDoor

/- Package diff's set and apply: a change applied to a calendar. -/
namespace Go.Proofs.YtpdcjnkgkpbdgaaGreatDoor
open Go Go.RowKit Go.Maps Cal
attribute [local go_sem] Oper.semAt_some

theorem fieldB_lt {k : Nat} (hk : k < 6) : fieldB k = fldB k := by
  match k, hk with
  | 0, _ => rfl
  | 1, _ => rfl
  | 2, _ => rfl
  | 3, _ => rfl
  | 4, _ => rfl
  | 5, _ => rfl
theorem cT_lt {k : Nat} (hk : k < 6) (E : EV) : cT E k = fT E k := by
  match k, hk with
  | 0, _ => rfl
  | 1, _ => rfl
  | 2, _ => rfl
  | 3, _ => rfl
  | 4, _ => rfl
  | 5, _ => rfl
theorem ow_ls {base : Nat} {W : World} {E : EV} {sl skv mvv : Value} (h1 : Ow base W sl E.ds) (h2 : Ow base W skv E.sk) (h3 : OwM base W mvv E.mv) (hE : EW E) (h20 : E.ds.length ≤ 20) : Ls W E sl skv mvv := by
  obtain ⟨_, _, k20, m20⟩ := ew_bd hE
  exact ⟨ow_days h1 h20, ow_ints h2 (by omega), (owm_movs h3 (by omega)).1⟩

set_option maxHeartbeats 1000000 in
set_option maxRecDepth 100000 in
theorem dset_C (lo bb n : Nat) (mo : Option Nat) (C : List EV) (id : ByteArray) (k : Nat) (hk : k < 6) (o : ByteArray) (G : EV) (hG : EW G) (h20 : G.ds.length ≤ 20) (hid : id.size ≤ 1000) (s : Nat → Addr) (w : World) (g : GlobD s w) (h : BookAt lo w bb mo n C) (hn : n ≤ 90000) :
    Calls Tryz.prog 129 #[.pointer (some ⟨bb, 0, none⟩), chV id (fieldB k) o (bs (fT G k))] w fun r w' => (∃ H ∈ C, H.id = id ∧ o = bs (cT H k) ∧ EW (upd H G k) ∧ r = .returned .nilIface ∧ PutTo lo w w' bb mo n (putC (upd H G k) C)) ∨ ((¬ ∃ H ∈ C, H.id = id ∧ o = bs (cT H k) ∧ EW (upd H G k)) ∧ (∃ p, r = .returned (.iface 278 (.pointer (some p)))) ∧ Below w.heap.size w w') := by
  have hA := below_alloc w (.cells #[.string id, .string (fieldB k), .string o, .string (bs (fT G k))] 121)
  have kC : (w.alloc (.cells #[.string id, .string (fieldB k), .string o, .string (bs (fT G k))] 121)).heap[w.heap.size]? = some (.cells #[.string id, .string (fieldB k), .string o, .string (bs (fT G k))] 121 (0, 0)) := block_at _ rfl
  have FD : Hid (Calls _ _ _ _ _) := find_C lo bb n mo C id k (by omega) o (bs (fT G k)) hid s _ (g.step hA) (h.step hA)
  have SE : Hid (∀ (H : EV), H ∈ C → ∀ (W : World) (sl skv mvv : Value), Below w.heap.size w W → Ls W H sl skv mvv → Calls Tryz.prog 23 #[ev H sl skv mvv, .string (fieldB k), .string (bs (fT G k))] W fun r w' => Below W.heap.size W w' ∧
      ((EW (upd H G k) ∧ ∃ sl' skv' mvv', r = .returned (.tuple #[ev (upd H G k) sl' skv' mvv', .nilIface]) ∧ Ow W.heap.size w' sl' (upd H G k).ds ∧ Ow W.heap.size w' skv' (upd H G k).sk ∧ OwM W.heap.size w' mvv' (upd H G k).mv) ∨ (¬ EW (upd H G k) ∧ ∃ p, r = .returned (.tuple #[zV, .iface 278 (.pointer (some p))])))) := fun H hH W sl skv mvv hW hL => by
    rw [fieldB_lt hk]
    exact eset_any H G sl skv mvv k hk s W (g.step hW).gk (g.step hW).gr hL (h.rises.2 H hH) hG h20
  have PT : Hid (∀ (H : EV), H ∈ C → EW (upd H G k) → ∀ (W : World) (sl skv mvv : Value), Below w.heap.size w W → Ls W (upd H G k) sl skv mvv → Calls Tryz.prog 34 #[.pointer (some ⟨bb, 0, none⟩), ev (upd H G k) sl skv mvv] W fun r w' => r = .returned .nilIface ∧ PutTo lo W w' bb mo n (putC (upd H G k) C)) := fun H hH hE W sl skv mvv hW hL => by
    refine Calls.mono (put_ew lo bb n mo C (upd H G k) sl skv mvv s W (g.step hW).gk (h.step hW) hn hE hL) ?_
    rintro r w' (⟨h1, _⟩ | ⟨_, rfl, hp⟩)
    · exact absurd ⟨H, hH, (upd_id H G k).symm⟩ h1.1
    · exact ⟨rfl, hp⟩
  have HD : Hid (∀ H ∈ C, (upd H G k).ds.length ≤ 20) := fun H hH => by
    obtain ⟨D, _, _, _, h4⟩ := h
    have := (h4.at_ H hH).1.2
    unfold upd
    split <;> first | exact this | exact h20
  have HU : Hid (∀ H ∈ C, ∀ K ∈ C, H.id = id → K.id = id → H = K) := fun H hH K hK e1 e2 => h.rises.1.uniq hH hK (e1.trans e2.symm)
  have HA : Hid (_) := hA
  clear hA g h hG
  unfold chV at FD ⊢
  generalize fieldB k = fb at FD HA kC SE ⊢
  generalize bs (fT G k) = tx at FD HA kC SE ⊢
  generalize hw0 : w.alloc (.cells #[.string id, .string fb, .string o, .string tx] 121) = w0 at FD HA kC
  obtain ⟨c0, c1, c2, c3⟩ := blk4 kC
  have KC : Hid (∀ W, Below w0.heap.size w0 W → _) := fun W hW => blk4 ((hW.block _ (Array.getElem?_eq_some_iff.1 kC).1).trans kC)
  clear kC
  go_enter Tryz.func129, Tryz.ntmps129
  go_upto_region 2 with (go_at_call 170; refine Calls.mono FD.out ?_; rintro r w1 (⟨H, hH, he, ho, sl, skv, mvv, rfl, hL1, hb1⟩ | ⟨hno, ⟨p1, rfl⟩, hb1⟩) <;> (first | (have HX : Hid (H.id = id ∧ o = bs (cT H k)) := ⟨he, ho⟩; have HL1 : Hid (Ls w1 H sl skv mvv) := hL1; clear he ho; obtain ⟨r1, rc1, rfl, _⟩ := hL1.d; obtain ⟨s1, sc1, rfl, _⟩ := hL1.s; obtain ⟨m1, mc1, rfl, _⟩ := hL1.m; unfold ev; dsimp only) | unfold zV))
  · have kE := EB.new w1 H (.slice r1 H.ds.length rc1) (.slice s1 H.sk.length sc1) (.slice m1 H.mv.length mc1)
    unfold EB at kE
    have K2 : Hid (Below w0.heap.size w0 (w1.alloc (.cells #[.string H.id, .string H.ti, .int .i64 H.st, .int .i64 H.lg, .string H.f, .int .i64 H.e, .slice r1 H.ds.length rc1, .int .i64 H.c, .int .i64 H.u, .slice s1 H.sk.length sc1, .slice m1 H.mv.length mc1] 37))) := below_then hb1 (below_alloc _ _)
    have SE2 : Hid (Calls _ _ _ _ _) := SE.out H hH _ _ _ _ (below_then HA.out K2.out) (HL1.out.step (below_alloc _ _))
    have HS2 : Hid (w1.heap.size < (w1.alloc (.cells #[.string H.id, .string H.ti, .int .i64 H.st, .int .i64 H.lg, .string H.f, .int .i64 H.e, .slice r1 H.ds.length rc1, .int .i64 H.c, .int .i64 H.u, .slice s1 H.sk.length sc1, .slice m1 H.mv.length mc1] 37)).heap.size ∧ w0.heap.size ≤ w1.heap.size) := ⟨by rw [World.size_alloc]; exact Nat.lt_succ_self _, hb1.size⟩
    clear hL1 hb1 HL1 c0 c1 c2 c3 FD SE
    generalize w1.alloc (.cells #[.string H.id, .string H.ti, .int .i64 H.st, .int .i64 H.lg, .string H.f, .int .i64 H.e, .slice r1 H.ds.length rc1, .int .i64 H.c, .int .i64 H.u, .slice s1 H.sk.length sc1, .slice m1 H.mv.length mc1] 37) = w2 at kE K2 SE2 HS2 ⊢
    generalize w1.heap.size = be at kE HS2 ⊢
    obtain ⟨c0, c1, c2, c3⟩ := KC.out w2 K2.out
    obtain ⟨x0, x1, x2, x3, x4, x5, x6, x7, x8, x9, x10⟩ := blk11 kE
    have KE : Hid (∀ W, Below w2.heap.size w2 W → W.heap[be]? = some (.cells #[.string H.id, .string H.ti, .int .i64 H.st, .int .i64 H.lg, .string H.f, .int .i64 H.e, .slice r1 H.ds.length rc1, .int .i64 H.c, .int .i64 H.u, .slice s1 H.sk.length sc1, .slice m1 H.mv.length mc1] 37 (0, 0))) := fun W hW => (hW.block _ (Array.getElem?_eq_some_iff.1 kE).1).trans kE
    clear kE
    unfold ev at SE2
    have HUE : Hid (∀ U, upd H G k = U → EW U → (∃ H ∈ C, H.id = id ∧ o = bs (cT H k) ∧ EW (upd H G k)) ∧ ∀ (W : World) (sl skv mvv : Value), Below w.heap.size w W → Ls W U sl skv mvv → Calls Tryz.prog 34 #[.pointer (some ⟨bb, 0, none⟩), ev U sl skv mvv] W fun r w' => r = .returned .nilIface ∧ PutTo lo W w' bb mo n (putC U C)) := fun U e hE => by
      subst e
      exact ⟨⟨H, hH, HX.out.1, HX.out.2, hE⟩, PT.out H hH hE⟩
    have hud := HD.out H hH
    have HUN : Hid (¬ EW (upd H G k) → ¬ ∃ H ∈ C, H.id = id ∧ o = bs (cT H k) ∧ EW (upd H G k)) := fun q ⟨K, hK, e1, e2, e3⟩ => by
      rw [HU.out K hK H hH e1 HX.out.1] at e3
      exact q e3
    have HFI : Hid (∀ w', PutTo lo w w' bb mo n (putC (upd H G k) C) → EW (upd H G k) → ∃ H ∈ C, H.id = id ∧ o = bs (cT H k) ∧ EW (upd H G k) ∧ PutTo lo w w' bb mo n (putC (upd H G k) C)) := fun w' hp hE => ⟨H, hH, HX.out.1, HX.out.2, hE, hp⟩
    clear PT HD HU hH HX
    generalize upd H G k = U at SE2 HUE hud HUN HFI
    go_upto_region 5 with (go_at_call 23; refine Calls.mono SE2.out ?_; rintro r w3 ⟨hb3, (⟨hE3, sl, skv, mvv, rfl, o1, o2, o3⟩ | ⟨hE3, p3, rfl⟩)⟩ <;> (clear x0 x1 x2 x3 x4 x5 x6 x7 x8 x9 x10; have kE3 := KE.out w3 hb3; have HKE3 : Hid (_) := kE3; obtain ⟨x0, x1, x2, x3, x4, x5, x6, x7, x8, x9, x10⟩ := blk11 kE3; have f0 := blk11_frozen kE3 0; have f1 := blk11_frozen kE3 1; have f2 := blk11_frozen kE3 2; have f3 := blk11_frozen kE3 3; have f4 := blk11_frozen kE3 4; have f5 := blk11_frozen kE3 5; have f6 := blk11_frozen kE3 6; have f7 := blk11_frozen kE3 7; have f8 := blk11_frozen kE3 8; have f9 := blk11_frozen kE3 9; have f10 := blk11_frozen kE3 10; clear kE3; first | (obtain ⟨r3, rc3, rfl⟩ := ow_form o1; obtain ⟨s3, sc3, rfl⟩ := ow_form o2; obtain ⟨m3, mc3, rfl, _⟩ := (owm_movs o3 (by have := (ew_bd hE3).2.2.2; omega)).1) | unfold zV))
    · rw [put11_fold]
      have n10 := put11_blk (.string U.id) (.string U.ti) (.int .i64 U.st) (.int .i64 U.lg) (.string U.f) (.int .i64 U.e) (.slice r3 U.ds.length rc3) (.int .i64 U.c) (.int .i64 U.u) (.slice s3 U.sk.length sc3) (.slice m3 U.mv.length mc3) HKE3.out
      have g7 := put11_grown w3 be (.string U.id) (.string U.ti) (.int .i64 U.st) (.int .i64 U.lg) (.string U.f) (.int .i64 U.e) (.slice r3 U.ds.length rc3) (.int .i64 U.c) (.int .i64 U.u) (.slice s3 U.sk.length sc3) (.slice m3 U.mv.length mc3)
      have HLs : Hid (Ls (put11 w3 be (.string U.id) (.string U.ti) (.int .i64 U.st) (.int .i64 U.lg) (.string U.f) (.int .i64 U.e) (.slice r3 U.ds.length rc3) (.int .i64 U.c) (.int .i64 U.u) (.slice s3 U.sk.length sc3) (.slice m3 U.mv.length mc3)) U (.slice r3 U.ds.length rc3) (.slice s3 U.sk.length sc3) (.slice m3 U.mv.length mc3)) := ow_ls (o1.grown g7 HS2.out.1) (o2.grown g7 HS2.out.1) (o3.grown g7 HS2.out.1) hE3 hud
      have B7 : Hid (Below w.heap.size w (put11 w3 be (.string U.id) (.string U.ti) (.int .i64 U.st) (.int .i64 U.lg) (.string U.f) (.int .i64 U.e) (.slice r3 U.ds.length rc3) (.int .i64 U.c) (.int .i64 U.u) (.slice s3 U.sk.length sc3) (.slice m3 U.mv.length mc3))) := (below_then HA.out (below_then K2.out hb3)).grown g7 (below_then HA.out (below_then K2.out hb3)).size (fun q e => by cases e; exact Nat.le_trans HA.out.size HS2.out.2)
      have HE3 : Hid (EW U) := hE3
      clear x0 x1 x2 x3 x4 x5 x6 x7 x8 x9 x10 f0 f1 f2 f3 f4 f5 f6 f7 f8 f9 f10 c0 c1 c2 c3 o1 o2 o3 hE3 g7
      generalize put11 w3 be (.string U.id) (.string U.ti) (.int .i64 U.st) (.int .i64 U.lg) (.string U.f) (.int .i64 U.e) (.slice r3 U.ds.length rc3) (.int .i64 U.c) (.int .i64 U.u) (.slice s3 U.sk.length sc3) (.slice m3 U.mv.length mc3) = w7 at n10 HLs B7 ⊢
      obtain ⟨x0, x1, x2, x3, x4, x5, x6, x7, x8, x9, x10⟩ := blk11 n10
      have PT7 : Hid (Calls _ _ _ _ _) := (HUE.out U rfl HE3.out).2 w7 _ _ _ B7.out HLs.out
      unfold ev at PT7
      clear n10
      go_wp2_with (go_at_call 34; refine Calls.mono PT7.out ?_; rintro r w8 ⟨rfl, hp8⟩)
      go_ret
      obtain ⟨K, q1, q2, q3, q4, q5⟩ := HFI.out _ (PutTo.from B7.out hp8) HE3.out
      exact .inl ⟨K, q1, q2, q3, q4, rfl, q5⟩
    · rw [put11_fold]
      have g7 := put11_grown w3 be (.string ⟨#[]⟩) (.string ⟨#[]⟩) (.int .i64 0) (.int .i64 0) (.string ⟨#[]⟩) (.int .i64 0) (.slice none 0 0) (.int .i64 0) (.int .i64 0) (.slice none 0 0) (.slice none 0 0)
      have B7 : Hid (Below w.heap.size w (put11 w3 be (.string ⟨#[]⟩) (.string ⟨#[]⟩) (.int .i64 0) (.int .i64 0) (.string ⟨#[]⟩) (.int .i64 0) (.slice none 0 0) (.int .i64 0) (.int .i64 0) (.slice none 0 0) (.slice none 0 0))) := (below_then HA.out (below_then K2.out hb3)).grown g7 (below_then HA.out (below_then K2.out hb3)).size (fun q e => by cases e; exact Nat.le_trans HA.out.size HS2.out.2)
      have HE3 : Hid (¬ EW U) := hE3
      clear x0 x1 x2 x3 x4 x5 x6 x7 x8 x9 x10 f0 f1 f2 f3 f4 f5 f6 f7 f8 f9 f10 c0 c1 c2 c3 hE3 g7
      generalize put11 w3 be (.string ⟨#[]⟩) (.string ⟨#[]⟩) (.int .i64 0) (.int .i64 0) (.string ⟨#[]⟩) (.int .i64 0) (.slice none 0 0) (.int .i64 0) (.int .i64 0) (.slice none 0 0) (.slice none 0 0) = w7 at B7 ⊢
      go_wp2
      go_ret
      exact .inr ⟨HUN.out HE3.out, ⟨p3, rfl⟩, B7.out⟩
  · have HX : Hid (¬ ∃ H ∈ C, H.id = id ∧ o = bs (cT H k) ∧ EW (upd H G k)) := fun ⟨H, h1, h2, h3, _⟩ => hno ⟨H, h1, h2, h3⟩
    clear hno
    go_wp2
    go_ret
    exact .inr ⟨HX.out, ⟨p1, rfl⟩, below_then HA.out (below_then hb1 (below_alloc _ _))⟩

/-- a change: of field k (6: of the whole event) of an event, from a to b -/
structure DC where
  id : ByteArray
  k : Nat
  a : Option EV
  b : Option EV
noncomputable def oT (k : Nat) : Option EV → List UInt8
  | none => []
  | some E => cT E k
/-- a change, as the program holds it -/
noncomputable def DC.v (c : DC) : Value := chV c.id (fieldB c.k) (bs (oT c.k c.a)) (bs (oT c.k c.b))
/-- an event that a calendar may hold -/
def EOk (id : ByteArray) (E : EV) : Prop := EW E ∧ E.ds.length ≤ 20 ∧ E.id = id
/-- a change that Diff may tell -/
def DC.ok (c : DC) : Prop :=
  match c.a, c.b with
  | some F, some G => c.k < 6 ∧ EOk c.id F ∧ EOk c.id G
  | some F, none => c.k = 6 ∧ EOk c.id F
  | none, some G => c.k = 6 ∧ EOk c.id G
  | none, none => False
/-- what a change makes of a calendar -/
def StepTo (C : List EV) (c : DC) (C' : List EV) : Prop :=
  match c.a, c.b with
  | some F, some G => ∃ H ∈ C, H.id = c.id ∧ cT H c.k = cT F c.k ∧ EW (upd H G c.k) ∧ C' = putC (upd H G c.k) C
  | some F, none => (∃ H ∈ C, H.id = c.id ∧ eT H = eT F) ∧ C' = woC c.id C
  | none, some G => ((¬ ∃ H ∈ C, H.id = c.id) ∧ C.length < 60) ∧ C' = putC G C
  | none, none => False
theorem eT_ne {E : EV} : eT E ≠ [] := by
  unfold eT
  rw [Lib.join_cons]
  intro q
  have := congrArg List.length q
  rw [List.length_append, Lib.joinTail_length] at this
  simp [pT] at this
theorem isE_bs {l : List UInt8} (h : l ≠ []) : ((bs l).toList == []) = false := by
  rw [ByteArray.toList_eq, beq_eq_false_iff_ne]
  exact h

theorem indexS_no (nf : Nat) (w : World) (hc : ∀ (i : Nat), i < 6 → w.cell? ⟨nf, i, none⟩ = some (.string (fldB i))) :
    Calls Tryz.prog 108 #[.slice (some ⟨nf, 0, none⟩) 6 6, .string allW] w fun r w' => r = .returned (.int .i64 (-1)) ∧ w' = w := by
  have HC : Hid (∀ (i : Nat), i < 6 → w.cell? ⟨nf, i, none⟩ = some (.string (fldB i))) := hc
  have HF : Hid (∀ (i : Nat), i < 6 → (allW.toList == (fldB i).toList) = false) := fun i hi => by
    rw [ByteArray.toList_eq, ByteArray.toList_eq]
    match i, hi with
    | 0, _ => rfl
    | 1, _ => rfl
    | 2, _ => rfl
    | 3, _ => rfl
    | 4, _ => rfl
    | 5, _ => rfl
  generalize allW = fk at HF ⊢
  clear hc
  go_enter Tryz.func108, Tryz.ntmps108
  go_wp2
  go_loop [5, 8] (fun _ i => ∃ m : Nat, m ≤ 6 ∧ i = .int .i64 m) (fun _ i => 6 - (intOf i).toNat)
  case atStart => exact ⟨0, Nat.zero_le _, rfl⟩
  case round =>
    obtain ⟨m, hm, rfl⟩ := hrel
    by_cases hmk : m < 6
    · have hc1 := HC.out m hmk
      have hq := HF.out m hmk
      generalize fldB m = fm at hc1 hq
      clear HC HF
      have hm6 : (m : Int) < 6 := by omega
      go_wp2
      go_round
      case rel => exact ⟨m + 1, by omega, by go_num⟩
      case measure => simp [intOf]; omega
    · have hm6 : ¬ (m : Int) < 6 := by omega
      clear HC HF
      go_wp2
      go_ret
      exact ⟨rfl, rfl⟩
theorem containsS_no (nf : Nat) (w : World) (hc : ∀ (i : Nat), i < 6 → w.cell? ⟨nf, i, none⟩ = some (.string (fldB i))) :
    Calls Tryz.prog 62 #[.slice (some ⟨nf, 0, none⟩) 6 6, .string allW] w fun r w' => r = .returned (.bool false) ∧ w' = w := by
  have I : Hid (Calls _ _ _ _ _) := indexS_no nf w hc
  generalize allW = fk at I ⊢
  clear hc
  go_enter Tryz.func62, Tryz.ntmps62
  go_wp2_with (go_at_call 108; refine Calls.mono I.out ?_; rintro r w' ⟨rfl, rfl⟩)
  go_ret
  exact ⟨rfl, rfl⟩

set_option maxHeartbeats 1000000 in
set_option maxRecDepth 100000 in
theorem apply_C (lo bb n : Nat) (mo : Option Nat) (C : List EV) (c : DC) (hc : c.ok) (s : Nat → Addr) (w : World) (g : GlobD s w) (h : BookAt lo w bb mo n C) (hn : n ≤ 90000) :
    Calls Tryz.prog 83 #[.pointer (some ⟨bb, 0, none⟩), c.v] w fun r w' => (∃ C', StepTo C c C' ∧ r = .returned .nilIface ∧ PutTo lo w w' bb mo n C') ∨ ((¬ ∃ C', StepTo C c C') ∧ (∃ p, r = .returned (.iface 278 (.pointer (some p)))) ∧ Below w.heap.size w w') := by
  obtain ⟨id, k, a, b⟩ := c
  match a, b, hc with
  | some F, some G, hc =>
    obtain ⟨hk, hF, hG⟩ : k < 6 ∧ EOk id F ∧ EOk id G := hc
    have hid : id.size ≤ 1000 := by
      have := (ew_bd hF.1).1
      rw [hF.2.2] at this
      omega
    have ST : Hid (∀ W, Below w.heap.size w W → Calls Tryz.prog 129 #[.pointer (some ⟨bb, 0, none⟩), chV id (fieldB k) (bs (cT F k)) (bs (cT G k))] W fun r w' => (∃ C', StepTo C ⟨id, k, some F, some G⟩ C' ∧ r = .returned .nilIface ∧ PutTo lo W w' bb mo n C') ∨ ((¬ ∃ C', StepTo C ⟨id, k, some F, some G⟩ C') ∧ (∃ p, r = .returned (.iface 278 (.pointer (some p)))) ∧ Below W.heap.size W w')) := fun W hW => by
      rw [cT_lt hk G]
      refine Calls.mono (dset_C lo bb n mo C id k hk (bs (cT F k)) G hG.1 hG.2.1 hid s W (g.step hW) (h.step hW) hn) ?_
      rintro r w' (⟨H, hH, e1, e2, e3, rfl, hp⟩ | ⟨hno, hr, hb⟩)
      · exact .inl ⟨_, ⟨H, hH, e1, (bs_inj e2).symm, e3, rfl⟩, rfl, hp⟩
      · refine .inr ⟨?_, hr, hb⟩
        rintro ⟨C', H, hH, e1, e2, e3, _⟩
        exact hno ⟨H, hH, e1, by rw [e2], e3⟩
    have CO : Hid (∀ (nf : Nat) (W : World), (∀ (i : Nat), i < 6 → W.cell? ⟨nf, i, none⟩ = some (.string (fldB i))) → Calls Tryz.prog 62 #[.slice (some ⟨nf, 0, none⟩) 6 6, .string (fieldB k)] W fun r w' => r = .returned (.bool true) ∧ w' = W) := fun nf W h => by
      rw [fieldB_lt hk]
      exact containsS_any k hk nf W h
    have hA := below_alloc w (.cells #[.string id, .string (fieldB k), .string (bs (cT F k)), .string (bs (cT G k))] 121)
    have kC : (w.alloc (.cells #[.string id, .string (fieldB k), .string (bs (cT F k)), .string (bs (cT G k))] 121)).heap[w.heap.size]? = some (.cells #[.string id, .string (fieldB k), .string (bs (cT F k)), .string (bs (cT G k))] 121 (0, 0)) := block_at _ rfl
    have HA : Hid (_) := hA
    clear hA g h hF hG
    show Calls Tryz.prog 83 #[.pointer (some ⟨bb, 0, none⟩), chV id (fieldB k) (bs (cT F k)) (bs (cT G k))] w _
    unfold chV at ST ⊢
    generalize fieldB k = fb at ST CO HA kC ⊢
    generalize bs (cT F k) = o at ST HA kC ⊢
    generalize bs (cT G k) = t at ST HA kC ⊢
    generalize StepTo C ⟨id, k, some F, some G⟩ = Stp at ST ⊢
    generalize hw0 : w.alloc (.cells #[.string id, .string fb, .string o, .string t] 121) = w0 at HA kC
    obtain ⟨c0, c1, c2, c3⟩ := blk4 kC
    have KC : Hid (∀ W, Below w0.heap.size w0 W → _) := fun W hW => blk4 ((hW.block _ (Array.getElem?_eq_some_iff.1 kC).1).trans kC)
    clear kC
    go_enter Tryz.func83, Tryz.ntmps83
    go_upto_region 1 with (fail)
    go_region_with (first
      | (go_at_call 62; refine Calls.mono (CO.out _ _ FC.out) ?_; rintro r wz ⟨rfl, hq⟩; have hq := hq.symm; subst hq)
      | (go_at_call 22; refine Calls.mono (fields_any _) ?_; rintro r w2 ⟨rfl, hw2⟩; have hb2 : Below w0.heap.size w0 w2 := (by rw [hw2]; exact below_then (drew_below _) (below_alloc _ _)); have FC : Hid (∀ (i : Nat), i < 6 → w2.cell? ⟨w0.drew.heap.size, i, none⟩ = some (.string (fldB i))) := (by rw [hw2]; exact fun i hi => fld_cell w0.drew i hi); have y1 := (KC.out w2 hb2).2.1; clear hw2))
    all_goals
      clear c0 c1 c2 c3
      obtain ⟨c0, c1, c2, c3⟩ := KC.out w2 hb2
      have ST2 : Hid (Calls _ _ _ _ _) := ST.out w2 (below_then HA.out hb2)
      have B2 : Hid (Below w.heap.size w w2) := below_then HA.out hb2
      clear hb2 ST CO KC
      go_wp2_with (go_at_call 129; refine Calls.mono ST2.out ?_; rintro r w3 (⟨C', h1, rfl, hp⟩ | ⟨h1, ⟨p, rfl⟩, hb3⟩))
      · go_ret
        exact .inl ⟨C', h1, rfl, PutTo.from B2.out hp⟩
      · go_ret
        exact .inr ⟨h1, ⟨p, rfl⟩, below_then B2.out hb3⟩
  | some F, none, hc =>
    obtain ⟨hk, hF⟩ : k = 6 ∧ EOk id F := hc
    subst hk
    have hid : id.size ≤ 1000 := by
      have := (ew_bd hF.1).1
      rw [hF.2.2] at this
      omega
    have ST : Hid (∀ W, Below w.heap.size w W → Calls Tryz.prog 131 #[.pointer (some ⟨bb, 0, none⟩), chV id allW (bs (eT F)) (⟨#[]⟩ : ByteArray)] W fun r w' => (∃ C', StepTo C ⟨id, 6, some F, none⟩ C' ∧ r = .returned .nilIface ∧ PutTo lo W w' bb mo n C') ∨ ((¬ ∃ C', StepTo C ⟨id, 6, some F, none⟩ C') ∧ (∃ p, r = .returned (.iface 278 (.pointer (some p)))) ∧ Below W.heap.size W w')) := fun W hW => by
      refine Calls.mono (ddrop_C lo bb n mo C id (bs (eT F)) ⟨#[]⟩ hid s W (g.step hW) (h.step hW)) ?_
      rintro r w' (⟨⟨H, hH, e1, e2⟩, rfl, hp⟩ | ⟨hno, hr, hb⟩)
      · exact .inl ⟨_, ⟨⟨H, hH, e1, (bs_inj e2).symm⟩, rfl⟩, rfl, hp⟩
      · refine .inr ⟨?_, hr, hb⟩
        rintro ⟨C', ⟨H, hH, e1, e2⟩, _⟩
        exact hno ⟨H, hH, e1, by rw [e2]⟩
    have CO : Hid (∀ (nf : Nat) (W : World), (∀ (i : Nat), i < 6 → W.cell? ⟨nf, i, none⟩ = some (.string (fldB i))) → Calls Tryz.prog 62 #[.slice (some ⟨nf, 0, none⟩) 6 6, .string allW] W fun r w' => r = .returned (.bool false) ∧ w' = W) := fun nf W h => containsS_no nf W h
    have hA := below_alloc w (.cells #[.string id, .string allW, .string (bs (eT F)), .string (⟨#[]⟩ : ByteArray)] 121)
    have kC : (w.alloc (.cells #[.string id, .string allW, .string (bs (eT F)), .string (⟨#[]⟩ : ByteArray)] 121)).heap[w.heap.size]? = some (.cells #[.string id, .string allW, .string (bs (eT F)), .string (⟨#[]⟩ : ByteArray)] 121 (0, 0)) := block_at _ rfl
    have HA : Hid (_) := hA
    have hne : ((bs (eT F)).toList == []) = false := isE_bs eT_ne
    have hall : (allW.toList == [97, 108, 108]) = true := by rw [ByteArray.toList_eq]; rfl
    clear hA g h hF
    show Calls Tryz.prog 83 #[.pointer (some ⟨bb, 0, none⟩), chV id allW (bs (eT F)) (⟨#[]⟩ : ByteArray)] w _
    unfold chV at ST ⊢
    generalize allW = fb at ST CO HA kC hall ⊢
    generalize bs (eT F) = t at ST HA kC hne ⊢
    generalize StepTo C ⟨id, 6, some F, none⟩ = Stp at ST ⊢
    generalize hw0 : w.alloc (.cells #[.string id, .string fb, .string (t), .string (⟨#[]⟩ : ByteArray)] 121) = w0 at HA kC
    obtain ⟨c0, c1, c2, c3⟩ := blk4 kC
    have KC : Hid (∀ W, Below w0.heap.size w0 W → _) := fun W hW => blk4 ((hW.block _ (Array.getElem?_eq_some_iff.1 kC).1).trans kC)
    clear kC
    go_enter Tryz.func83, Tryz.ntmps83
    go_upto_region 1 with (fail)
    go_region_with (first
      | (go_at_call 62; refine Calls.mono (CO.out _ _ FC.out) ?_; rintro r wz ⟨rfl, hq⟩; have hq := hq.symm; subst hq)
      | (go_at_call 22; refine Calls.mono (fields_any _) ?_; rintro r w2 ⟨rfl, hw2⟩; have hb2 : Below w0.heap.size w0 w2 := (by rw [hw2]; exact below_then (drew_below _) (below_alloc _ _)); have FC : Hid (∀ (i : Nat), i < 6 → w2.cell? ⟨w0.drew.heap.size, i, none⟩ = some (.string (fldB i))) := (by rw [hw2]; exact fun i hi => fld_cell w0.drew i hi); have y1 := (KC.out w2 hb2).2.1; clear hw2))
    all_goals
      clear c0 c1 c2 c3
      obtain ⟨c0, c1, c2, c3⟩ := KC.out w2 hb2
      have ST2 : Hid (Calls _ _ _ _ _) := ST.out w2 (below_then HA.out hb2)
      have B2 : Hid (Below w.heap.size w w2) := below_then HA.out hb2
      clear hb2 ST CO KC
      go_wp2_with (go_at_call 131; refine Calls.mono ST2.out ?_; rintro r w3 (⟨C', h1, rfl, hp⟩ | ⟨h1, ⟨p, rfl⟩, hb3⟩))
      · go_ret
        exact .inl ⟨C', h1, rfl, PutTo.from B2.out hp⟩
      · go_ret
        exact .inr ⟨h1, ⟨p, rfl⟩, below_then B2.out hb3⟩
  | none, some F, hc =>
    obtain ⟨hk, hF⟩ : k = 6 ∧ EOk id F := hc
    subst hk
    have hid : id.size ≤ 1000 := by
      have := (ew_bd hF.1).1
      rw [hF.2.2] at this
      omega
    have ST : Hid (∀ W, Below w.heap.size w W → Calls Tryz.prog 130 #[.pointer (some ⟨bb, 0, none⟩), chV id allW (⟨#[]⟩ : ByteArray) (bs (eT F))] W fun r w' => (∃ C', StepTo C ⟨id, 6, none, some F⟩ C' ∧ r = .returned .nilIface ∧ PutTo lo W w' bb mo n C') ∨ ((¬ ∃ C', StepTo C ⟨id, 6, none, some F⟩ C') ∧ (∃ p, r = .returned (.iface 278 (.pointer (some p)))) ∧ Below W.heap.size W w')) := fun W hW => by
      have hd := dadd_C lo bb n mo C F hF.1 hF.2.1 allW ⟨#[]⟩ s W (g.step hW) (h.step hW) hn
      rw [hF.2.2] at hd
      refine Calls.mono hd ?_
      rintro r w' (⟨h1, rfl, hp⟩ | ⟨hno, hr, hb⟩)
      · exact .inl ⟨_, ⟨h1, rfl⟩, rfl, hp⟩
      · refine .inr ⟨?_, hr, hb⟩
        rintro ⟨C', h1, _⟩
        exact hno h1
    have CO : Hid (∀ (nf : Nat) (W : World), (∀ (i : Nat), i < 6 → W.cell? ⟨nf, i, none⟩ = some (.string (fldB i))) → Calls Tryz.prog 62 #[.slice (some ⟨nf, 0, none⟩) 6 6, .string allW] W fun r w' => r = .returned (.bool false) ∧ w' = W) := fun nf W h => containsS_no nf W h
    have hA := below_alloc w (.cells #[.string id, .string allW, .string (⟨#[]⟩ : ByteArray), .string (bs (eT F))] 121)
    have kC : (w.alloc (.cells #[.string id, .string allW, .string (⟨#[]⟩ : ByteArray), .string (bs (eT F))] 121)).heap[w.heap.size]? = some (.cells #[.string id, .string allW, .string (⟨#[]⟩ : ByteArray), .string (bs (eT F))] 121 (0, 0)) := block_at _ rfl
    have HA : Hid (_) := hA
    have hne : ((bs (eT F)).toList == []) = false := isE_bs eT_ne
    have hall : (allW.toList == [97, 108, 108]) = true := by rw [ByteArray.toList_eq]; rfl
    clear hA g h hF
    show Calls Tryz.prog 83 #[.pointer (some ⟨bb, 0, none⟩), chV id allW (⟨#[]⟩ : ByteArray) (bs (eT F))] w _
    unfold chV at ST ⊢
    generalize allW = fb at ST CO HA kC hall ⊢
    generalize bs (eT F) = t at ST HA kC hne ⊢
    generalize StepTo C ⟨id, 6, none, some F⟩ = Stp at ST ⊢
    generalize hw0 : w.alloc (.cells #[.string id, .string fb, .string (⟨#[]⟩ : ByteArray), .string (t)] 121) = w0 at HA kC
    obtain ⟨c0, c1, c2, c3⟩ := blk4 kC
    have KC : Hid (∀ W, Below w0.heap.size w0 W → _) := fun W hW => blk4 ((hW.block _ (Array.getElem?_eq_some_iff.1 kC).1).trans kC)
    clear kC
    go_enter Tryz.func83, Tryz.ntmps83
    go_upto_region 1 with (fail)
    go_region_with (first
      | (go_at_call 62; refine Calls.mono (CO.out _ _ FC.out) ?_; rintro r wz ⟨rfl, hq⟩; have hq := hq.symm; subst hq)
      | (go_at_call 22; refine Calls.mono (fields_any _) ?_; rintro r w2 ⟨rfl, hw2⟩; have hb2 : Below w0.heap.size w0 w2 := (by rw [hw2]; exact below_then (drew_below _) (below_alloc _ _)); have FC : Hid (∀ (i : Nat), i < 6 → w2.cell? ⟨w0.drew.heap.size, i, none⟩ = some (.string (fldB i))) := (by rw [hw2]; exact fun i hi => fld_cell w0.drew i hi); have y1 := (KC.out w2 hb2).2.1; clear hw2))
    all_goals
      clear c0 c1 c2 c3
      obtain ⟨c0, c1, c2, c3⟩ := KC.out w2 hb2
      have ST2 : Hid (Calls _ _ _ _ _) := ST.out w2 (below_then HA.out hb2)
      have B2 : Hid (Below w.heap.size w w2) := below_then HA.out hb2
      clear hb2 ST CO KC
      go_wp2_with (go_at_call 130; refine Calls.mono ST2.out ?_; rintro r w3 (⟨C', h1, rfl, hp⟩ | ⟨h1, ⟨p, rfl⟩, hb3⟩))
      · go_ret
        exact .inl ⟨C', h1, rfl, PutTo.from B2.out hp⟩
      · go_ret
        exact .inr ⟨h1, ⟨p, rfl⟩, below_then B2.out hb3⟩
  | none, none, hc => exact absurd hc (by unfold DC.ok; exact not_false)
end Go.Proofs.YtpdcjnkgkpbdgaaGreatDoor

/- Changes one behind the other, in plain words; rows of them; package diff's Apply. -/
namespace Go.Proofs.YtpdcjnkgkpbdgaaGreatDoor
open Go Go.RowKit Go.Maps Cal
attribute [local go_sem] Oper.semAt_some

def Runs : List EV → List DC → List EV → Prop
  | C, [], C' => C' = C
  | C, c :: r, C' => ∃ D, StepTo C c D ∧ Runs D r C'
theorem step_det {C : List EV} {c : DC} {A B : List EV} (h : Rises C) (ha : StepTo C c A) (hb : StepTo C c B) : A = B := by
  obtain ⟨id, k, a, b⟩ := c
  match a, b, ha, hb with
  | some F, some G, ha, hb =>
    obtain ⟨H, hH, e1, e2, e3, rfl⟩ := ha
    obtain ⟨K, hK, f1, f2, f3, rfl⟩ := hb
    rw [h.uniq hH hK (e1.trans f1.symm)]
  | some F, none, ha, hb => exact ha.2.trans hb.2.symm
  | none, some G, ha, hb => exact ha.2.trans hb.2.symm
  | none, none, ha, hb => exact absurd ha (by unfold StepTo; exact not_false)
theorem step_rises {C : List EV} {c : DC} {A : List EV} (h : Rises C) (ha : StepTo C c A) : Rises A := by
  obtain ⟨id, k, a, b⟩ := c
  match a, b, ha with
  | some F, some G, ha =>
    obtain ⟨H, hH, e1, e2, e3, rfl⟩ := ha
    exact putC_rises h
  | some F, none, ha =>
    rw [ha.2]
    exact woC_rises h
  | none, some G, ha =>
    rw [ha.2]
    exact putC_rises h
  | none, none, ha => exact absurd ha (by unfold StepTo; exact not_false)
theorem putC_len_in {E : EV} {C : List EV} (h : Rises C) {H : EV} (hH : H ∈ C) (e : H.id = E.id) : (putC E C).length = C.length := by
  unfold putC
  rw [insE_len]
  have := woC_len h hH
  rw [e] at this
  exact this
theorem step_len {C : List EV} {c : DC} {A : List EV} (h : Rises C) (hl : C.length ≤ 60) (ha : StepTo C c A) : A.length ≤ 60 := by
  obtain ⟨id, k, a, b⟩ := c
  match a, b, ha with
  | some F, some G, ha =>
    obtain ⟨H, hH, e1, e2, e3, rfl⟩ := ha
    rw [putC_len_in h hH (upd_id H G k).symm]
    exact hl
  | some F, none, ha =>
    rw [ha.2]
    exact Nat.le_trans (List.length_filter_le _ _) hl
  | none, some G, ha =>
    obtain ⟨⟨_, q⟩, e⟩ : ((¬ ∃ H ∈ C, H.id = id) ∧ C.length < 60) ∧ A = putC G C := ha
    rw [e]
    unfold putC
    rw [insE_len]
    have : (woC G.id C).length ≤ C.length := List.length_filter_le _ _
    omega
  | none, none, ha => exact absurd ha (by unfold StepTo; exact not_false)
theorem runs_split : ∀ {C : List EV} {l r : List DC} {C' : List EV}, Runs C (l ++ r) C' ↔ ∃ D, Runs C l D ∧ Runs D r C'
  | C, [], r, C' => ⟨fun h => ⟨C, rfl, h⟩, fun ⟨D, e, h⟩ => by
      have e' : D = C := e
      subst e'
      exact h⟩
  | C, c :: l, r, C' => by
    constructor
    · rintro ⟨D, h1, h2⟩
      obtain ⟨K, h3, h4⟩ := runs_split.1 h2
      exact ⟨K, ⟨D, h1, h3⟩, h4⟩
    · rintro ⟨K, ⟨D, h1, h3⟩, h4⟩
      exact ⟨D, h1, runs_split.2 ⟨K, h3, h4⟩⟩
theorem runs_one {C : List EV} {c : DC} {C' : List EV} : Runs C [c] C' ↔ StepTo C c C' := by
  constructor
  · rintro ⟨D, h1, h2⟩
    have e : C' = D := h2
    rw [e]; exact h1
  · exact fun h => ⟨C', h, rfl⟩
theorem runs_rises : ∀ {C : List EV} {l : List DC} {A : List EV}, Rises C → Runs C l A → Rises A
  | C, [], A, h, ha => by
    have e : A = C := ha
    rw [e]; exact h
  | C, c :: l, A, h, ha => by
    obtain ⟨D, h1, h2⟩ := ha
    exact runs_rises (step_rises h h1) h2
theorem runs_det : ∀ {C : List EV} {l : List DC} {A B : List EV}, Rises C → Runs C l A → Runs C l B → A = B
  | C, [], A, B, h, ha, hb => by
    have e : A = C := ha
    have f : B = C := hb
    rw [e, f]
  | C, c :: l, A, B, h, ha, hb => by
    obtain ⟨D, h1, h2⟩ := ha
    obtain ⟨K, h3, h4⟩ := hb
    rw [step_det h h1 h3] at h2
    exact runs_det (step_rises h h3) h2 h4

/-! ### rows of changes -/
noncomputable def DC.cells (c : DC) : List Value := [.string c.id, .string (fieldB c.k), .string (bs (oT c.k c.a)), .string (bs (oT c.k c.b))]
theorem dcells_at : ∀ (cs : List DC) (j i : Nat) (hj : j < cs.length), i < 4 → (cs.flatMap DC.cells)[j * 4 + i]? = cs[j].cells[i]?
  | c :: r, 0, i, _, hi => by
    rw [List.flatMap_cons, List.getElem?_append_left (by show _ < 4; omega)]
    rw [Nat.zero_mul, Nat.zero_add]
    rfl
  | c :: r, j + 1, i, hj, hi => by
    rw [List.flatMap_cons, List.getElem?_append_right (by show 4 ≤ _; omega)]
    have e : (j + 1) * 4 + i - c.cells.length = j * 4 + i := by
      show (j + 1) * 4 + i - 4 = _
      omega
    rw [e]
    exact dcells_at r j i (by simpa using hj) hi
/-- a row of changes that a call owns -/
def ChR (base : Nat) (W : World) (v : Value) (cs : List DC) : Prop := W.ownsRow base 121 4 v cs.length (cs.flatMap DC.cells)
theorem ChR.nil (base : Nat) (W : World) : ChR base W (.slice none 0 0) [] := World.ownsRow_nil _ _ _ _
theorem ChR.form {base : Nat} {W : World} {v : Value} {cs : List DC} (h : ChR base W v cs) : ∃ (a : Option Addr) (cap : Nat), v = .slice a cs.length cap ∧ cs.length ≤ cap ∧ ∀ (j : Nat) (hj : j < cs.length), ∃ b : Nat, a = some ⟨b, 0, none⟩ ∧ b < W.heap.size ∧ W.cell? ⟨b, j * 4, none⟩ = some (.string cs[j].id) ∧ W.cell? ⟨b, j * 4 + 1, none⟩ = some (.string (fieldB cs[j].k)) ∧ W.cell? ⟨b, j * 4 + 2, none⟩ = some (.string (bs (oT cs[j].k cs[j].a))) ∧ W.cell? ⟨b, j * 4 + 3, none⟩ = some (.string (bs (oT cs[j].k cs[j].b))) := by
  rcases h.2 with ⟨rfl, h0⟩ | ⟨g, cap, cur, rfl, hb, hg, hcap, hmax, hsz, htake⟩
  · refine ⟨none, 0, by rw [h0], by omega, fun j hj => absurd hj (by omega)⟩
  · refine ⟨_, cap, rfl, hcap, fun j hj => ⟨g, rfl, (Array.getElem?_eq_some_iff.1 hg).1, ?_⟩⟩
    have A : ∀ i, i < 4 → W.cell? ⟨g, j * 4 + i, none⟩ = cs[j].cells[i]? := fun i hi => by
      rw [← dcells_at cs j i hj hi]
      exact World.ownsRow.cellAt h (j * 4 + i) (by omega)
    exact ⟨A 0 (by omega), A 1 (by omega), A 2 (by omega), A 3 (by omega)⟩
theorem ChR.far {base : Nat} {W W' : World} {v : Value} {cs : List DC} (h : ChR base W v cs) (hk : ∀ k, base ≤ k → k < W.heap.size → W'.heap[k]? = W.heap[k]?) : ChR base W' v cs := by
  refine ⟨h.1, ?_⟩
  rcases h.2 with h2 | ⟨g, cap, cur, hv, hb, hg, r⟩
  · exact .inl h2
  · exact .inr ⟨g, cap, cur, hv, hb, (hk g hb (Array.getElem?_eq_some_iff.1 hg).1).trans hg, r⟩
theorem ChR.step {base : Nat} {W W' : World} {v : Value} {cs : List DC} (h : ChR base W v cs) (hb : Below W.heap.size W W') : ChR base W' v cs := h.far (fun k _ hk => hb.block k hk)

set_option maxHeartbeats 2000000 in
set_option maxRecDepth 100000 in
theorem applyAll_C (lo bb n : Nat) (mo : Option Nat) (C : List EV) (base : Nat) (v : Value) (cs : List DC) (hok : ∀ c ∈ cs, c.ok) (hl : cs.length ≤ 5000) (s : Nat → Addr) (w : World) (g : GlobD s w) (h : BookAt lo w bb mo n C) (hC : C.length ≤ 60) (hR : ChR base w v cs) :
    Calls Tryz.prog 40 #[.pointer (some ⟨bb, 0, none⟩), v] w fun r w' => (∃ C' mo' n', Runs C cs C' ∧ r = .returned (.tuple #[.pointer (some ⟨w.heap.size, 0, none⟩), .nilIface]) ∧ BookAt w.heap.size w' w.heap.size mo' n' C' ∧ n' ≤ 10000 ∧ C'.length ≤ 60 ∧ Below w.heap.size w w') ∨ ((¬ ∃ C', Runs C cs C') ∧ (∃ T x, r = .returned (.tuple #[.pointer none, .iface T x])) ∧ Below w.heap.size w w') := by
  have CP : Hid (Calls _ _ _ _ _) := copy_C lo bb n mo C w h hC
  have HR0 : Hid (Rises C) := h.rises.1
  obtain ⟨a, cap, rfl, hcap, hc⟩ := hR.form
  have HC : Hid (_) := hc
  have HG : Hid (GlobD s w) := g
  have HOK : Hid (∀ c ∈ cs, c.ok) := hok
  clear hc hR h g hok
  go_enter Tryz.func40, Tryz.ntmps40
  go_upto_region 2 with (go_at_call 82; refine Calls.mono CP.out ?_; rintro r w1 ⟨cmo, cn, rfl, hbc, hcn, k1⟩)
  have HB0 : Hid (∃ mo n D, Runs C (cs.take 0) D ∧ BookAt w.heap.size w1 w.heap.size mo n D ∧ n ≤ 60 + 0 ∧ D.length ≤ 60 ∧ Below w.heap.size w w1) := ⟨cmo, cn, C, rfl, hbc, hcn, hC, k1⟩
  clear hbc k1 CP
  go_wp2
  go_loopw [7, 8, 9, 14] (fun _ _ _ i wr => ∃ m : Nat, m ≤ cs.length ∧ i = .int .i64 m ∧ Hid (∃ mo n D, Runs C (cs.take m) D ∧ BookAt w.heap.size wr w.heap.size mo n D ∧ n ≤ 60 + m ∧ D.length ≤ 60 ∧ Below w.heap.size w wr)) (fun _ _ _ i _ => cs.length - (intOf i).toNat)
  case atStart => exact ⟨0, Nat.zero_le _, rfl, HB0.out⟩
  case round =>
    obtain ⟨m, hm, rfl, HV⟩ := hrel
    obtain ⟨mo1, n1, D, hrun, hbk, hn1, hD, hB⟩ := HV.out
    clear HV
    by_cases hlt : m < cs.length
    · obtain ⟨b, rfl, hbl, q0, q1, q2, q3⟩ := HC.out m hlt
      have hcok := HOK.out _ (List.getElem_mem hlt)
      have HTK : Hid (cs.take (m + 1) = cs.take m ++ [cs[m]]) := List.take_succ_eq_append_getElem hlt
      have HFL : Hid ((¬ ∃ D', StepTo D cs[m] D') → ¬ ∃ C', Runs C cs C') := fun hno ⟨C', hrc⟩ => by
        have e : cs = cs.take (m + 1) ++ cs.drop (m + 1) := (List.take_append_drop _ _).symm
        rw [e, HTK.out] at hrc
        obtain ⟨K, h1, _⟩ := runs_split.1 hrc
        obtain ⟨K', h2, h3⟩ := runs_split.1 h1
        rw [runs_det HR0.out h2 hrun] at h3
        exact hno ⟨K, runs_one.1 h3⟩
      have HNX : Hid (∀ D', StepTo D cs[m] D' → Runs C (cs.take (m + 1)) D' ∧ D'.length ≤ 60) := fun D' hs => by
        rw [HTK.out]
        exact ⟨runs_split.2 ⟨D, hrun, runs_one.2 hs⟩, step_len (runs_rises HR0.out hrun) hD hs⟩
      have x0 := cell_step q0 hB
      have x1 := cell_step q1 hB
      have x2 := cell_step q2 hB
      have x3 := cell_step q3 hB
      have hb2 : Below wr.heap.size wr (wr.alloc (.cells #[.string cs[m].id, .string (fieldB cs[m].k), .string (bs (oT cs[m].k cs[m].a)), .string (bs (oT cs[m].k cs[m].b))] 121)) := below_alloc _ _
      have AP : Hid (Calls _ _ _ _ _) := apply_C w.heap.size w.heap.size n1 mo1 D cs[m] hcok s _ (HG.out.step (below_then hB hb2)) (hbk.step hb2) (by omega)
      have HKB : Hid (∀ (w3 : World) (C' : List EV), PutTo w.heap.size (wr.alloc (.cells #[.string cs[m].id, .string (fieldB cs[m].k), .string (bs (oT cs[m].k cs[m].a)), .string (bs (oT cs[m].k cs[m].b))] 121)) w3 w.heap.size mo1 n1 C' → Below w.heap.size w w3) := fun w3 C' hp => by
        obtain ⟨mo', _, hK, _⟩ := hp
        obtain ⟨_, _, _, hhi, _⟩ := hbk
        exact hK.below (below_then hB hb2) (Nat.le_refl _) hhi
      have HB2 : Hid (Below w.heap.size w (wr.alloc (.cells #[.string cs[m].id, .string (fieldB cs[m].k), .string (bs (oT cs[m].k cs[m].a)), .string (bs (oT cs[m].k cs[m].b))] 121))) := below_then hB hb2
      have kC : (wr.alloc (.cells #[.string cs[m].id, .string (fieldB cs[m].k), .string (bs (oT cs[m].k cs[m].a)), .string (bs (oT cs[m].k cs[m].b))] 121)).heap[wr.heap.size]? = some (.cells #[.string cs[m].id, .string (fieldB cs[m].k), .string (bs (oT cs[m].k cs[m].a)), .string (bs (oT cs[m].k cs[m].b))] 121 (0, 0)) := block_at _ rfl
      unfold DC.v chV at AP
      clear HC q0 q1 q2 q3 hbk hrun hB hb2 HTK
      generalize cs[m] = c at AP HFL HNX x0 x1 x2 x3 hcok HKB HB2 kC
      generalize c.id = ci at AP x0 HKB HB2 kC
      generalize fieldB c.k = cf at AP x1 HKB HB2 kC
      generalize bs (oT c.k c.a) = co at AP x2 HKB HB2 kC
      generalize bs (oT c.k c.b) = cn at AP x3 HKB HB2 kC
      go_upto_region 5 with (fail)
      generalize wr.alloc (.cells #[.string ci, .string cf, .string co, .string cn] 121) = w2 at AP HKB HB2 kC ⊢
      obtain ⟨c0, c1, c2, c3⟩ := blk4 kC
      clear kC x0 x1 x2 x3
      go_wp2_with (go_at_call 83; refine Calls.mono AP.out ?_; rintro r w3 (⟨D', hs, rfl, hp⟩ | ⟨hno, ⟨p, rfl⟩, hb3⟩))
      · obtain ⟨h1, h2⟩ := HNX.out D' hs
        have HR3 : Hid (∃ mo n D, Runs C (cs.take (m + 1)) D ∧ BookAt w.heap.size w3 w.heap.size mo n D ∧ n ≤ 60 + (m + 1) ∧ D.length ≤ 60 ∧ Below w.heap.size w w3) := by
          have hBB := HKB.out w3 D' hp
          obtain ⟨mo', hbk', _, _⟩ := hp
          exact ⟨mo', n1 + 1, D', h1, hbk', by omega, h2, hBB⟩
        go_roundw
        case rel => exact ⟨m + 1, by omega, by go_num, HR3.out⟩
        case measure => simp [intOf]; omega
      · have HF : Hid (¬ ∃ C', Runs C cs C') := HFL.out hno
        go_ret2
        exact .inr ⟨HF.out, ⟨_, _, rfl⟩, below_then HB2.out (below_then hb3 (below_alloc _ _))⟩
    · have HE : Hid (∃ mo n D, Runs C cs D ∧ BookAt w.heap.size wr w.heap.size mo n D ∧ n ≤ 10000 ∧ D.length ≤ 60 ∧ Below w.heap.size w wr) := by
        rw [List.take_of_length_le (by omega)] at hrun
        exact ⟨mo1, n1, D, hrun, hbk, by omega, hD, hB⟩
      clear hrun hbk hB HC
      obtain ⟨mo2, n2, D2, z1, z2, z3, z4, z5⟩ := HE.out
      have Z1 : Hid (Runs C cs D2) := z1
      have Z2 : Hid (BookAt w.heap.size wr w.heap.size mo2 n2 D2) := z2
      have Z5 : Hid (Below w.heap.size w wr) := z5
      clear z1 z2 z5 HE
      go_wp2
      go_ret2
      exact .inl ⟨D2, mo2, n2, Z1.out, rfl, Z2.out, z3, z4, Z5.out⟩
end Go.Proofs.YtpdcjnkgkpbdgaaGreatDoor
