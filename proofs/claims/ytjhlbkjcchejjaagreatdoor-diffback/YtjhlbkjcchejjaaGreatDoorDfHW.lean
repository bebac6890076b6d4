/- Package diff's set and apply: a change applied to a calendar. -/
import Derived.Test.YtjhlbkjcchejjaaGreatDoorDfGW
namespace Go.Proofs.YtjhlbkjcchejjaaGreatDoor
open Go Go.RowKit Go.Maps Cal
attribute [local go_sem] Oper.semAt_some

theorem fieldB_lt {k : Nat} (hk : k < 6) : fieldB k = fldB k := by
  match k, hk with
  | 0, _ => rfl
  | 1, _ => rfl
  | 2, _ => rfl
  | 3, _ => rfl
  | 4, _ => rfl
  | 5, _ => rfl
theorem cT_lt {k : Nat} (hk : k < 6) (E : EV) : cT E k = fT E k := by
  match k, hk with
  | 0, _ => rfl
  | 1, _ => rfl
  | 2, _ => rfl
  | 3, _ => rfl
  | 4, _ => rfl
  | 5, _ => rfl
theorem ow_ls {base : Nat} {W : World} {E : EV} {sl skv mvv : Value} (h1 : Ow base W sl E.ds) (h2 : Ow base W skv E.sk) (h3 : OwM base W mvv E.mv) (hE : EW E) (h20 : E.ds.length ≤ 20) : Ls W E sl skv mvv := by
  obtain ⟨_, _, k20, m20⟩ := ew_bd hE
  exact ⟨ow_days h1 h20, ow_ints h2 (by omega), (owm_movs h3 (by omega)).1⟩

set_option maxHeartbeats 1000000 in
set_option maxRecDepth 100000 in
theorem dset_C (lo bb n : Nat) (mo : Option Nat) (C : List EV) (id : ByteArray) (k : Nat) (hk : k < 6) (o : ByteArray) (G : EV) (hG : EW G) (h20 : G.ds.length ≤ 20) (hid : id.size ≤ 1000) (s : Nat → Addr) (w : World) (g : GlobD s w) (h : BookAt lo w bb mo n C) (hn : n ≤ 90000) :
    Calls Tryz.prog 98 #[.pointer (some ⟨bb, 0, none⟩), chV id (fieldB k) o (bs (fT G k))] w fun r w' => (∃ H ∈ C, H.id = id ∧ o = bs (cT H k) ∧ EW (upd H G k) ∧ r = .returned .nilIface ∧ PutTo lo w w' bb mo n (putC (upd H G k) C)) ∨ ((¬ ∃ H ∈ C, H.id = id ∧ o = bs (cT H k) ∧ EW (upd H G k)) ∧ (∃ p, r = .returned (.iface 236 (.pointer (some p)))) ∧ Below w.heap.size w w') := by
  have hA := below_alloc w (.cells #[.string id, .string (fieldB k), .string o, .string (bs (fT G k))] 82)
  have kC : (w.alloc (.cells #[.string id, .string (fieldB k), .string o, .string (bs (fT G k))] 82)).heap[w.heap.size]? = some (.cells #[.string id, .string (fieldB k), .string o, .string (bs (fT G k))] 82 (0, 0)) := block_at _ rfl
  have FD : Hid (Calls _ _ _ _ _) := find_C lo bb n mo C id k (by omega) o (bs (fT G k)) hid s _ (g.step hA) (h.step hA)
  have SE : Hid (∀ (H : EV), H ∈ C → ∀ (W : World) (sl skv mvv : Value), Below w.heap.size w W → Ls W H sl skv mvv → Calls Tryz.prog 14 #[ev H sl skv mvv, .string (fieldB k), .string (bs (fT G k))] W fun r w' => Below W.heap.size W w' ∧
      ((EW (upd H G k) ∧ ∃ sl' skv' mvv', r = .returned (.tuple #[ev (upd H G k) sl' skv' mvv', .nilIface]) ∧ Ow W.heap.size w' sl' (upd H G k).ds ∧ Ow W.heap.size w' skv' (upd H G k).sk ∧ OwM W.heap.size w' mvv' (upd H G k).mv) ∨ (¬ EW (upd H G k) ∧ ∃ p, r = .returned (.tuple #[zV, .iface 236 (.pointer (some p))])))) := fun H hH W sl skv mvv hW hL => by
    rw [fieldB_lt hk]
    exact eset_any H G sl skv mvv k hk s W (g.step hW).gk (g.step hW).gr hL (h.rises.2 H hH) hG h20
  have PT : Hid (∀ (H : EV), H ∈ C → EW (upd H G k) → ∀ (W : World) (sl skv mvv : Value), Below w.heap.size w W → Ls W (upd H G k) sl skv mvv → Calls Tryz.prog 46 #[.pointer (some ⟨bb, 0, none⟩), ev (upd H G k) sl skv mvv] W fun r w' => r = .returned .nilIface ∧ PutTo lo W w' bb mo n (putC (upd H G k) C)) := fun H hH hE W sl skv mvv hW hL => by
    refine Calls.mono (put_ew lo bb n mo C (upd H G k) sl skv mvv s W (g.step hW).gk (h.step hW) hn hE hL) ?_
    rintro r w' (⟨h1, _⟩ | ⟨_, rfl, hp⟩)
    · exact absurd ⟨H, hH, (upd_id H G k).symm⟩ h1.1
    · exact ⟨rfl, hp⟩
  have HD : Hid (∀ H ∈ C, (upd H G k).ds.length ≤ 20) := fun H hH => by
    obtain ⟨D, _, _, _, h4⟩ := h
    have := (h4.at_ H hH).1.2
    unfold upd
    split <;> first | exact this | exact h20
  have HU : Hid (∀ H ∈ C, ∀ K ∈ C, H.id = id → K.id = id → H = K) := fun H hH K hK e1 e2 => h.rises.1.uniq hH hK (e1.trans e2.symm)
  have HA : Hid (_) := hA
  clear hA g h hG
  unfold chV at FD ⊢
  generalize fieldB k = fb at FD HA kC SE ⊢
  generalize bs (fT G k) = tx at FD HA kC SE ⊢
  generalize hw0 : w.alloc (.cells #[.string id, .string fb, .string o, .string tx] 82) = w0 at FD HA kC
  obtain ⟨c0, c1, c2, c3⟩ := blk4 kC
  have KC : Hid (∀ W, Below w0.heap.size w0 W → _) := fun W hW => blk4 ((hW.block _ (Array.getElem?_eq_some_iff.1 kC).1).trans kC)
  clear kC
  go_enter Tryz.func98, Tryz.ntmps98
  go_upto_region 2 with (go_at_call 134; refine Calls.mono FD.out ?_; rintro r w1 (⟨H, hH, he, ho, sl, skv, mvv, rfl, hL1, hb1⟩ | ⟨hno, ⟨p1, rfl⟩, hb1⟩) <;> (first | (have HX : Hid (H.id = id ∧ o = bs (cT H k)) := ⟨he, ho⟩; have HL1 : Hid (Ls w1 H sl skv mvv) := hL1; clear he ho; obtain ⟨r1, rc1, rfl, _⟩ := hL1.d; obtain ⟨s1, sc1, rfl, _⟩ := hL1.s; obtain ⟨m1, mc1, rfl, _⟩ := hL1.m; unfold ev; dsimp only) | unfold zV))
  · have kE := EB.new w1 H (.slice r1 H.ds.length rc1) (.slice s1 H.sk.length sc1) (.slice m1 H.mv.length mc1)
    unfold EB at kE
    have K2 : Hid (Below w0.heap.size w0 (w1.alloc (.cells #[.string H.id, .string H.ti, .int .i64 H.st, .int .i64 H.lg, .string H.f, .int .i64 H.e, .slice r1 H.ds.length rc1, .int .i64 H.c, .int .i64 H.u, .slice s1 H.sk.length sc1, .slice m1 H.mv.length mc1] 27))) := below_then hb1 (below_alloc _ _)
    have SE2 : Hid (Calls _ _ _ _ _) := SE.out H hH _ _ _ _ (below_then HA.out K2.out) (HL1.out.step (below_alloc _ _))
    have HS2 : Hid (w1.heap.size < (w1.alloc (.cells #[.string H.id, .string H.ti, .int .i64 H.st, .int .i64 H.lg, .string H.f, .int .i64 H.e, .slice r1 H.ds.length rc1, .int .i64 H.c, .int .i64 H.u, .slice s1 H.sk.length sc1, .slice m1 H.mv.length mc1] 27)).heap.size ∧ w0.heap.size ≤ w1.heap.size) := ⟨by rw [World.size_alloc]; exact Nat.lt_succ_self _, hb1.size⟩
    clear hL1 hb1 HL1 c0 c1 c2 c3 FD SE
    generalize w1.alloc (.cells #[.string H.id, .string H.ti, .int .i64 H.st, .int .i64 H.lg, .string H.f, .int .i64 H.e, .slice r1 H.ds.length rc1, .int .i64 H.c, .int .i64 H.u, .slice s1 H.sk.length sc1, .slice m1 H.mv.length mc1] 27) = w2 at kE K2 SE2 HS2 ⊢
    generalize w1.heap.size = be at kE HS2 ⊢
    obtain ⟨c0, c1, c2, c3⟩ := KC.out w2 K2.out
    obtain ⟨x0, x1, x2, x3, x4, x5, x6, x7, x8, x9, x10⟩ := blk11 kE
    have KE : Hid (∀ W, Below w2.heap.size w2 W → W.heap[be]? = some (.cells #[.string H.id, .string H.ti, .int .i64 H.st, .int .i64 H.lg, .string H.f, .int .i64 H.e, .slice r1 H.ds.length rc1, .int .i64 H.c, .int .i64 H.u, .slice s1 H.sk.length sc1, .slice m1 H.mv.length mc1] 27 (0, 0))) := fun W hW => (hW.block _ (Array.getElem?_eq_some_iff.1 kE).1).trans kE
    clear kE
    unfold ev at SE2
    have HUE : Hid (∀ U, upd H G k = U → EW U → (∃ H ∈ C, H.id = id ∧ o = bs (cT H k) ∧ EW (upd H G k)) ∧ ∀ (W : World) (sl skv mvv : Value), Below w.heap.size w W → Ls W U sl skv mvv → Calls Tryz.prog 46 #[.pointer (some ⟨bb, 0, none⟩), ev U sl skv mvv] W fun r w' => r = .returned .nilIface ∧ PutTo lo W w' bb mo n (putC U C)) := fun U e hE => by
      subst e
      exact ⟨⟨H, hH, HX.out.1, HX.out.2, hE⟩, PT.out H hH hE⟩
    have hud := HD.out H hH
    have HUN : Hid (¬ EW (upd H G k) → ¬ ∃ H ∈ C, H.id = id ∧ o = bs (cT H k) ∧ EW (upd H G k)) := fun q ⟨K, hK, e1, e2, e3⟩ => by
      rw [HU.out K hK H hH e1 HX.out.1] at e3
      exact q e3
    have HFI : Hid (∀ w', PutTo lo w w' bb mo n (putC (upd H G k) C) → EW (upd H G k) → ∃ H ∈ C, H.id = id ∧ o = bs (cT H k) ∧ EW (upd H G k) ∧ PutTo lo w w' bb mo n (putC (upd H G k) C)) := fun w' hp hE => ⟨H, hH, HX.out.1, HX.out.2, hE, hp⟩
    clear PT HD HU hH HX
    generalize upd H G k = U at SE2 HUE hud HUN HFI
    go_upto_region 5 with (go_at_call 14; refine Calls.mono SE2.out ?_; rintro r w3 ⟨hb3, (⟨hE3, sl, skv, mvv, rfl, o1, o2, o3⟩ | ⟨hE3, p3, rfl⟩)⟩ <;> (clear x0 x1 x2 x3 x4 x5 x6 x7 x8 x9 x10; have kE3 := KE.out w3 hb3; have HKE3 : Hid (_) := kE3; obtain ⟨x0, x1, x2, x3, x4, x5, x6, x7, x8, x9, x10⟩ := blk11 kE3; have f0 := blk11_frozen kE3 0; have f1 := blk11_frozen kE3 1; have f2 := blk11_frozen kE3 2; have f3 := blk11_frozen kE3 3; have f4 := blk11_frozen kE3 4; have f5 := blk11_frozen kE3 5; have f6 := blk11_frozen kE3 6; have f7 := blk11_frozen kE3 7; have f8 := blk11_frozen kE3 8; have f9 := blk11_frozen kE3 9; have f10 := blk11_frozen kE3 10; clear kE3; first | (obtain ⟨r3, rc3, rfl⟩ := ow_form o1; obtain ⟨s3, sc3, rfl⟩ := ow_form o2; obtain ⟨m3, mc3, rfl, _⟩ := (owm_movs o3 (by have := (ew_bd hE3).2.2.2; omega)).1) | unfold zV))
    · rw [put11_fold]
      have n10 := put11_blk (.string U.id) (.string U.ti) (.int .i64 U.st) (.int .i64 U.lg) (.string U.f) (.int .i64 U.e) (.slice r3 U.ds.length rc3) (.int .i64 U.c) (.int .i64 U.u) (.slice s3 U.sk.length sc3) (.slice m3 U.mv.length mc3) HKE3.out
      have g7 := put11_grown w3 be (.string U.id) (.string U.ti) (.int .i64 U.st) (.int .i64 U.lg) (.string U.f) (.int .i64 U.e) (.slice r3 U.ds.length rc3) (.int .i64 U.c) (.int .i64 U.u) (.slice s3 U.sk.length sc3) (.slice m3 U.mv.length mc3)
      have HLs : Hid (Ls (put11 w3 be (.string U.id) (.string U.ti) (.int .i64 U.st) (.int .i64 U.lg) (.string U.f) (.int .i64 U.e) (.slice r3 U.ds.length rc3) (.int .i64 U.c) (.int .i64 U.u) (.slice s3 U.sk.length sc3) (.slice m3 U.mv.length mc3)) U (.slice r3 U.ds.length rc3) (.slice s3 U.sk.length sc3) (.slice m3 U.mv.length mc3)) := ow_ls (o1.grown g7 HS2.out.1) (o2.grown g7 HS2.out.1) (o3.grown g7 HS2.out.1) hE3 hud
      have B7 : Hid (Below w.heap.size w (put11 w3 be (.string U.id) (.string U.ti) (.int .i64 U.st) (.int .i64 U.lg) (.string U.f) (.int .i64 U.e) (.slice r3 U.ds.length rc3) (.int .i64 U.c) (.int .i64 U.u) (.slice s3 U.sk.length sc3) (.slice m3 U.mv.length mc3))) := (below_then HA.out (below_then K2.out hb3)).grown g7 (below_then HA.out (below_then K2.out hb3)).size (fun q e => by cases e; exact Nat.le_trans HA.out.size HS2.out.2)
      have HE3 : Hid (EW U) := hE3
      clear x0 x1 x2 x3 x4 x5 x6 x7 x8 x9 x10 f0 f1 f2 f3 f4 f5 f6 f7 f8 f9 f10 c0 c1 c2 c3 o1 o2 o3 hE3 g7
      generalize put11 w3 be (.string U.id) (.string U.ti) (.int .i64 U.st) (.int .i64 U.lg) (.string U.f) (.int .i64 U.e) (.slice r3 U.ds.length rc3) (.int .i64 U.c) (.int .i64 U.u) (.slice s3 U.sk.length sc3) (.slice m3 U.mv.length mc3) = w7 at n10 HLs B7 ⊢
      obtain ⟨x0, x1, x2, x3, x4, x5, x6, x7, x8, x9, x10⟩ := blk11 n10
      have PT7 : Hid (Calls _ _ _ _ _) := (HUE.out U rfl HE3.out).2 w7 _ _ _ B7.out HLs.out
      unfold ev at PT7
      clear n10
      go_wp2_with (go_at_call 46; refine Calls.mono PT7.out ?_; rintro r w8 ⟨rfl, hp8⟩)
      go_ret
      obtain ⟨K, q1, q2, q3, q4, q5⟩ := HFI.out _ (PutTo.from B7.out hp8) HE3.out
      exact .inl ⟨K, q1, q2, q3, q4, rfl, q5⟩
    · rw [put11_fold]
      have g7 := put11_grown w3 be (.string ⟨#[]⟩) (.string ⟨#[]⟩) (.int .i64 0) (.int .i64 0) (.string ⟨#[]⟩) (.int .i64 0) (.slice none 0 0) (.int .i64 0) (.int .i64 0) (.slice none 0 0) (.slice none 0 0)
      have B7 : Hid (Below w.heap.size w (put11 w3 be (.string ⟨#[]⟩) (.string ⟨#[]⟩) (.int .i64 0) (.int .i64 0) (.string ⟨#[]⟩) (.int .i64 0) (.slice none 0 0) (.int .i64 0) (.int .i64 0) (.slice none 0 0) (.slice none 0 0))) := (below_then HA.out (below_then K2.out hb3)).grown g7 (below_then HA.out (below_then K2.out hb3)).size (fun q e => by cases e; exact Nat.le_trans HA.out.size HS2.out.2)
      have HE3 : Hid (¬ EW U) := hE3
      clear x0 x1 x2 x3 x4 x5 x6 x7 x8 x9 x10 f0 f1 f2 f3 f4 f5 f6 f7 f8 f9 f10 c0 c1 c2 c3 hE3 g7
      generalize put11 w3 be (.string ⟨#[]⟩) (.string ⟨#[]⟩) (.int .i64 0) (.int .i64 0) (.string ⟨#[]⟩) (.int .i64 0) (.slice none 0 0) (.int .i64 0) (.int .i64 0) (.slice none 0 0) (.slice none 0 0) = w7 at B7 ⊢
      go_wp2
      go_ret
      exact .inr ⟨HUN.out HE3.out, ⟨p3, rfl⟩, B7.out⟩
  · have HX : Hid (¬ ∃ H ∈ C, H.id = id ∧ o = bs (cT H k) ∧ EW (upd H G k)) := fun ⟨H, h1, h2, h3, _⟩ => hno ⟨H, h1, h2, h3⟩
    clear hno
    go_wp2
    go_ret
    exact .inr ⟨HX.out, ⟨p1, rfl⟩, below_then HA.out (below_then hb1 (below_alloc _ _))⟩

/-- a change: of field k (6: of the whole event) of an event, from a to b -/
structure DC where
  id : ByteArray
  k : Nat
  a : Option EV
  b : Option EV
noncomputable def oT (k : Nat) : Option EV → List UInt8
  | none => []
  | some E => cT E k
/-- a change, as the program holds it -/
noncomputable def DC.v (c : DC) : Value := chV c.id (fieldB c.k) (bs (oT c.k c.a)) (bs (oT c.k c.b))
/-- an event that a calendar may hold -/
def EOk (id : ByteArray) (E : EV) : Prop := EW E ∧ E.ds.length ≤ 20 ∧ E.id = id
/-- a change that Diff may tell -/
def DC.ok (c : DC) : Prop :=
  match c.a, c.b with
  | some F, some G => c.k < 6 ∧ EOk c.id F ∧ EOk c.id G
  | some F, none => c.k = 6 ∧ EOk c.id F
  | none, some G => c.k = 6 ∧ EOk c.id G
  | none, none => False
/-- what a change makes of a calendar -/
def StepTo (C : List EV) (c : DC) (C' : List EV) : Prop :=
  match c.a, c.b with
  | some F, some G => ∃ H ∈ C, H.id = c.id ∧ cT H c.k = cT F c.k ∧ EW (upd H G c.k) ∧ C' = putC (upd H G c.k) C
  | some F, none => (∃ H ∈ C, H.id = c.id ∧ eT H = eT F) ∧ C' = woC c.id C
  | none, some G => ((¬ ∃ H ∈ C, H.id = c.id) ∧ C.length < 60) ∧ C' = putC G C
  | none, none => False
theorem eT_ne {E : EV} : eT E ≠ [] := by
  unfold eT
  rw [Lib.join_cons]
  intro q
  have := congrArg List.length q
  rw [List.length_append, Lib.joinTail_length] at this
  simp [pT] at this
theorem isE_bs {l : List UInt8} (h : l ≠ []) : ((bs l).toList == []) = false := by
  rw [ByteArray.toList_eq, beq_eq_false_iff_ne]
  exact h

theorem indexS_no (nf : Nat) (w : World) (hc : ∀ (i : Nat), i < 6 → w.cell? ⟨nf, i, none⟩ = some (.string (fldB i))) :
    Calls Tryz.prog 78 #[.slice (some ⟨nf, 0, none⟩) 6 6, .string allW] w fun r w' => r = .returned (.int .i64 (-1)) ∧ w' = w := by
  have HC : Hid (∀ (i : Nat), i < 6 → w.cell? ⟨nf, i, none⟩ = some (.string (fldB i))) := hc
  have HF : Hid (∀ (i : Nat), i < 6 → (allW.toList == (fldB i).toList) = false) := fun i hi => by
    rw [ByteArray.toList_eq, ByteArray.toList_eq]
    match i, hi with
    | 0, _ => rfl
    | 1, _ => rfl
    | 2, _ => rfl
    | 3, _ => rfl
    | 4, _ => rfl
    | 5, _ => rfl
  generalize allW = fk at HF ⊢
  clear hc
  go_enter Tryz.func78, Tryz.ntmps78
  go_wp2
  go_loop [5, 8] (fun _ i => ∃ m : Nat, m ≤ 6 ∧ i = .int .i64 m) (fun _ i => 6 - (intOf i).toNat)
  case atStart => exact ⟨0, Nat.zero_le _, rfl⟩
  case round =>
    obtain ⟨m, hm, rfl⟩ := hrel
    by_cases hmk : m < 6
    · have hc1 := HC.out m hmk
      have hq := HF.out m hmk
      generalize fldB m = fm at hc1 hq
      clear HC HF
      have hm6 : (m : Int) < 6 := by omega
      go_wp2
      go_round
      case rel => exact ⟨m + 1, by omega, by go_num⟩
      case measure => simp [intOf]; omega
    · have hm6 : ¬ (m : Int) < 6 := by omega
      clear HC HF
      go_wp2
      go_ret
      exact ⟨rfl, rfl⟩
theorem containsS_no (nf : Nat) (w : World) (hc : ∀ (i : Nat), i < 6 → w.cell? ⟨nf, i, none⟩ = some (.string (fldB i))) :
    Calls Tryz.prog 37 #[.slice (some ⟨nf, 0, none⟩) 6 6, .string allW] w fun r w' => r = .returned (.bool false) ∧ w' = w := by
  have I : Hid (Calls _ _ _ _ _) := indexS_no nf w hc
  generalize allW = fk at I ⊢
  clear hc
  go_enter Tryz.func37, Tryz.ntmps37
  go_wp2_with (go_at_call 78; refine Calls.mono I.out ?_; rintro r w' ⟨rfl, rfl⟩)
  go_ret
  exact ⟨rfl, rfl⟩

set_option maxHeartbeats 1000000 in
set_option maxRecDepth 100000 in
theorem apply_C (lo bb n : Nat) (mo : Option Nat) (C : List EV) (c : DC) (hc : c.ok) (s : Nat → Addr) (w : World) (g : GlobD s w) (h : BookAt lo w bb mo n C) (hn : n ≤ 90000) :
    Calls Tryz.prog 53 #[.pointer (some ⟨bb, 0, none⟩), c.v] w fun r w' => (∃ C', StepTo C c C' ∧ r = .returned .nilIface ∧ PutTo lo w w' bb mo n C') ∨ ((¬ ∃ C', StepTo C c C') ∧ (∃ p, r = .returned (.iface 236 (.pointer (some p)))) ∧ Below w.heap.size w w') := by
  obtain ⟨id, k, a, b⟩ := c
  match a, b, hc with
  | some F, some G, hc =>
    obtain ⟨hk, hF, hG⟩ : k < 6 ∧ EOk id F ∧ EOk id G := hc
    have hid : id.size ≤ 1000 := by
      have := (ew_bd hF.1).1
      rw [hF.2.2] at this
      omega
    have ST : Hid (∀ W, Below w.heap.size w W → Calls Tryz.prog 98 #[.pointer (some ⟨bb, 0, none⟩), chV id (fieldB k) (bs (cT F k)) (bs (cT G k))] W fun r w' => (∃ C', StepTo C ⟨id, k, some F, some G⟩ C' ∧ r = .returned .nilIface ∧ PutTo lo W w' bb mo n C') ∨ ((¬ ∃ C', StepTo C ⟨id, k, some F, some G⟩ C') ∧ (∃ p, r = .returned (.iface 236 (.pointer (some p)))) ∧ Below W.heap.size W w')) := fun W hW => by
      rw [cT_lt hk G]
      refine Calls.mono (dset_C lo bb n mo C id k hk (bs (cT F k)) G hG.1 hG.2.1 hid s W (g.step hW) (h.step hW) hn) ?_
      rintro r w' (⟨H, hH, e1, e2, e3, rfl, hp⟩ | ⟨hno, hr, hb⟩)
      · exact .inl ⟨_, ⟨H, hH, e1, (bs_inj e2).symm, e3, rfl⟩, rfl, hp⟩
      · refine .inr ⟨?_, hr, hb⟩
        rintro ⟨C', H, hH, e1, e2, e3, _⟩
        exact hno ⟨H, hH, e1, by rw [e2], e3⟩
    have CO : Hid (∀ (nf : Nat) (W : World), (∀ (i : Nat), i < 6 → W.cell? ⟨nf, i, none⟩ = some (.string (fldB i))) → Calls Tryz.prog 37 #[.slice (some ⟨nf, 0, none⟩) 6 6, .string (fieldB k)] W fun r w' => r = .returned (.bool true) ∧ w' = W) := fun nf W h => by
      rw [fieldB_lt hk]
      exact containsS_any k hk nf W h
    have hA := below_alloc w (.cells #[.string id, .string (fieldB k), .string (bs (cT F k)), .string (bs (cT G k))] 82)
    have kC : (w.alloc (.cells #[.string id, .string (fieldB k), .string (bs (cT F k)), .string (bs (cT G k))] 82)).heap[w.heap.size]? = some (.cells #[.string id, .string (fieldB k), .string (bs (cT F k)), .string (bs (cT G k))] 82 (0, 0)) := block_at _ rfl
    have HA : Hid (_) := hA
    clear hA g h hF hG
    show Calls Tryz.prog 53 #[.pointer (some ⟨bb, 0, none⟩), chV id (fieldB k) (bs (cT F k)) (bs (cT G k))] w _
    unfold chV at ST ⊢
    generalize fieldB k = fb at ST CO HA kC ⊢
    generalize bs (cT F k) = o at ST HA kC ⊢
    generalize bs (cT G k) = t at ST HA kC ⊢
    generalize StepTo C ⟨id, k, some F, some G⟩ = Stp at ST ⊢
    generalize hw0 : w.alloc (.cells #[.string id, .string fb, .string o, .string t] 82) = w0 at HA kC
    obtain ⟨c0, c1, c2, c3⟩ := blk4 kC
    have KC : Hid (∀ W, Below w0.heap.size w0 W → _) := fun W hW => blk4 ((hW.block _ (Array.getElem?_eq_some_iff.1 kC).1).trans kC)
    clear kC
    go_enter Tryz.func53, Tryz.ntmps53
    go_upto_region 1 with (fail)
    go_region_with (first
      | (go_at_call 37; refine Calls.mono (CO.out _ _ FC.out) ?_; rintro r wz ⟨rfl, hq⟩; have hq := hq.symm; subst hq)
      | (go_at_call 13; refine Calls.mono (fields_any _) ?_; rintro r w2 ⟨rfl, hw2⟩; have hb2 : Below w0.heap.size w0 w2 := (by rw [hw2]; exact below_then (drew_below _) (below_alloc _ _)); have FC : Hid (∀ (i : Nat), i < 6 → w2.cell? ⟨w0.drew.heap.size, i, none⟩ = some (.string (fldB i))) := (by rw [hw2]; exact fun i hi => fld_cell w0.drew i hi); have y1 := (KC.out w2 hb2).2.1; clear hw2))
    all_goals
      clear c0 c1 c2 c3
      obtain ⟨c0, c1, c2, c3⟩ := KC.out w2 hb2
      have ST2 : Hid (Calls _ _ _ _ _) := ST.out w2 (below_then HA.out hb2)
      have B2 : Hid (Below w.heap.size w w2) := below_then HA.out hb2
      clear hb2 ST CO KC
      go_wp2_with (go_at_call 98; refine Calls.mono ST2.out ?_; rintro r w3 (⟨C', h1, rfl, hp⟩ | ⟨h1, ⟨p, rfl⟩, hb3⟩))
      · go_ret
        exact .inl ⟨C', h1, rfl, PutTo.from B2.out hp⟩
      · go_ret
        exact .inr ⟨h1, ⟨p, rfl⟩, below_then B2.out hb3⟩
  | some F, none, hc =>
    obtain ⟨hk, hF⟩ : k = 6 ∧ EOk id F := hc
    subst hk
    have hid : id.size ≤ 1000 := by
      have := (ew_bd hF.1).1
      rw [hF.2.2] at this
      omega
    have ST : Hid (∀ W, Below w.heap.size w W → Calls Tryz.prog 100 #[.pointer (some ⟨bb, 0, none⟩), chV id allW (bs (eT F)) (⟨#[]⟩ : ByteArray)] W fun r w' => (∃ C', StepTo C ⟨id, 6, some F, none⟩ C' ∧ r = .returned .nilIface ∧ PutTo lo W w' bb mo n C') ∨ ((¬ ∃ C', StepTo C ⟨id, 6, some F, none⟩ C') ∧ (∃ p, r = .returned (.iface 236 (.pointer (some p)))) ∧ Below W.heap.size W w')) := fun W hW => by
      refine Calls.mono (ddrop_C lo bb n mo C id (bs (eT F)) ⟨#[]⟩ hid s W (g.step hW) (h.step hW)) ?_
      rintro r w' (⟨⟨H, hH, e1, e2⟩, rfl, hp⟩ | ⟨hno, hr, hb⟩)
      · exact .inl ⟨_, ⟨⟨H, hH, e1, (bs_inj e2).symm⟩, rfl⟩, rfl, hp⟩
      · refine .inr ⟨?_, hr, hb⟩
        rintro ⟨C', ⟨H, hH, e1, e2⟩, _⟩
        exact hno ⟨H, hH, e1, by rw [e2]⟩
    have CO : Hid (∀ (nf : Nat) (W : World), (∀ (i : Nat), i < 6 → W.cell? ⟨nf, i, none⟩ = some (.string (fldB i))) → Calls Tryz.prog 37 #[.slice (some ⟨nf, 0, none⟩) 6 6, .string allW] W fun r w' => r = .returned (.bool false) ∧ w' = W) := fun nf W h => containsS_no nf W h
    have hA := below_alloc w (.cells #[.string id, .string allW, .string (bs (eT F)), .string (⟨#[]⟩ : ByteArray)] 82)
    have kC : (w.alloc (.cells #[.string id, .string allW, .string (bs (eT F)), .string (⟨#[]⟩ : ByteArray)] 82)).heap[w.heap.size]? = some (.cells #[.string id, .string allW, .string (bs (eT F)), .string (⟨#[]⟩ : ByteArray)] 82 (0, 0)) := block_at _ rfl
    have HA : Hid (_) := hA
    have hne : ((bs (eT F)).toList == []) = false := isE_bs eT_ne
    have hall : (allW.toList == [97, 108, 108]) = true := by rw [ByteArray.toList_eq]; rfl
    clear hA g h hF
    show Calls Tryz.prog 53 #[.pointer (some ⟨bb, 0, none⟩), chV id allW (bs (eT F)) (⟨#[]⟩ : ByteArray)] w _
    unfold chV at ST ⊢
    generalize allW = fb at ST CO HA kC hall ⊢
    generalize bs (eT F) = t at ST HA kC hne ⊢
    generalize StepTo C ⟨id, 6, some F, none⟩ = Stp at ST ⊢
    generalize hw0 : w.alloc (.cells #[.string id, .string fb, .string (t), .string (⟨#[]⟩ : ByteArray)] 82) = w0 at HA kC
    obtain ⟨c0, c1, c2, c3⟩ := blk4 kC
    have KC : Hid (∀ W, Below w0.heap.size w0 W → _) := fun W hW => blk4 ((hW.block _ (Array.getElem?_eq_some_iff.1 kC).1).trans kC)
    clear kC
    go_enter Tryz.func53, Tryz.ntmps53
    go_upto_region 1 with (fail)
    go_region_with (first
      | (go_at_call 37; refine Calls.mono (CO.out _ _ FC.out) ?_; rintro r wz ⟨rfl, hq⟩; have hq := hq.symm; subst hq)
      | (go_at_call 13; refine Calls.mono (fields_any _) ?_; rintro r w2 ⟨rfl, hw2⟩; have hb2 : Below w0.heap.size w0 w2 := (by rw [hw2]; exact below_then (drew_below _) (below_alloc _ _)); have FC : Hid (∀ (i : Nat), i < 6 → w2.cell? ⟨w0.drew.heap.size, i, none⟩ = some (.string (fldB i))) := (by rw [hw2]; exact fun i hi => fld_cell w0.drew i hi); have y1 := (KC.out w2 hb2).2.1; clear hw2))
    all_goals
      clear c0 c1 c2 c3
      obtain ⟨c0, c1, c2, c3⟩ := KC.out w2 hb2
      have ST2 : Hid (Calls _ _ _ _ _) := ST.out w2 (below_then HA.out hb2)
      have B2 : Hid (Below w.heap.size w w2) := below_then HA.out hb2
      clear hb2 ST CO KC
      go_wp2_with (go_at_call 100; refine Calls.mono ST2.out ?_; rintro r w3 (⟨C', h1, rfl, hp⟩ | ⟨h1, ⟨p, rfl⟩, hb3⟩))
      · go_ret
        exact .inl ⟨C', h1, rfl, PutTo.from B2.out hp⟩
      · go_ret
        exact .inr ⟨h1, ⟨p, rfl⟩, below_then B2.out hb3⟩
  | none, some F, hc =>
    obtain ⟨hk, hF⟩ : k = 6 ∧ EOk id F := hc
    subst hk
    have hid : id.size ≤ 1000 := by
      have := (ew_bd hF.1).1
      rw [hF.2.2] at this
      omega
    have ST : Hid (∀ W, Below w.heap.size w W → Calls Tryz.prog 99 #[.pointer (some ⟨bb, 0, none⟩), chV id allW (⟨#[]⟩ : ByteArray) (bs (eT F))] W fun r w' => (∃ C', StepTo C ⟨id, 6, none, some F⟩ C' ∧ r = .returned .nilIface ∧ PutTo lo W w' bb mo n C') ∨ ((¬ ∃ C', StepTo C ⟨id, 6, none, some F⟩ C') ∧ (∃ p, r = .returned (.iface 236 (.pointer (some p)))) ∧ Below W.heap.size W w')) := fun W hW => by
      have hd := dadd_C lo bb n mo C F hF.1 hF.2.1 allW ⟨#[]⟩ s W (g.step hW) (h.step hW) hn
      rw [hF.2.2] at hd
      refine Calls.mono hd ?_
      rintro r w' (⟨h1, rfl, hp⟩ | ⟨hno, hr, hb⟩)
      · exact .inl ⟨_, ⟨h1, rfl⟩, rfl, hp⟩
      · refine .inr ⟨?_, hr, hb⟩
        rintro ⟨C', h1, _⟩
        exact hno h1
    have CO : Hid (∀ (nf : Nat) (W : World), (∀ (i : Nat), i < 6 → W.cell? ⟨nf, i, none⟩ = some (.string (fldB i))) → Calls Tryz.prog 37 #[.slice (some ⟨nf, 0, none⟩) 6 6, .string allW] W fun r w' => r = .returned (.bool false) ∧ w' = W) := fun nf W h => containsS_no nf W h
    have hA := below_alloc w (.cells #[.string id, .string allW, .string (⟨#[]⟩ : ByteArray), .string (bs (eT F))] 82)
    have kC : (w.alloc (.cells #[.string id, .string allW, .string (⟨#[]⟩ : ByteArray), .string (bs (eT F))] 82)).heap[w.heap.size]? = some (.cells #[.string id, .string allW, .string (⟨#[]⟩ : ByteArray), .string (bs (eT F))] 82 (0, 0)) := block_at _ rfl
    have HA : Hid (_) := hA
    have hne : ((bs (eT F)).toList == []) = false := isE_bs eT_ne
    have hall : (allW.toList == [97, 108, 108]) = true := by rw [ByteArray.toList_eq]; rfl
    clear hA g h hF
    show Calls Tryz.prog 53 #[.pointer (some ⟨bb, 0, none⟩), chV id allW (⟨#[]⟩ : ByteArray) (bs (eT F))] w _
    unfold chV at ST ⊢
    generalize allW = fb at ST CO HA kC hall ⊢
    generalize bs (eT F) = t at ST HA kC hne ⊢
    generalize StepTo C ⟨id, 6, none, some F⟩ = Stp at ST ⊢
    generalize hw0 : w.alloc (.cells #[.string id, .string fb, .string (⟨#[]⟩ : ByteArray), .string (t)] 82) = w0 at HA kC
    obtain ⟨c0, c1, c2, c3⟩ := blk4 kC
    have KC : Hid (∀ W, Below w0.heap.size w0 W → _) := fun W hW => blk4 ((hW.block _ (Array.getElem?_eq_some_iff.1 kC).1).trans kC)
    clear kC
    go_enter Tryz.func53, Tryz.ntmps53
    go_upto_region 1 with (fail)
    go_region_with (first
      | (go_at_call 37; refine Calls.mono (CO.out _ _ FC.out) ?_; rintro r wz ⟨rfl, hq⟩; have hq := hq.symm; subst hq)
      | (go_at_call 13; refine Calls.mono (fields_any _) ?_; rintro r w2 ⟨rfl, hw2⟩; have hb2 : Below w0.heap.size w0 w2 := (by rw [hw2]; exact below_then (drew_below _) (below_alloc _ _)); have FC : Hid (∀ (i : Nat), i < 6 → w2.cell? ⟨w0.drew.heap.size, i, none⟩ = some (.string (fldB i))) := (by rw [hw2]; exact fun i hi => fld_cell w0.drew i hi); have y1 := (KC.out w2 hb2).2.1; clear hw2))
    all_goals
      clear c0 c1 c2 c3
      obtain ⟨c0, c1, c2, c3⟩ := KC.out w2 hb2
      have ST2 : Hid (Calls _ _ _ _ _) := ST.out w2 (below_then HA.out hb2)
      have B2 : Hid (Below w.heap.size w w2) := below_then HA.out hb2
      clear hb2 ST CO KC
      go_wp2_with (go_at_call 99; refine Calls.mono ST2.out ?_; rintro r w3 (⟨C', h1, rfl, hp⟩ | ⟨h1, ⟨p, rfl⟩, hb3⟩))
      · go_ret
        exact .inl ⟨C', h1, rfl, PutTo.from B2.out hp⟩
      · go_ret
        exact .inr ⟨h1, ⟨p, rfl⟩, below_then B2.out hb3⟩
  | none, none, hc => exact absurd hc (by unfold DC.ok; exact not_false)
end Go.Proofs.YtjhlbkjcchejjaaGreatDoor
