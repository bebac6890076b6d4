/- event.Read of the text of an event that is well but for its lists, and is not well (written by wip/gen/mkMgP.py out of BkT, BkG, BkJ). -/
import Derived.Test.YtekminpoiokgfaaGreatDoorYbB
import Derived.Test.YtekminpoiokgfaaGreatDoorYaU
namespace Go.Proofs.YtekminpoiokgfaaGreatDoor
open Go Go.RowKit Go.Maps Go.Sort Cal
attribute [local go_sem] Oper.semAt_some

/-- well but for its lists, whose days are well -/
structure SW (E : EV) : Prop where
  id : okID E.id
  ti : okTi E.ti
  bd : bE E.st E.lg
  rl : Well (rd E.f E.e E.ds E.c E.u)
  k40 : E.sk.length ≤ 40
  m40 : E.mv.length ≤ 40
  kd : ∀ x ∈ E.sk, 0 ≤ x ∧ x ≤ 73048
  md : ∀ m ∈ E.mv, (0 ≤ m.1 ∧ m.1 ≤ 73048) ∧ 0 ≤ m.2 ∧ m.2 ≤ 73048
theorem sw_lk {E : EV} (h : SW E) : E.sk.length ≤ 40 ∧ E.mv.length ≤ 40 ∧ True ∧ True ∧ (∀ x ∈ E.sk, 0 ≤ x ∧ x ≤ 73048) ∧ (∀ m ∈ E.mv, (0 ≤ m.1 ∧ m.1 ≤ 73048) ∧ 0 ≤ m.2 ∧ m.2 ≤ 73048) ∧ True := ⟨h.k40, h.m40, trivial, trivial, h.kd, h.md, trivial⟩
theorem fT_barS {E : EV} (h : SW E) (k : Nat) : (124 : UInt8) ∉ fT E k := by
  match k with
  | 0 =>
    intro hm
    change (124 : UInt8) ∈ E.ti.data.toList at hm
    obtain ⟨j, hj, he⟩ := List.mem_iff_getElem.1 hm
    have := h.ti.1 j (by simpa using hj)
    unfold okt at this
    have e2 : E.ti[j]'(by simpa using hj) = 124 := by
      show E.ti.data[j] = 124
      simpa using he
    rw [e2] at this
    simp at this
  | 1 => exact dtx_no _ _ (by decide)
  | 2 => intro hm; have := itoa_digs _ (show 0 ≤ E.lg by have := h.bd.2.1; omega) _ hm; revert this; decide
  | 3 => exact ruT_bar h.rl
  | 4 => exact join_no 124 44 (by decide) _ (fun y hy => by obtain ⟨d, _, rfl⟩ := List.mem_map.1 hy; exact dtx_no _ _ (by decide))
  | k + 5 => exact join_no 124 44 (by decide) _ (fun y hy => by obtain ⟨d, _, rfl⟩ := List.mem_map.1 hy; exact mtx_no _ _ (by decide))

theorem id_barS {E : EV} (h : SW E) : (124 : UInt8) ∉ E.id.data.toList := by
  intro hm
  obtain ⟨j, hj, he⟩ := List.mem_iff_getElem.1 hm
  have := h.id.1 j (by simpa using hj)
  unfold okc at this
  have e2 : E.id[j]'(by simpa using hj) = 124 := by
    show E.id.data[j] = 124
    simpa using he
  rw [e2] at this
  simp at this

theorem fT_lenS {E : EV} (h : SW E) (h20 : E.ds.length ≤ 20) (k : Nat) : (fT E k).length ≤ 1000 := by
  obtain ⟨k20, m20, _⟩ := sw_lk h
  match k with
  | 0 => have := h.ti.2; show E.ti.data.toList.length ≤ _; rw [Array.length_toList]; have e : E.ti.data.size = E.ti.size := rfl; omega
  | 1 => have := dtx_len E.st; show (dtx _).length ≤ _; omega
  | 2 => have := itoa_len E.lg (by have := h.bd.2.1; omega) (by have := h.bd.2.2; omega); show (Lib.itoa _).length ≤ _; omega
  | 3 => obtain ⟨t, ht, e⟩ := ruT_ok h.rl; show (ruT _).length ≤ _; rw [e]; exact rtext_len h.rl ht h20
  | 4 =>
    have := joinLen (E.sk.map dtx) [44] 10 (fun y hy => by obtain ⟨x, _, rfl⟩ := List.mem_map.1 hy; exact dtx_len x)
    rw [List.length_map] at this
    have h31 : E.sk.length * (10 + [(44 : UInt8)].length) ≤ 40 * 11 := Nat.mul_le_mul k20 (by simp)
    show (Lib.join _ _).length ≤ _
    omega
  | k + 5 =>
    have := joinLen (E.mv.map mtx) [44] 21 (fun y hy => by obtain ⟨x, _, rfl⟩ := List.mem_map.1 hy; exact mtx_len x)
    rw [List.length_map] at this
    have h31 : E.mv.length * (21 + [(44 : UInt8)].length) ≤ 40 * 22 := Nat.mul_le_mul m20 (by simp)
    show (Lib.join _ _).length ≤ _
    omega


theorem eT_piecesS {E : EV} (h : SW E) : pieces 124 (eT E) = E.id.data.toList :: pT E := by
  refine pieces_join 124 _ (by simp) (fun x hx => ?_)
  rcases List.mem_cons.1 hx with rfl | hx
  · exact id_barS h
  · obtain ⟨k, _, rfl⟩ := pT_mem hx
    exact fT_barS h k

theorem eT_lenS {E : EV} (h : SW E) (h20 : E.ds.length ≤ 20) : (eT E).length ≤ 10000 := by
  have := joinLen (E.id.data.toList :: pT E) [124] 1000 (fun y hy => by
    rcases List.mem_cons.1 hy with rfl | hy
    · have := h.id.2.2; rw [Array.length_toList]; have e : E.id.data.size = E.id.size := rfl; omega
    · obtain ⟨k, _, rfl⟩ := pT_mem hy; exact fT_lenS h h20 k)
  exact Nat.le_trans this (by simp [pT])

theorem shaped_anyS (E : EV) (k : Nat) (hk : k < 6) (w : World) (hw : SW E) (ht : Tab w) :
    Calls Tryz.prog 70 #[.string (fldB k), .string (bs (fT E k))] w fun r w' => r = .returned (.bool true) ∧ Below w.heap.size w w' := by
  obtain ⟨k20, m20, _⟩ := sw_lk hw
  match k, hk with
  | 0, _ =>
    generalize bs (fT E 0) = sb
    unfold fldB
    go_enter Tryz.func70, Tryz.ntmps70
    go_wp2
    go_ret
    exact ⟨rfl, Below.refl _ _⟩
  | 1, _ =>
    generalize bs (fT E 1) = sb
    unfold fldB
    go_enter Tryz.func70, Tryz.ntmps70
    go_wp2
    go_ret
    exact ⟨rfl, Below.refl _ _⟩
  | 2, _ =>
    have R : Hid (Calls _ _ _ _ _) := ereadNumber_any E.lg w (by have := hw.bd.2.1; omega) (by have := hw.bd.2.2; omega) ht
    show Calls _ _ #[.string (fldB 2), .string (bs (Lib.itoa E.lg))] _ _
    generalize bs (Lib.itoa E.lg) = sb at R ⊢
    unfold fldB
    go_enter Tryz.func70, Tryz.ntmps70
    go_wp2_with (go_at_call 108; refine Calls.mono R.out ?_; rintro r w1 ⟨rfl, hb1⟩)
    go_ret
    exact ⟨rfl, hb1⟩
  | 3, _ =>
    generalize bs (fT E 3) = sb
    unfold fldB
    go_enter Tryz.func70, Tryz.ntmps70
    go_wp2
    go_ret
    exact ⟨rfl, Below.refl _ _⟩
  | 4, _ =>
    generalize bs (fT E 4) = sb
    unfold fldB
    go_enter Tryz.func70, Tryz.ntmps70
    go_wp2
    go_ret
    exact ⟨rfl, Below.refl _ _⟩
  | 5, _ =>
    have R : Hid (Calls _ _ _ _ _) := areMoves_any E.mv w (by omega)
    show Calls _ _ #[.string (fldB 5), .string (bs (Lib.join (E.mv.map mtx) [44]))] _ _
    generalize bs (Lib.join (E.mv.map mtx) [44]) = sb at R ⊢
    unfold fldB
    go_enter Tryz.func70, Tryz.ntmps70
    go_wp2_with (go_at_call 109; refine Calls.mono R.out ?_; rintro r w1 ⟨rfl, hb1⟩)
    go_ret
    exact ⟨rfl, hb1⟩


set_option maxHeartbeats 4000000 in
set_option maxRecDepth 100000 in
theorem fill_anyS (E F : EV) (sl skv mvv : Value) (k : Nat) (hk : k < 6) (B : Nat) (N : Nat → Prop) (hN : N B) (w : World) (hN2 : ∀ n, N n → n < w.heap.size) (g : GlobR w) (hB : EB w B E sl skv mvv) (hO : Off N w E sl skv mvv) (hw : SW F) (h20 : F.ds.length ≤ 20) :
    Calls Tryz.prog 71 #[.pointer (some ⟨B, 0, none⟩), .string (fldB k), .string (bs (fT F k))] w fun r w' => r = .returned .nilIface ∧ w.grownBy w' (some B) ∧ ∃ sl' skv' mvv', EB w' B (upd E F k) sl' skv' mvv' ∧ Off N w' (upd E F k) sl' skv' mvv' := by
  obtain ⟨k20, m20, _, _, kd, md, _⟩ := sw_lk hw
  match k, hk with
  | 0, _ =>
    show Calls _ _ #[_, .string (fldB 0), .string (bs F.ti.data.toList)] _ _
    rw [bs_own]
    have HBX : Hid (EB w B E sl skv mvv) := hB
    have HOX : Hid (Off N w E sl skv mvv) := hO
    obtain ⟨x0, x1, x2, x3, x4, x5, x6, x7, x8, x9, x10⟩ := blk11 (show w.heap[B]? = _ from hB)
    have z := blk11_frozen (show w.heap[B]? = _ from hB) 1
    unfold fldB
    go_enter Tryz.func71, Tryz.ntmps71
    go_wp2
    go_ret
    exact ⟨rfl, grown_set _ ⟨B, 1, none⟩ _, sl, skv, mvv, set11_1 (.string F.ti) HBX.out, (HOX.out.grown hN (grown_set _ ⟨B, 1, none⟩ _) : Off N _ E sl skv mvv).d, (HOX.out.grown hN (grown_set _ ⟨B, 1, none⟩ _) : Off N _ E sl skv mvv).s, (HOX.out.grown hN (grown_set _ ⟨B, 1, none⟩ _) : Off N _ E sl skv mvv).m⟩
  | 1, _ =>
    have R : Hid (Calls _ _ _ _ _) := readDay_any F.st w hw.bd.1.1 hw.bd.1.2
    show Calls _ _ #[_, .string (fldB 1), .string (bs (dtx F.st))] _ _
    generalize bs (dtx F.st) = sb at R ⊢
    have HBX : Hid (EB w B E sl skv mvv) := hB
    have HOX : Hid (Off N w E sl skv mvv) := hO
    unfold fldB
    clear hB hO
    go_enter Tryz.func71, Tryz.ntmps71
    go_wp2_with (go_at_call 110; refine Calls.mono R.out ?_; rintro r w1 ⟨rfl, hb1⟩; obtain ⟨x0, x1, x2, x3, x4, x5, x6, x7, x8, x9, x10⟩ := blk11 (show w1.heap[B]? = _ from HBX.out.step hb1); have z := blk11_frozen (show w1.heap[B]? = _ from HBX.out.step hb1) 2)
    go_ret
    have gg : w.grownBy (w1.setCell ⟨B, 2, none⟩ (.int .i64 F.st)) (some B) := grown_then (grown_below hb1 _) (grown_set _ ⟨B, 2, none⟩ _)
    exact ⟨rfl, gg, sl, skv, mvv, set11_2 (.int .i64 F.st) (HBX.out.step hb1), (HOX.out.grown hN gg).d, (HOX.out.grown hN gg).s, (HOX.out.grown hN gg).m⟩
  | 2, _ =>
    have R : Hid (Calls _ _ _ _ _) := ereadNumber_any F.lg w (by have := hw.bd.2.1; omega) (by have := hw.bd.2.2; omega) g.tab
    show Calls _ _ #[_, .string (fldB 2), .string (bs (Lib.itoa F.lg))] _ _
    generalize bs (Lib.itoa F.lg) = sb at R ⊢
    have HBX : Hid (EB w B E sl skv mvv) := hB
    have HOX : Hid (Off N w E sl skv mvv) := hO
    unfold fldB
    clear hB hO
    go_enter Tryz.func71, Tryz.ntmps71
    go_wp2_with (go_at_call 108; refine Calls.mono R.out ?_; rintro r w1 ⟨rfl, hb1⟩; obtain ⟨x0, x1, x2, x3, x4, x5, x6, x7, x8, x9, x10⟩ := blk11 (show w1.heap[B]? = _ from HBX.out.step hb1); have z := blk11_frozen (show w1.heap[B]? = _ from HBX.out.step hb1) 3)
    go_ret
    have gg : w.grownBy (w1.setCell ⟨B, 3, none⟩ (.int .i64 F.lg)) (some B) := grown_then (grown_below hb1 _) (grown_set _ ⟨B, 3, none⟩ _)
    exact ⟨rfl, gg, sl, skv, mvv, set11_3 (.int .i64 F.lg) (HBX.out.step hb1), (HOX.out.grown hN gg).d, (HOX.out.grown hN gg).s, (HOX.out.grown hN gg).m⟩
  | 3, _ =>
    obtain ⟨t, ht, et⟩ := ruT_ok hw.rl
    have R := rread_ow F.f F.e F.ds F.c F.u t w g h20 hw.rl ht
    show Calls _ _ #[_, .string (fldB 3), .string (bs (ruT (rd F.f F.e F.ds F.c F.u)))] _ _
    rw [et]
    generalize bs (rtext (rd F.f F.e F.ds F.c F.u) t) = sb at R ⊢
    unfold rv at R
    have HR : Hid (Calls _ _ _ _ _) := R
    have HBX : Hid (EB w B E sl skv mvv) := hB
    have HOX : Hid (Off N w E sl skv mvv) := hO
    unfold fldB
    clear hB hO R
    go_enter Tryz.func71, Tryz.ntmps71
    go_wp2_with (go_at_call 111; refine Calls.mono HR.out ?_; rintro r w1 ⟨s1, rfl, ho1, hb1⟩; obtain ⟨ra, rc, rfl⟩ := ow_form ho1; obtain ⟨x0, x1, x2, x3, x4, x5, x6, x7, x8, x9, x10⟩ := blk11 (show w1.heap[B]? = _ from HBX.out.step hb1); have z4 := blk11_frozen (show w1.heap[B]? = _ from HBX.out.step hb1) 4; have z5 := blk11_frozen (show w1.heap[B]? = _ from HBX.out.step hb1) 5; have z6 := blk11_frozen (show w1.heap[B]? = _ from HBX.out.step hb1) 6; have z7 := blk11_frozen (show w1.heap[B]? = _ from HBX.out.step hb1) 7; have z8 := blk11_frozen (show w1.heap[B]? = _ from HBX.out.step hb1) 8)
    rw [put5_fold]
    have g5 := put5_grown w1 B (.string F.f) (.int .i64 F.e) (.slice ra F.ds.length rc) (.int .i64 F.c) (.int .i64 F.u)
    have b5 := put5_blk (.string F.f) (.int .i64 F.e) (.slice ra F.ds.length rc) (.int .i64 F.c) (.int .i64 F.u) (show w1.heap[B]? = _ from HBX.out.step hb1)
    generalize put5 w1 B (.string F.f) (.int .i64 F.e) (.slice ra F.ds.length rc) (.int .i64 F.c) (.int .i64 F.u) = w2 at g5 b5 ⊢
    go_ret
    have gg : w.grownBy w2 (some B) := grown_then (grown_below hb1 _) g5
    exact ⟨rfl, gg, .slice ra F.ds.length rc, skv, mvv, b5, (ow_off ho1 hN2 (by omega)).grown hN g5, (HOX.out.grown hN gg).s, (HOX.out.grown hN gg).m⟩
  | 4, _ =>
    have R : Hid (Calls _ _ _ _ _) := readListI_any F.sk w (by omega) kd
    show Calls _ _ #[_, .string (fldB 4), .string (bs (Lib.join (F.sk.map dtx) [44]))] _ _
    generalize bs (Lib.join (F.sk.map dtx) [44]) = sb at R ⊢
    have HBX : Hid (EB w B E sl skv mvv) := hB
    have HOX : Hid (Off N w E sl skv mvv) := hO
    unfold fldB
    clear hB hO
    go_enter Tryz.func71, Tryz.ntmps71
    go_wp2_with (go_at_call 112; refine Calls.mono R.out ?_; rintro r w1 ⟨s1, rfl, ho1, hb1⟩; obtain ⟨ra, rc, rfl⟩ := ow_form ho1; obtain ⟨x0, x1, x2, x3, x4, x5, x6, x7, x8, x9, x10⟩ := blk11 (show w1.heap[B]? = _ from HBX.out.step hb1); have z := blk11_frozen (show w1.heap[B]? = _ from HBX.out.step hb1) 9)
    go_ret
    have gg : w.grownBy (w1.setCell ⟨B, 9, none⟩ (.slice ra F.sk.length rc)) (some B) := grown_then (grown_below hb1 _) (grown_set _ ⟨B, 9, none⟩ _)
    exact ⟨rfl, gg, sl, (.slice ra F.sk.length rc), mvv, set11_9 (.slice ra F.sk.length rc) (HBX.out.step hb1), (HOX.out.grown hN gg).d, (ow_off ho1 hN2 (by omega)).grown hN (grown_set _ ⟨B, 9, none⟩ _), (HOX.out.grown hN gg).m⟩
  | 5, _ =>
    have R : Hid (Calls _ _ _ _ _) := readListM_any F.mv w (by omega) md
    show Calls _ _ #[_, .string (fldB 5), .string (bs (Lib.join (F.mv.map mtx) [44]))] _ _
    generalize bs (Lib.join (F.mv.map mtx) [44]) = sb at R ⊢
    have HBX : Hid (EB w B E sl skv mvv) := hB
    have HOX : Hid (Off N w E sl skv mvv) := hO
    unfold fldB
    clear hB hO
    go_enter Tryz.func71, Tryz.ntmps71
    go_wp2_with (go_at_call 113; refine Calls.mono R.out ?_; rintro r w1 ⟨s1, rfl, ho1, hb1⟩; obtain ⟨ra, rc, rfl⟩ := gotM_form (owm_movs ho1 (by omega)).2; obtain ⟨x0, x1, x2, x3, x4, x5, x6, x7, x8, x9, x10⟩ := blk11 (show w1.heap[B]? = _ from HBX.out.step hb1); have z := blk11_frozen (show w1.heap[B]? = _ from HBX.out.step hb1) 10)
    go_ret
    have gg : w.grownBy (w1.setCell ⟨B, 10, none⟩ (.slice ra F.mv.length rc)) (some B) := grown_then (grown_below hb1 _) (grown_set _ ⟨B, 10, none⟩ _)
    exact ⟨rfl, gg, sl, skv, (.slice ra F.mv.length rc), set11_10 (.slice ra F.mv.length rc) (HBX.out.step hb1), (HOX.out.grown hN gg).d, (HOX.out.grown hN gg).s, (owm_off ho1 hN2 (by omega)).grown hN (grown_set _ ⟨B, 10, none⟩ _)⟩

set_option maxHeartbeats 4000000 in
set_option maxRecDepth 100000 in
theorem eread_not (E : EV) (s : Nat → Addr) (w : World) (gk : GlobK s w) (g : GlobR w) (hE : SW E) (kk : Int) (hkk : EvK E kk) (hk0 : kk ≠ 0) (h20 : E.ds.length ≤ 20) :
    Calls Tryz.prog 43 #[.string (bs (eT E))] w fun r w' => r = .returned (.tuple #[zV, errV s kk]) ∧ Below w.heap.size w w' := by
  obtain ⟨k20, m20, _⟩ := sw_lk hE
  have GK : Hid (GlobK s w) := gk
  have GR : Hid (GlobR w) := g
  have HW : Hid (SW E) := hE
  have SP : Hid (∀ W, Calls Tryz.prog 69 #[.string (bs (eT E)), .string ⟨#[124]⟩] W fun r w' => r = .returned (.slice (some ⟨W.heap.size, 0, none⟩) 7 7) ∧ w' = W.alloc (pcO (E.id.data.toList :: pT E))) := fun W => by
    have := split_any (bs (eT E)) 124 W (by rw [Lib.size_eq, bs_data]; have := eT_lenS hE h20; omega)
    rw [bs_data, eT_piecesS hE] at this
    exact this
  have SH : Hid (∀ (m : Nat), m < 6 → ∀ W, Tab W → Calls Tryz.prog 70 #[.string (fldB m), .string (bs (fT E m))] W fun r w' => r = .returned (.bool true) ∧ Below W.heap.size W w') := fun m hm W h => shaped_anyS E m hm W hE h
  have FI : Hid (∀ (m : Nat), m < 6 → ∀ (B : Nat) (N : Nat → Prop), N B → ∀ (W : World), (∀ n, N n → n < W.heap.size) → GlobR W → ∀ sl skv mvv, EB W B (part E m) sl skv mvv → Off N W (part E m) sl skv mvv → Calls Tryz.prog 71 #[.pointer (some ⟨B, 0, none⟩), .string (fldB m), .string (bs (fT E m))] W fun r w' => r = .returned .nilIface ∧ W.grownBy w' (some B) ∧ ∃ sl' skv' mvv', EB w' B (part E (m + 1)) sl' skv' mvv' ∧ Off N w' (part E (m + 1)) sl' skv' mvv') :=
    fun m hm B N hN W hN2 hg sl skv mvv hB hO => by
      have := fill_anyS (part E m) E sl skv mvv m hm B N hN W hN2 hg hB hO hE h20
      rw [part_upd E m hm] at this
      exact this
  obtain ⟨pk, hpk⟩ := errV_ne (s := s) hk0
  have CK : Hid (∀ sl skv mvv W, GlobK s W → Ls W E sl skv mvv → Calls Tryz.prog 30 #[ev E sl skv mvv] W fun r w' => r = .returned (.iface 250 (.pointer (some pk))) ∧ Below W.heap.size W w') := fun sl skv mvv W hg hl => by
    have := evCheck_k E sl skv mvv kk s W hg hl.d hl.s hl.m (by have := hE.id.2.2; omega) (by have := hE.ti.2; omega) hkk
    rw [hpk] at this
    exact this
  rw [hpk]
  clear hkk hk0 hpk
  generalize bs (eT E) = sb at SP ⊢
  clear gk g hE
  have hA := below_alloc w (.cells #[.string ⟨#[]⟩, .string ⟨#[]⟩, .int .i64 0, .int .i64 0, .string ⟨#[]⟩, .int .i64 0, .slice none 0 0, .int .i64 0, .int .i64 0, .slice none 0 0, .slice none 0 0] 44)
  have kR : (w.alloc (.cells #[.string ⟨#[]⟩, .string ⟨#[]⟩, .int .i64 0, .int .i64 0, .string ⟨#[]⟩, .int .i64 0, .slice none 0 0, .int .i64 0, .int .i64 0, .slice none 0 0, .slice none 0 0] 44)).heap[w.heap.size]? = some (.cells #[.string ⟨#[]⟩, .string ⟨#[]⟩, .int .i64 0, .int .i64 0, .string ⟨#[]⟩, .int .i64 0, .slice none 0 0, .int .i64 0, .int .i64 0, .slice none 0 0, .slice none 0 0] 44 (0, 0)) := block_at _ rfl
  have hz : (w.alloc (.cells #[.string ⟨#[]⟩, .string ⟨#[]⟩, .int .i64 0, .int .i64 0, .string ⟨#[]⟩, .int .i64 0, .slice none 0 0, .int .i64 0, .int .i64 0, .slice none 0 0, .slice none 0 0] 44)).heap.size = w.heap.size + 1 := World.size_alloc _ _
  have HA : Hid (_) := hA
  have KR : Hid (_) := kR
  have HZ : Hid (_) := hz
  clear hA kR hz
  go_enter Tryz.func43, Tryz.ntmps43
  generalize hw0 : w.alloc (.cells #[.string ⟨#[]⟩, .string ⟨#[]⟩, .int .i64 0, .int .i64 0, .string ⟨#[]⟩, .int .i64 0, .slice none 0 0, .int .i64 0, .int .i64 0, .slice none 0 0, .slice none 0 0] 44) = w0 at HA KR HZ
  go_upto_region 2 with (go_at_call 65; refine Calls.mono (fields_any _) ?_; rintro r w' ⟨rfl, rfl⟩)
  have FC1 : Hid (∀ (i : Nat), i < 6 → (w0.alloc fldO).cell? ⟨w0.heap.size, i, none⟩ = some (.string (fldB i))) := fun i hi => fld_cell w0 i hi
  have HB1 : Hid (Below w0.heap.size w0 (w0.alloc fldO)) := below_alloc _ _
  have hz1 : (w0.alloc fldO).heap.size = w0.heap.size + 1 := World.size_alloc _ _
  generalize w0.alloc fldO = w1 at FC1 HB1 hz1 ⊢
  have HZ1 : Hid (_) := hz1
  clear hz1
  go_upto_region 3 with (go_at_call 69; refine Calls.mono (SP.out _) ?_; rintro r w' ⟨rfl, rfl⟩)
  have PC : Hid (∀ (m : Nat), m < 6 → (w1.alloc (pcO (E.id.data.toList :: pT E))).cell? ⟨w1.heap.size, 1 + m, none⟩ = some (.string (bs (fT E m)))) := fun m hm => pc_cell E w1 m hm
  have pc0 := pc_id E w1
  have HB2 : Hid (Below w1.heap.size w1 (w1.alloc (pcO (E.id.data.toList :: pT E)))) := below_alloc _ _
  have HZ2 : Hid ((w1.alloc (pcO (E.id.data.toList :: pT E))).heap.size = w1.heap.size + 1) := World.size_alloc _ _
  generalize w1.alloc (pcO (E.id.data.toList :: pT E)) = w2 at PC pc0 HB2 HZ2 ⊢
  have HDEF : Hid (part E 0 = ⟨E.id, ⟨#[]⟩, 0, 0, ⟨#[]⟩, 0, [], 0, 0, [], []⟩) := rfl
  generalize hid : E.id = idn at pc0 HDEF
  clear SP hw0 hid
  go_upto_region 8 with (fail)
  have KE : Hid (EB (w2.alloc (.cells #[.string idn, .string ⟨#[]⟩, .int .i64 0, .int .i64 0, .string ⟨#[]⟩, .int .i64 0, .slice none 0 0, .int .i64 0, .int .i64 0, .slice none 0 0, .slice none 0 0] 44)) w2.heap.size (part E 0) (.slice none 0 0) (.slice none 0 0) (.slice none 0 0)) := by
    show EB _ _ _ _ _ _
    rw [HDEF.out]
    exact block_at _ rfl
  have HB3 : Hid (Below w2.heap.size w2 (w2.alloc (.cells #[.string idn, .string ⟨#[]⟩, .int .i64 0, .int .i64 0, .string ⟨#[]⟩, .int .i64 0, .slice none 0 0, .int .i64 0, .int .i64 0, .slice none 0 0, .slice none 0 0] 44))) := below_alloc _ _
  have HZ3 : Hid ((w2.alloc (.cells #[.string idn, .string ⟨#[]⟩, .int .i64 0, .int .i64 0, .string ⟨#[]⟩, .int .i64 0, .slice none 0 0, .int .i64 0, .int .i64 0, .slice none 0 0, .slice none 0 0] 44)).heap.size = w2.heap.size + 1) := World.size_alloc _ _
  have OF0 : Hid (∀ N, Off N (w2.alloc (.cells #[.string idn, .string ⟨#[]⟩, .int .i64 0, .int .i64 0, .string ⟨#[]⟩, .int .i64 0, .slice none 0 0, .int .i64 0, .int .i64 0, .slice none 0 0, .slice none 0 0] 44)) (part E 0) (.slice none 0 0) (.slice none 0 0) (.slice none 0 0)) := fun N => by
    rw [HDEF.out]
    exact ⟨OffI.nil _ _ _, OffI.nil _ _ _, OffM.nil _ _ _⟩
  clear pc0
  generalize w2.alloc (.cells #[.string idn, .string ⟨#[]⟩, .int .i64 0, .int .i64 0, .string ⟨#[]⟩, .int .i64 0, .slice none 0 0, .int .i64 0, .int .i64 0, .slice none 0 0, .slice none 0 0] 44) = w3 at KE HB3 HZ3 OF0 ⊢
  -- the worlds' sizes
  obtain ⟨nf, hnf⟩ : ∃ n, n = w0.heap.size := ⟨_, rfl⟩
  obtain ⟨np, hnp⟩ : ∃ n, n = w1.heap.size := ⟨_, rfl⟩
  obtain ⟨be, hbe⟩ : ∃ n, n = w2.heap.size := ⟨_, rfl⟩
  have e1 := HZ.out
  have e2 := HZ1.out
  have e3 := HZ2.out
  have e4 := HZ3.out
  have B23 : Hid (Below w1.heap.size w1 w3) := below_then HB2.out HB3.out
  have B13 : Hid (Below w0.heap.size w0 w3) := below_then HB1.out B23.out
  have BW3 : Hid (Below w.heap.size w w3) := below_then HA.out B13.out
  have FC3 : Hid (∀ (i : Nat), i < 6 → w3.cell? ⟨nf, i, none⟩ = some (.string (fldB i))) := fun i hi => by rw [hnf]; exact cell_step (FC1.out i hi) B23.out
  have PC3 : Hid (∀ (m : Nat), m < 6 → w3.cell? ⟨np, 1 + m, none⟩ = some (.string (bs (fT E m)))) := fun i hi => by rw [hnp]; exact cell_step (PC.out i hi) HB3.out
  have KR3 : Hid (w3.heap[w.heap.size]? = some (.cells #[.string ⟨#[]⟩, .string ⟨#[]⟩, .int .i64 0, .int .i64 0, .string ⟨#[]⟩, .int .i64 0, .slice none 0 0, .int .i64 0, .int .i64 0, .slice none 0 0, .slice none 0 0] 44 (0, 0))) := (B13.out.block _ (by omega)).trans KR.out
  have KE3 : Hid (EB w3 be (part E 0) (.slice none 0 0) (.slice none 0 0) (.slice none 0 0)) := by show EB _ _ _ _ _ _; rw [hbe]; exact KE.out
  have hs1 : w.heap.size + 1 = nf := by omega
  have hs2 : nf + 1 = np := by omega
  have hs3 : np + 1 = be := by omega
  have hs4 : be + 1 = w3.heap.size := by omega
  rw [← hnf, ← hnp, ← hbe]
  have HS1 : Hid (w.heap.size < nf ∧ nf < np ∧ np < be ∧ be < w3.heap.size) := by show _ ∧ _; omega
  clear HZ HZ1 HZ2 HZ3 e1 e2 e3 e4 HA KR HB1 HB2 HB3 B23 B13 FC1 PC KE hnf hnp hbe hs1 hs2 hs3 hs4 HDEF
  go_loopw [8, 9, 33] (fun _ _ i wr => ∃ m : Nat, m ≤ 6 ∧ i = .int .i64 m ∧ Hid (Below w3.heap.size w3 wr)) (fun _ _ i _ => 6 - (intOf i).toNat)
  case atStart => exact ⟨0, Nat.zero_le _, rfl, Below.refl _ _⟩
  case round =>
    obtain ⟨m, hm, rfl, HB⟩ := hrel
    by_cases hlt : m < 6
    · have hc1 := cell_step (FC3.out m hlt) HB.out
      have hc2 := cell_step (PC3.out m hlt) HB.out
      have SM : Hid (Calls _ _ _ _ _) := SH.out m hlt wr (GR.out.tab.step (below_then BW3.out HB.out))
      generalize fldB m = fb at hc1 SM
      generalize bs (fT E m) = tb at hc2 SM
      have hm6 : (m : Int) < 6 := by omega
      clear FC3 PC3 SH FI CK GK GR BW3 KR3 KE3 OF0
      go_wp2_with (go_at_call 70; refine Calls.mono SM.out ?_; rintro r w4 ⟨rfl, hb4⟩)
      go_roundw
      case rel => exact ⟨m + 1, by omega, by go_num, below_then HB.out hb4⟩
      case measure => simp [intOf]; omega
    · obtain ⟨m0, hm0⟩ : ∃ x, x = m := ⟨m, rfl⟩
      subst hm0
      have hm6 : (6 : Int) ≤ (m0 : Int) := by omega
      obtain ⟨w4, hw4⟩ : ∃ x, x = wr := ⟨wr, rfl⟩
      subst hw4
      have FC4 : Hid (∀ (i : Nat), i < 6 → w4.cell? ⟨nf, i, none⟩ = some (.string (fldB i))) := fun i hi => cell_step (FC3.out i hi) HB.out
      have PC4 : Hid (∀ (m : Nat), m < 6 → w4.cell? ⟨np, 1 + m, none⟩ = some (.string (bs (fT E m)))) := fun i hi => cell_step (PC3.out i hi) HB.out
      have KR4 : Hid (w4.heap[w.heap.size]? = some (.cells #[.string ⟨#[]⟩, .string ⟨#[]⟩, .int .i64 0, .int .i64 0, .string ⟨#[]⟩, .int .i64 0, .slice none 0 0, .int .i64 0, .int .i64 0, .slice none 0 0, .slice none 0 0] 44 (0, 0))) := (HB.out.block _ (by have := HS1.out; omega)).trans KR3.out
      have KE4 : Hid (EB w4 be (part E 0) (.slice none 0 0) (.slice none 0 0) (.slice none 0 0)) := KE3.out.step HB.out
      have BW4 : Hid (Below w.heap.size w w4) := below_then BW3.out HB.out
      have HS4 : Hid (w.heap.size < nf ∧ nf < np ∧ np < be ∧ be < w4.heap.size) := by
        obtain ⟨q1, q2, q3, q4⟩ := HS1.out
        exact ⟨q1, q2, q3, Nat.lt_of_lt_of_le q4 HB.out.size⟩
      have OF4 : Hid (Off (fun n => n = w.heap.size ∨ n = be) w4 (part E 0) (.slice none 0 0) (.slice none 0 0) (.slice none 0 0)) := (OF0.out _).grown (B := be) (.inr rfl) (grown_below HB.out _)
      clear FC3 PC3 KR3 KE3 BW3 HS1 OF0 SH HB hlt hm
      go_upto_region 14 with (fail)
      clear hm6
      go_loopw [10, 11, 12, 50] (fun _ _ _ i wx => ∃ m : Nat, m ≤ 6 ∧ i = .int .i64 m ∧ Hid (w4.grownBy wx (some be)) ∧ Hid (∃ sl skv mvv, EB wx be (part E m) sl skv mvv ∧ Off (fun n => n = w.heap.size ∨ n = be) wx (part E m) sl skv mvv)) (fun _ _ _ i _ => 6 - (intOf i).toNat)
      case atStart => exact ⟨0, Nat.zero_le _, rfl, grown_below (Below.refl _ _) _, _, _, _, KE4.out, OF4.out⟩
      case round =>
        obtain ⟨m, hm, rfl, HG, HEO⟩ := hrel
        obtain ⟨sl, skv, mvv, he, ho⟩ := HEO.out
        have HE : Hid (EB wr be (part E m) sl skv mvv) := he
        have HO : Hid (Off (fun n => n = w.heap.size ∨ n = be) wr (part E m) sl skv mvv) := ho
        clear HEO he ho
        have hs := HS4.out
        have BWX : Hid (Below w.heap.size w wr) := BW4.out.grown HG.out BW4.out.size (fun k q => by cases q; omega)
        by_cases hlt : m < 6
        · have hc1 : wr.cell? ⟨nf, m, none⟩ = _ := grown_cell HG.out (FC4.out m hlt) (by omega)
          have hc2 : wr.cell? ⟨np, 1 + m, none⟩ = _ := grown_cell HG.out (PC4.out m hlt) (by omega)
          have FM : Hid (Calls _ _ _ _ _) := FI.out m hlt be (fun n => n = w.heap.size ∨ n = be) (.inr rfl) wr (fun n h => by have := HG.out.size; rcases h with h | h <;> omega) (GR.out.step BWX.out) sl skv mvv HE.out HO.out
          generalize fldB m = fb at hc1 FM
          generalize bs (fT E m) = tb at hc2 FM
          have hm6 : (m : Int) < 6 := by omega
          clear FC4 PC4 FI CK GK GR BW4 KR4 KE4 OF4 BWX hs HS4
          go_wp2_with (go_at_call 71; refine Calls.mono FM.out ?_; rintro r w5 ⟨rfl, hg5, sl', skv', mvv', hE5, hO5⟩)
          go_roundw
          case rel => exact ⟨m + 1, by omega, by go_num, grown_then HG.out hg5, sl', skv', mvv', hE5, hO5⟩
          case measure => simp [intOf]; omega
        · have hm6 : m = 6 := by omega
          subst hm6
          rw [part_all] at HE HO
          have LS : Ls wr E sl skv mvv := ⟨ints_days HO.out.d.ints h20, HO.out.s.ints, HO.out.m.movs⟩
          have C0 := CK.out sl skv mvv wr (GK.out.step BWX.out) LS
          have KR5 : Hid (wr.heap[w.heap.size]? = some (.cells #[.string ⟨#[]⟩, .string ⟨#[]⟩, .int .i64 0, .int .i64 0, .string ⟨#[]⟩, .int .i64 0, .slice none 0 0, .int .i64 0, .int .i64 0, .slice none 0 0, .slice none 0 0] 44 (0, 0))) := (HG.out.block _ (by omega) (fun q => by have q' : w.heap.size = be := Option.some.inj q; omega)).trans KR4.out
          have hsz := HG.out.size
          have hb1 : w.heap.size < be := by omega
          have hb2 : be < wr.heap.size := by omega
          clear FC4 PC4 FI CK GK GR BW4 KR4 KE4 OF4 HS4 hs hlt HG hsz
          obtain ⟨ra, rc, rfl, _⟩ := LS.d
          obtain ⟨sa, sc, rfl, _⟩ := LS.s
          obtain ⟨ma, mc, rfl, _⟩ := LS.m
          obtain ⟨idn', ti', st', lg', f', e', ds', c', u', sk', mv'⟩ := E
          unfold ev at C0
          dsimp only at *
          obtain ⟨x0, x1, x2, x3, x4, x5, x6, x7, x8, x9, x10⟩ := blk11 (show wr.heap[be]? = _ from HE.out)
          have HC0 : Hid (Calls _ _ _ _ _) := C0
          clear C0 LS
          go_upto_region 22 with (go_at_call 30; refine Calls.mono HC0.out ?_; rintro r w6 ⟨rfl, hb6⟩)
          have KE6 := HE.out.step hb6
          have KR6 : Hid (w6.heap[w.heap.size]? = some (.cells #[.string ⟨#[]⟩, .string ⟨#[]⟩, .int .i64 0, .int .i64 0, .string ⟨#[]⟩, .int .i64 0, .slice none 0 0, .int .i64 0, .int .i64 0, .slice none 0 0, .slice none 0 0] 44 (0, 0))) := (hb6.block _ (by omega)).trans KR5.out
          have BW6 : Hid (Below w.heap.size w w6) := below_then BWX.out hb6
          have OF6 : Hid (Off (fun n => n = w.heap.size ∨ n = be) w6 _ _ _ _) := HO.out.grown (B := be) (.inr rfl) (grown_below hb6 _)
          clear x0 x1 x2 x3 x4 x5 x6 x7 x8 x9 x10 HC0 HE HO KR5 BWX
          obtain ⟨x0, x1, x2, x3, x4, x5, x6, x7, x8, x9, x10⟩ := blk11 (show w6.heap[be]? = _ from KE6)
          obtain ⟨t0, t1, t2, t3, t4, t5, t6, t7, t8, t9, t10⟩ := blk11 KR6.out
          have f0 := blk11_frozen KR6.out 0
          have f1 := blk11_frozen KR6.out 1
          have f2 := blk11_frozen KR6.out 2
          have f3 := blk11_frozen KR6.out 3
          have f4 := blk11_frozen KR6.out 4
          have f5 := blk11_frozen KR6.out 5
          have f6 := blk11_frozen KR6.out 6
          have f7 := blk11_frozen KR6.out 7
          have f8 := blk11_frozen KR6.out 8
          have f9 := blk11_frozen KR6.out 9
          have f10 := blk11_frozen KR6.out 10
          clear KE6 x0 x1 x2 x3 x4 x5 x6 x7 x8 x9 x10
          go_wp2
          rw [put11_fold]
          have n10 := put11_blk (.string ⟨#[]⟩) (.string ⟨#[]⟩) (.int .i64 0) (.int .i64 0) (.string ⟨#[]⟩) (.int .i64 0) (.slice none 0 0) (.int .i64 0) (.int .i64 0) (.slice none 0 0) (.slice none 0 0) KR6.out
          have g7 := put11_grown w6 w.heap.size (.string ⟨#[]⟩) (.string ⟨#[]⟩) (.int .i64 0) (.int .i64 0) (.string ⟨#[]⟩) (.int .i64 0) (.slice none 0 0) (.int .i64 0) (.int .i64 0) (.slice none 0 0) (.slice none 0 0)
          clear t0 t1 t2 t3 t4 t5 t6 t7 t8 t9 t10 f0 f1 f2 f3 f4 f5 f6 f7 f8 f9 f10
          generalize put11 w6 w.heap.size (.string ⟨#[]⟩) (.string ⟨#[]⟩) (.int .i64 0) (.int .i64 0) (.string ⟨#[]⟩) (.int .i64 0) (.slice none 0 0) (.int .i64 0) (.int .i64 0) (.slice none 0 0) (.slice none 0 0) = w7 at n10 g7 ⊢
          obtain ⟨c0, c1, c2, c3, c4, c5, c6, c7, c8, c9, c10⟩ := blk11 n10
          refine bodyPost_ret (v := .tuple #[zV, .iface 250 (.pointer (some pk))]) (by simp [results, zV, Tryz.f43, go_sem, c0, c1, c2, c3, c4, c5, c6, c7, c8, c9, c10]) rfl ⟨rfl, BW6.out.grown g7 BW6.out.size (fun k q => by cases q; omega)⟩
end Go.Proofs.YtekminpoiokgfaaGreatDoor
