/- A record is written (package tape): write, Append. -/
import Derived.Test.YtcaeafgkogfgdaaDoorTpD
import Derived.Deep.DeepCutAuto
import Derived.Deep.RegionWith
namespace Go.Proofs.YtcaeafgkogfgdaaDoor
open Go Go.RowKit Go.Maps Cal Pk
attribute [local go_sem] Oper.semAt_some

/-- what tapes lean on -/
structure GlobT (w : World) : Prop where
  tab : Tab w
  q : GlobQ w
  bound : ∃ a, w.cell? ⟨0, 0, none⟩ = some (.iface 90 (.pointer (some a)))
  shape : ∃ a, w.cell? ⟨2, 0, none⟩ = some (.iface 90 (.pointer (some a)))
  full : ∃ a, w.cell? ⟨3, 0, none⟩ = some (.iface 90 (.pointer (some a)))
  off : ∃ a, w.cell? ⟨1, 0, none⟩ = some (.iface 90 (.pointer (some a)))
theorem GlobT.step {w w' : World} (h : GlobT w) (hb : Below w.heap.size w w') : GlobT w' := by
  obtain ⟨a1, h1⟩ := h.bound
  obtain ⟨a2, h2⟩ := h.shape
  obtain ⟨a3, h3⟩ := h.full
  obtain ⟨a4, h4⟩ := h.off
  exact ⟨h.tab.step hb, h.q.step hb, ⟨a1, cell_step h1 hb⟩, ⟨a2, cell_step h2 hb⟩, ⟨a3, cell_step h3 hb⟩, ⟨a4, cell_step h4 hb⟩⟩

theorem drewN_heap (W : World) (n : Nat) : (W.drewN n).heap = W.heap := rfl
theorem DkAt.same {lo : Nat} {W W' : World} {bb : Nat} {D : DK} (h : DkAt lo W bb D) (hh : W'.heap = W.heap) : DkAt lo W' bb D := by
  unfold DkAt OwB at *
  rw [hh]
  exact h
theorem dkKeep_same (lo : Nat) (W : World) (bb : Nat) (D : DK) (n : Int) (h : DkAt lo W bb D) (ht : D.torn = 0) (hn : n = D.B.length) :
    Calls Tryd.prog 18 #[.pointer (some ⟨bb, 0, none⟩), .int .i64 n] W fun r w' => r = .returned (.tuple #[]) ∧ w' = W := by
  subst hn
  obtain ⟨B, torn, off, waits, left⟩ := D
  dsimp only at ht ⊢
  subst ht
  obtain ⟨h1, h2, g, cap, h3, h4⟩ := h
  dsimp only [dkC] at h3 h4
  have hcap : B.length ≤ cap := by
    obtain ⟨g', cap', cur, fz, q, _, _, _, r, _⟩ := h4
    cases q
    exact r
  obtain ⟨c0, c1, c2, c3, c4⟩ := dk_cells h3
  have f0 := dk_frozen h3 0
  have f1 := dk_frozen h3 1
  have k1 : (0 : Int) ≤ (B.length : Int) := by omega
  have k2 : (B.length : Int) ≤ (cap : Int) := by omega
  have E0 : Hid (W.setCell ⟨bb, 0, none⟩ (.slice (some ⟨g, 0, none⟩) B.length cap) = W) := by
    show _ = _
    rw [setCell_eq_setRow W bb 0 _ 41 (0, 0) _ h3]
    exact setRow_self W bb _ 41 (0, 0) h3
  have E1 : Hid (W.setCell ⟨bb, 1, none⟩ (.int .i64 0) = W) := by
    show _ = _
    rw [setCell_eq_setRow W bb 1 _ 41 (0, 0) _ h3]
    exact setRow_self W bb _ 41 (0, 0) h3
  clear h3 h4 hcap
  generalize B.length = n at *
  go_enter Tryd.func18, Tryd.ntmps18
  go_wp2
  go_end0
  exact ⟨rfl, by rw [E0.out, E1.out]⟩

/-- behind an append to the disk's bytes -/
theorem wr_mid {lo : Nat} {W W0 w1 : World} {bb g' n cap : Nat} {xs : List UInt8} {cs : Array Value} (h1 : lo ≤ bb) (h2 : lo ≤ W.heap.size) (h3 : W.heap[bb]? = some (.cells cs 41 (0, 0))) (h4 : OwB lo W (.slice (some ⟨g', 0, none⟩) n cap) xs) (hb0 : Below W.heap.size W W0) (hgrow : W0.grownBy w1 (some g')) : w1.heap[bb]? = some (.cells cs 41 (0, 0)) ∧ TKeep lo W w1 := by
  obtain ⟨g, cap', cur, fz, q, r1, r2, r3⟩ := id h4
  cases q
  have hne : g' ≠ bb := fun q => by subst q; rw [h3] at r2; cases r2
  have e3 : W0.heap[bb]? = some (.cells cs 41 (0, 0)) := (hb0.block bb (Array.getElem?_eq_some_iff.1 h3).1).trans h3
  have e4 : W0.heap[g']? = some (.cells cur 5 fz) := (hb0.block g' (Array.getElem?_eq_some_iff.1 r2).1).trans r2
  have hs := hb0.size
  exact ⟨(hgrow.block bb (Array.getElem?_eq_some_iff.1 e3).1 (fun q => hne (Option.some.inj q).symm)).trans e3, (TKeep.below hb0 h2).then (TKeep.grown hgrow r1 (by omega) e4 (by decide))⟩
/-- the errors, whatever is written from lo on -/
def ErrAt (lo g : Nat) (W : World) : Prop := ∀ W', Below lo W W' → ∃ a, W'.cell? ⟨g, 0, none⟩ = some (.iface 90 (.pointer (some a)))

theorem write_off (lo : Nat) (W : World) (bb : Nat) (D : DK) (s : ByteArray) (g : ErrAt lo 1 W) (h : DkAt lo W bb D) (ho : D.off = true) :
    Calls Tryd.prog 16 #[.pointer (some ⟨bb, 0, none⟩), .string s] W fun r w' => (∃ a, r = .returned (.iface 90 (.pointer (some a)))) ∧ w' = W := by
  obtain ⟨a, ha⟩ := g W (Below.refl _ _)
  obtain ⟨B, torn, off, waits, left⟩ := D
  dsimp only at ho
  subst ho
  obtain ⟨h1, h2, g', cap, h3, h4⟩ := h
  dsimp only [dkC] at h3 h4
  obtain ⟨c0, c1, c2, c3, c4⟩ := dk_cells h3
  clear h3 h4 g
  go_enter Tryd.func16, Tryd.ntmps16
  go_wp2
  go_ret
  exact ⟨⟨a, rfl⟩, rfl⟩
/-- the disk behind a record that is whole -/
def DK.more (D : DK) (r : List UInt8) : DK := { D with B := D.B ++ r, left := if D.waits then D.left - r.length else D.left }
/-- the disk behind a record that power failed in -/
def DK.cut (D : DK) (r : List UInt8) : DK := { D with B := D.B ++ r.take D.left.toNat, torn := D.left.toNat, off := true }

set_option maxHeartbeats 1000000 in
set_option maxRecDepth 100000 in
theorem write_cut (lo : Nat) (W : World) (bb : Nat) (D : DK) (s : ByteArray) (g : ErrAt lo 1 W) (h : DkAt lo W bb D) (ho : D.off = false) (ht : D.torn = 0) (hw : D.waits = true) (hl : D.left < s.size) (hl0 : 0 ≤ D.left) (hb : D.B.length ≤ 2000000) (hs : s.size ≤ 2000000) :
    Calls Tryd.prog 16 #[.pointer (some ⟨bb, 0, none⟩), .string s] W fun r w' => (∃ a, r = .returned (.iface 90 (.pointer (some a)))) ∧ DkAt lo w' bb (D.cut s.data.toList) ∧ TKeep lo W w' := by
  have KS : Hid (∀ W', W'.heap = W.heap → Calls Tryd.prog 18 #[.pointer (some ⟨bb, 0, none⟩), .int .i64 D.B.length] W' fun r w' => r = .returned (.tuple #[]) ∧ w' = W') := fun W' hh => dkKeep_same lo W' bb D D.B.length (h.same hh) ht rfl
  have HG : Hid (ErrAt lo 1 W) := g
  obtain ⟨B, torn, off, waits, left⟩ := D
  dsimp only at ho ht hw hl hl0 hb KS
  subst ho ht hw
  obtain ⟨k, rfl⟩ : ∃ k : Nat, left = k := ⟨left.toNat, by omega⟩
  obtain ⟨h1, h2, g', cap, h3, h4⟩ := h
  have h3 : W.heap[bb]? = some (.cells #[.slice (some ⟨g', 0, none⟩) B.length cap, .int .i64 0, .bool false, .bool true, .int .i64 k] 41 (0, 0)) := h3
  obtain ⟨c0, c1, c2, c3, c4⟩ := dk_cells h3
  have f0 := dk_frozen h3 0
  have f1 := dk_frozen h3 1
  have f2 := dk_frozen h3 2
  have j1 : (0 : Int) ≤ (k : Int) := by omega
  have j2 : (k : Int) ≤ (s.size : Int) := by omega
  have hw0 : IntKind.i64.wrap ((B.length : Int) - 0) = (B.length : Int) := by rw [IntKind.wrap_i64]; omega
  have K3 : Hid (_) := h3
  have K4 : Hid (OwB lo W (.slice (some ⟨g', 0, none⟩) B.length cap) B) := h4
  clear h3 h4 g
  go_enter Tryd.func16, Tryd.ntmps16
  go_upto_region 3 with fail
  go_quiet ((go_at_call 18; exact Calls.quiet_of_same (KS.out _ rfl)))
  go_upto_region 5 with fail
  have K5 : Hid (∀ W', W'.heap = W.heap → OwB lo W' (.slice (some ⟨g', 0, none⟩) B.length cap) B) := fun W' hh => by unfold OwB; rw [hh]; exact K4.out
  have KC : Hid (∀ W' W'' : World, Below W.heap.size W W' → W'.grownBy W'' (some g') → W''.heap[bb]? = some (.cells #[.slice (some ⟨g', 0, none⟩) B.length cap, .int .i64 0, .bool false, .bool true, .int .i64 k] 41 (0, 0)) ∧ TKeep lo W W'') := fun W' W'' hh hg => wr_mid h1 h2 K3.out K4.out hh hg
  have HK : Hid (k ≤ s.size) := by show _ ≤ _; omega
  have HSZ : Hid (B.length + (s.extract 0 k).size ≤ 100000000) := by
    show _ ≤ _
    have : (s.extract 0 k).size ≤ s.size := by simp; omega
    omega
  have HL : Hid (lo ≤ bb ∧ lo ≤ W.heap.size) := ⟨h1, h2⟩
  clear h1 hb hs hl hl0 KS h3
  go_region_law
    ((refine step_append_owB _ (by rfl) _ _ (by rfl) lo (.slice (some ⟨g', 0, none⟩) B.length cap) B (by rfl) (K5.out _ (by rfl)) (s.extract 0 k) (by rfl) HSZ.out (by assumption) ?_; intro g1 cap1 w1 hown hgrow; obtain ⟨hw1, hk1⟩ := KC.out _ _ (by first | exact pl_drew _ _ | exact below_then (pl_drew _ _) (drew_below _)) hgrow; obtain ⟨cw1, _, _, _, _⟩ := dk_cells hw1; have fw1 := dk_frozen hw1 0; have HW1 : Hid (_) := hw1; have HK1 : Hid (_) := hk1; have HOWN : Hid (_) := hown; clear hw1 hk1 hown hgrow))
  all_goals
    simp only [Nat.min_eq_left HK.out]
    simp only [ByteArray.size_extract, Nat.min_eq_left HK.out, Nat.sub_zero] at HOWN
    clear cw1 fw1 c0 c1 c2 c3 c4 f0 f1 f2
    have hw2 : (w1.setCell ⟨bb, 0, none⟩ (.slice (some ⟨g1, 0, none⟩) (B.length + k) cap1)).heap[bb]? = some (.cells #[.slice (some ⟨g1, 0, none⟩) (B.length + k) cap1, .int .i64 0, .bool false, .bool true, .int .i64 k] 41 (0, 0)) := set_block (i := 0) _ HW1.out
    have G2 := grown_set w1 ⟨bb, 0, none⟩ (.slice (some ⟨g1, 0, none⟩) (B.length + k) cap1)
    have T2 : Hid (TKeep lo W (w1.setCell ⟨bb, 0, none⟩ (.slice (some ⟨g1, 0, none⟩) (B.length + k) cap1))) := TKeep.then HK1.out (TKeep.grown G2 HL.out.1 (Nat.le_trans HL.out.2 HK1.out.1.size) HW1.out (by decide))
    obtain ⟨d0, d1, d2, d3, d4⟩ := dk_cells hw2
    have e1 := dk_frozen hw2 1
    have e2 := dk_frozen hw2 2
    have HW2 : Hid (_) := hw2
    have HG2 : Hid (_) := G2
    clear hw2 G2
    generalize w1.setCell ⟨bb, 0, none⟩ (.slice (some ⟨g1, 0, none⟩) (B.length + k) cap1) = w2 at *
    go_upto_region 7 with fail
    have hw3 := set_block (i := 2) (.bool true) (set_block (i := 1) (.int .i64 k) HW2.out)
    have G3 := grown_two (grown_set w2 ⟨bb, 1, none⟩ (.int .i64 k)) (grown_set _ ⟨bb, 2, none⟩ (.bool true))
    have HL2 : lo ≤ w2.heap.size := Nat.le_trans HL.out.2 T2.out.1.size
    have FIN : Hid (DkAt lo ((w2.setCell ⟨bb, 1, none⟩ (.int .i64 k)).setCell ⟨bb, 2, none⟩ (.bool true)) bb (DK.cut ⟨B, 0, false, true, k⟩ s.data.toList) ∧ TKeep lo W ((w2.setCell ⟨bb, 1, none⟩ (.int .i64 k)).setCell ⟨bb, 2, none⟩ (.bool true))) := by
      have z := DkAt.put (cs := #[.slice (some ⟨g1, 0, none⟩) (B.length + k) cap1, .int .i64 0, .bool false, .bool true, .int .i64 k]) HL.out.1 HL2 HW2.out (OwB.kept HOWN.out HG2.out (OwB.ne HOWN.out HW1.out)) G3 hw3 (DK.cut ⟨B, 0, false, true, k⟩ s.data.toList) (by simp [dkC, DK.cut]) (by simp [DK.cut])
      exact ⟨z.1, TKeep.then T2.out z.2⟩
    obtain ⟨a, ha⟩ := HG.out _ FIN.out.2.1
    clear hw3 G3 d0 d1 d2 d3 d4 e1 e2
    generalize (w2.setCell ⟨bb, 1, none⟩ (.int .i64 k)).setCell ⟨bb, 2, none⟩ (.bool true) = w3 at *
    go_wp2
    go_ret
    exact ⟨⟨a, rfl⟩, FIN.out⟩

set_option maxHeartbeats 1000000 in
set_option maxRecDepth 100000 in
theorem write_more (lo : Nat) (W : World) (bb : Nat) (D : DK) (s : ByteArray) (h : DkAt lo W bb D) (ho : D.off = false) (ht : D.torn = 0) (hl : D.waits = true → (s.size : Int) ≤ D.left ∧ D.left ≤ 9223372036854775807) (hb : D.B.length ≤ 2000000) (hs : s.size ≤ 2000000) :
    Calls Tryd.prog 16 #[.pointer (some ⟨bb, 0, none⟩), .string s] W fun r w' => r = .returned .nilIface ∧ DkAt lo w' bb (D.more s.data.toList) ∧ TKeep lo W w' := by
  have KS : Hid (∀ W', W'.heap = W.heap → Calls Tryd.prog 18 #[.pointer (some ⟨bb, 0, none⟩), .int .i64 D.B.length] W' fun r w' => r = .returned (.tuple #[]) ∧ w' = W') := fun W' hh => dkKeep_same lo W' bb D D.B.length (h.same hh) ht rfl
  obtain ⟨B, torn, off, waits, left⟩ := D
  dsimp only at ho ht hl hb KS
  subst ho ht
  obtain ⟨h1, h2, g', cap, h3, h4⟩ := h
  have h3 : W.heap[bb]? = some (.cells #[.slice (some ⟨g', 0, none⟩) B.length cap, .int .i64 0, .bool false, .bool waits, .int .i64 left] 41 (0, 0)) := h3
  obtain ⟨c0, c1, c2, c3, c4⟩ := dk_cells h3
  have f0 := dk_frozen h3 0
  have hw0 : IntKind.i64.wrap ((B.length : Int) - 0) = (B.length : Int) := by rw [IntKind.wrap_i64]; omega
  have K3 : Hid (W.heap[bb]? = some (.cells #[.slice (some ⟨g', 0, none⟩) B.length cap, .int .i64 0, .bool false, .bool waits, .int .i64 left] 41 (0, 0))) := h3
  have K4 : Hid (OwB lo W (.slice (some ⟨g', 0, none⟩) B.length cap) B) := h4
  have HL : Hid (lo ≤ bb ∧ lo ≤ W.heap.size) := ⟨h1, h2⟩
  have HSZ : Hid (B.length + s.size ≤ 100000000) := by show _ ≤ _; omega
  have K5 : Hid (∀ W', W'.heap = W.heap → OwB lo W' (.slice (some ⟨g', 0, none⟩) B.length cap) B) := fun W' hh => by unfold OwB; rw [hh]; exact K4.out
  have KC : Hid (∀ W' W'' : World, Below W.heap.size W W' → W'.grownBy W'' (some g') → W''.heap[bb]? = some (.cells #[.slice (some ⟨g', 0, none⟩) B.length cap, .int .i64 0, .bool false, .bool waits, .int .i64 left] 41 (0, 0)) ∧ TKeep lo W W'') := fun W' W'' hh hg => wr_mid h1 h2 K3.out K4.out hh hg
  have hls : s.data.toList.length = s.size := by simp
  have FIN : Hid (∀ w1 g1 cap1, w1.heap[bb]? = some (.cells #[.slice (some ⟨g', 0, none⟩) B.length cap, .int .i64 0, .bool false, .bool waits, .int .i64 left] 41 (0, 0)) → TKeep lo W w1 → OwB lo w1 (.slice (some ⟨g1, 0, none⟩) (B.length + s.size) cap1) (B ++ s.data.toList) → ∀ w3, w1.grownBy w3 (some bb) → w3.heap[bb]? = some (.cells #[.slice (some ⟨g1, 0, none⟩) (B.length + s.size) cap1, .int .i64 0, .bool false, .bool waits, .int .i64 (if waits then left - s.size else left)] 41 (0, 0)) → DkAt lo w3 bb (DK.more ⟨B, 0, false, waits, left⟩ s.data.toList) ∧ TKeep lo W w3) := fun w1 g1 cap1 q1 q2 q3 w3 q4 q5 => by
    have z := DkAt.put HL.out.1 (Nat.le_trans HL.out.2 q2.1.size) q1 q3 q4 q5 (DK.more ⟨B, 0, false, waits, left⟩ s.data.toList) (by simp [dkC, DK.more]) (by simp [DK.more])
    exact ⟨z.1, q2.then z.2⟩
  clear h3 h4 h1 hls
  cases waits with
  | false =>
    clear hl
    go_enter Tryd.func16, Tryd.ntmps16
    go_upto_region 3 with fail
    go_quiet ((go_at_call 18; exact Calls.quiet_of_same (KS.out _ rfl)))
    go_upto_region 8 with fail
    go_wp2_with (at_builtin; refine wpList_append_owB _ (by rfl) _ _ (by rfl) lo (.slice (some ⟨g', 0, none⟩) B.length cap) B (by rfl) (K5.out _ (by rfl)) s (by rfl) HSZ.out (by assumption) ?_; intro g1 cap1 w1 hown hgrow; obtain ⟨hw1, hk1⟩ := KC.out _ _ (pl_drew _ _) hgrow; obtain ⟨cw1, _, _, cw3, _⟩ := dk_cells hw1; have fw1 := dk_frozen hw1 0; have HW1 : Hid (_) := hw1; have HK1 : Hid (_) := hk1; have HOWN : Hid (_) := hown; clear hw1 hk1 hown hgrow c0 c1 c2 c3 c4)
    go_ret
    exact ⟨rfl, FIN.out w1 g1 cap1 HW1.out HK1.out HOWN.out _ (grown_set _ ⟨bb, 0, none⟩ _) (set_block (i := 0) _ HW1.out)⟩
  | true =>
    obtain ⟨hl1, hl2⟩ := hl rfl
    have hl3 : ¬ left < (s.size : Int) := by omega
    have hw9 : IntKind.i64.wrap (left - (s.size : Int)) = left - (s.size : Int) := by rw [IntKind.wrap_i64]; omega
    clear hl hl1 hl2
    go_enter Tryd.func16, Tryd.ntmps16
    go_upto_region 3 with fail
    go_quiet ((go_at_call 18; exact Calls.quiet_of_same (KS.out _ rfl)))
    go_upto_region 8 with fail
    go_wp2_with (at_builtin; refine wpList_append_owB _ (by rfl) _ _ (by rfl) lo (.slice (some ⟨g', 0, none⟩) B.length cap) B (by rfl) (K5.out _ (by rfl)) s (by rfl) HSZ.out (by assumption) ?_; intro g1 cap1 w1 hown hgrow; obtain ⟨hw1, hk1⟩ := KC.out _ _ (pl_drew _ _) hgrow; obtain ⟨cw1, _, _, cw3, cw4⟩ := dk_cells hw1; have fw1 := dk_frozen hw1 0; have fw4 := dk_frozen hw1 4; have HW1 : Hid (_) := hw1; have HK1 : Hid (_) := hk1; have HOWN : Hid (_) := hown; clear hw1 hk1 hown hgrow c0 c1 c2 c3 c4)
    go_ret
    exact ⟨rfl, FIN.out w1 g1 cap1 HW1.out HK1.out HOWN.out _ (grown_two (grown_set _ ⟨bb, 0, none⟩ _) (grown_set _ ⟨bb, 4, none⟩ _)) (set_block (i := 4) _ (set_block (i := 0) _ HW1.out))⟩
end Go.Proofs.YtcaeafgkogfgdaaDoor
