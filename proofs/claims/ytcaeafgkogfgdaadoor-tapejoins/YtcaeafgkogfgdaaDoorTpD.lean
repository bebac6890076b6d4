/- A disk in memory (package tape): what its methods do. -/
import Derived.Test.YtcaeafgkogfgdaaDoorTpB
import Derived.Test.YtcaeafgkogfgdaaDoorTpO
import Derived.BigQuiet
import Derived.Lib.QuietBelow
namespace Go.Proofs.YtcaeafgkogfgdaaDoor
open Go Go.RowKit Go.Maps Cal Pk
attribute [local go_sem] Oper.semAt_some

/-- a disk in plain words -/
structure DK where
  B : List UInt8
  torn : Nat
  off : Bool
  waits : Bool
  left : Int
/-- its five cells -/
abbrev dkC (v : Value) (D : DK) : Array Value := #[v, .int .i64 D.torn, .bool D.off, .bool D.waits, .int .i64 D.left]
/-- block bb is a disk -/
def DkAt (lo : Nat) (W : World) (bb : Nat) (D : DK) : Prop :=
  lo ≤ bb ∧ lo ≤ W.heap.size ∧ ∃ g cap, W.heap[bb]? = some (.cells (dkC (.slice (some ⟨g, 0, none⟩) D.B.length cap) D) 41 (0, 0)) ∧ OwB lo W (.slice (some ⟨g, 0, none⟩) D.B.length cap) D.B
/-- what stays: all below lo, and rows of texts -/
def TKeep (lo : Nat) (W W' : World) : Prop := Below lo W W' ∧ ∀ (b : Nat) (cur : Array Value), W.heap[b]? = some (Obj.cells cur 9 (0, 0)) → W'.heap[b]? = some (Obj.cells cur 9 (0, 0))
theorem TKeep.below {lo : Nat} {W W' : World} (h : Below W.heap.size W W') (hl : lo ≤ W.heap.size) : TKeep lo W W' := ⟨⟨h.os, h.tape, h.output, h.size, fun i hi => h.block i (by omega)⟩, fun b cur hb => (h.block b (Array.getElem?_eq_some_iff.1 hb).1).trans hb⟩
theorem TKeep.refl (lo : Nat) (W : World) : TKeep lo W W := ⟨Below.refl _ _, fun _ _ h => h⟩
theorem TKeep.then {lo : Nat} {W W' W'' : World} (h : TKeep lo W W') (k : TKeep lo W' W'') : TKeep lo W W'' := ⟨⟨k.1.os.trans h.1.os, k.1.tape.trans h.1.tape, k.1.output.trans h.1.output, Nat.le_trans h.1.size k.1.size, fun i hi => (k.1.block i hi).trans (h.1.block i hi)⟩, fun b cur hb => k.2 b cur (h.2 b cur hb)⟩
theorem TKeep.grown {lo b : Nat} {W W' : World} {cs : Array Value} {T : TypeId} {fz : Nat × Nat} (h : W.grownBy W' (some b)) (hl : lo ≤ b) (hw : lo ≤ W.heap.size) (hb : W.heap[b]? = some (.cells cs T fz)) (hT : T ≠ 9) : TKeep lo W W' :=
  ⟨⟨h.os, h.tape, h.output, h.size, fun i hi => h.block i (by omega) (fun q => by have := Option.some.inj q; omega)⟩, fun k cur hk => (h.block k (Array.getElem?_eq_some_iff.1 hk).1 (fun q => by
    have := Option.some.inj q
    subst this
    rw [hb] at hk
    cases hk
    exact hT rfl)).trans hk⟩
theorem dk_frozen {W : World} {n : Nat} {cs : Array Value} {t : TypeId} (h : W.heap[n]? = some (.cells cs t (0, 0))) (i : Nat) : W.frozen? ⟨n, i, none⟩ = false := by
  simp [World.frozen?, h]
theorem dk_cells {W : World} {b T : Nat} {a0 a1 a2 a3 a4 : Value} (h : W.heap[b]? = some (.cells #[a0, a1, a2, a3, a4] T (0, 0))) : W.cell? ⟨b, 0, none⟩ = some a0 ∧ W.cell? ⟨b, 1, none⟩ = some a1 ∧ W.cell? ⟨b, 2, none⟩ = some a2 ∧ W.cell? ⟨b, 3, none⟩ = some a3 ∧ W.cell? ⟨b, 4, none⟩ = some a4 := by simp [World.cell?, h]
theorem DkAt.step {lo : Nat} {W W' : World} {bb : Nat} {D : DK} (h : DkAt lo W bb D) (hb : Below W.heap.size W W') : DkAt lo W' bb D := by
  obtain ⟨h1, h2, g, cap, h3, h4⟩ := h
  exact ⟨h1, Nat.le_trans h2 hb.size, g, cap, (hb.block bb (Array.getElem?_eq_some_iff.1 h3).1).trans h3, h4.step hb⟩
/-- the row of bytes is another block than the disk's -/
theorem OwB.ne {lo : Nat} {W : World} {bb : Nat} {v : Value} {xs : List UInt8} {cs : Array Value} {fz : Nat × Nat} (h : OwB lo W v xs) (hb : W.heap[bb]? = some (.cells cs 41 fz)) : v.ownBlock ≠ some bb := fun q => by
  obtain ⟨g, cap, cur, fz', rfl, _, h2, _⟩ := h
  have : g = bb := by simpa [Value.ownBlock] using q
  subst this
  rw [hb] at h2
  cases h2
/-- cells of the disk's block set, its bytes (cut) as they were -/
theorem DkAt.put {lo : Nat} {W W' : World} {bb g n cap : Nat} {xs : List UInt8} {cs cs' : Array Value} (h1 : lo ≤ bb) (h2 : lo ≤ W.heap.size) (h3 : W.heap[bb]? = some (.cells cs 41 (0, 0))) (h4 : OwB lo W (.slice (some ⟨g, 0, none⟩) n cap) xs) (hg : W.grownBy W' (some bb)) (h5 : W'.heap[bb]? = some (.cells cs' 41 (0, 0))) (D : DK) (he : cs' = dkC (.slice (some ⟨g, 0, none⟩) n cap) D) (hx : xs = D.B) : DkAt lo W' bb D ∧ TKeep lo W W' := by
  subst hx
  obtain ⟨g', cap', cur, fz, q, r⟩ := id h4
  cases q
  refine ⟨⟨h1, Nat.le_trans h2 hg.size, g, cap, by rw [h5, he], h4.kept hg (h4.ne h3)⟩, TKeep.grown hg h1 h2 h3 (by decide)⟩
theorem grown_two {A B C : World} {b : Nat} (h : A.grownBy B (some b)) (k : B.grownBy C (some b)) : A.grownBy C (some b) := ⟨k.os.trans h.os, k.tape.trans h.tape, k.output.trans h.output, Nat.le_trans h.size k.size, fun i hi q => (k.block i (Nat.lt_of_lt_of_le hi h.size) q).trans (h.block i hi q)⟩

theorem dkKeep_any (lo : Nat) (W : World) (bb : Nat) (D : DK) (m : Nat) (h : DkAt lo W bb D) (hm : m ≤ D.B.length) :
    Calls Tryd.prog 18 #[.pointer (some ⟨bb, 0, none⟩), .int .i64 m] W fun r w' => r = .returned (.tuple #[]) ∧ DkAt lo w' bb { D with B := D.B.take m, torn := 0 } ∧ TKeep lo W w' := by
  obtain ⟨h1, h2, g, cap, h3, h4⟩ := h
  have H4 : Hid (OwB lo W (.slice (some ⟨g, 0, none⟩) m cap) (D.B.take m)) := h4.cut hm
  have hcap : D.B.length ≤ cap := by
    obtain ⟨g', cap', cur, fz, q, _, _, _, r, _⟩ := h4
    cases q
    exact r
  obtain ⟨c0, c1, c2, c3, c4⟩ := dk_cells h3
  have f0 := dk_frozen h3 0
  have f1 := dk_frozen h3 1
  have k1 : (0 : Int) ≤ (m : Int) := by omega
  have k2 : (m : Int) ≤ (cap : Int) := by omega
  have K3 : Hid (_) := h3
  clear h3 h4 hcap
  go_enter Tryd.func18, Tryd.ntmps18
  go_wp2
  go_end0
  exact ⟨rfl, DkAt.put h1 h2 K3.out H4.out (grown_two (grown_set _ _ _) (grown_set _ ⟨bb, 1, none⟩ _)) (set_block (i := 1) _ (set_block (i := 0) _ K3.out)) _ (by simp [dkC]) rfl⟩

theorem dkRoom_any (lo : Nat) (W : World) (bb : Nat) (D : DK) (n : Int) (h : DkAt lo W bb D) (hl : D.B.length ≤ 1048576) :
    Calls Tryd.prog 15 #[.pointer (some ⟨bb, 0, none⟩), .int .i64 n] W fun r w' => r = .returned (.bool (decide (n ≤ 1048576 - (D.B.length : Int)))) ∧ w' = W := by
  obtain ⟨h1, h2, g, cap, h3, h4⟩ := h
  obtain ⟨c0, c1, c2, c3, c4⟩ := dk_cells h3
  have hw : IntKind.i64.wrap (1048576 - (D.B.length : Int)) = 1048576 - (D.B.length : Int) := by rw [IntKind.wrap_i64]; omega
  clear h3 h4
  go_enter Tryd.func15, Tryd.ntmps15
  go_wp2
  go_ret
  exact ⟨rfl, rfl⟩
theorem dkPower_any (lo : Nat) (W : World) (bb : Nat) (D : DK) (h : DkAt lo W bb D) :
    Calls Tryd.prog 11 #[.pointer (some ⟨bb, 0, none⟩)] W fun r w' => r = .returned (.bool (!D.off)) ∧ w' = W := by
  obtain ⟨h1, h2, g, cap, h3, h4⟩ := h
  obtain ⟨c0, c1, c2, c3, c4⟩ := dk_cells h3
  clear h3 h4
  go_enter Tryd.func11, Tryd.ntmps11
  go_wp2
  go_ret
  exact ⟨rfl, rfl⟩
theorem dkBytes_any (lo : Nat) (W : World) (bb : Nat) (D : DK) (h : DkAt lo W bb D) :
    Calls Tryd.prog 13 #[.pointer (some ⟨bb, 0, none⟩)] W fun r w' => r = .returned (.string (bs D.B)) ∧ w' = W := by
  obtain ⟨h1, h2, g, cap, h3, h4⟩ := h
  obtain ⟨c0, c1, c2, c3, c4⟩ := dk_cells h3
  have ht := owB_text h4
  clear h3 h4
  go_enter Tryd.func13, Tryd.ntmps13
  go_wp2
  go_ret
  exact ⟨rfl, rfl⟩
theorem dkOn_any (lo : Nat) (W : World) (bb : Nat) (D : DK) (h : DkAt lo W bb D) :
    Calls Tryd.prog 17 #[.pointer (some ⟨bb, 0, none⟩)] W fun r w' => r = .returned (.tuple #[]) ∧ DkAt lo w' bb { D with off := false, waits := false } ∧ TKeep lo W w' := by
  obtain ⟨h1, h2, g, cap, h3, h4⟩ := h
  obtain ⟨c0, c1, c2, c3, c4⟩ := dk_cells h3
  have f2 := dk_frozen h3 2
  have f3 := dk_frozen h3 3
  have K3 : Hid (_) := h3
  have H4 : Hid (_) := h4
  clear h3 h4
  go_enter Tryd.func17, Tryd.ntmps17
  go_wp2
  go_end0
  exact ⟨rfl, DkAt.put h1 h2 K3.out H4.out (grown_two (grown_set _ ⟨bb, 2, none⟩ _) (grown_set _ ⟨bb, 3, none⟩ _)) (set_block (i := 3) _ (set_block (i := 2) _ K3.out)) _ (by simp [dkC]) rfl⟩
theorem dkCut_any (lo : Nat) (W : World) (bb : Nat) (D : DK) (n : Int) (h : DkAt lo W bb D) (hn : 0 ≤ n) (ho : D.off = false) :
    Calls Tryd.prog 7 #[.pointer (some ⟨bb, 0, none⟩), .int .i64 n] W fun r w' => r = .returned .nilIface ∧ DkAt lo w' bb { D with waits := true, left := n } ∧ TKeep lo W w' := by
  have P : Hid (Calls Tryd.prog 11 #[.pointer (some ⟨bb, 0, none⟩)] W fun r w' => r = .returned (.bool true) ∧ w' = W) := by
    have := dkPower_any lo W bb D h
    rw [ho] at this
    exact this
  obtain ⟨h1, h2, g, cap, h3, h4⟩ := h
  obtain ⟨c0, c1, c2, c3, c4⟩ := dk_cells h3
  have f3 := dk_frozen h3 3
  have f4 := dk_frozen h3 4
  have K3 : Hid (_) := h3
  have H4 : Hid (_) := h4
  clear h3 h4
  go_enter Tryd.func7, Tryd.ntmps7
  go_wp2_with (go_at_call 11; refine Calls.mono P.out ?_; rintro r w1 ⟨rfl, rfl⟩)
  go_ret
  exact ⟨rfl, DkAt.put h1 h2 K3.out H4.out (grown_two (grown_set _ ⟨bb, 3, none⟩ _) (grown_set _ ⟨bb, 4, none⟩ _)) (set_block (i := 4) _ (set_block (i := 3) _ K3.out)) _ (by simp [dkC]) rfl⟩
theorem newDisk_any (W : World) (lo : Nat) (s : ByteArray) (hlo : lo ≤ W.heap.size) (hs : s.size ≤ 1048576) :
    Calls Tryd.prog 6 #[.string s] W fun r w' => ∃ bb, r = .returned (.tuple #[.pointer (some ⟨bb, 0, none⟩), .nilIface]) ∧ DkAt lo w' bb ⟨s.data.toList, 0, false, false, 0⟩ ∧ Below W.heap.size W w' := by
  obtain ⟨cap, w1, hr, ho, hb, hz⟩ := owB_of W s lo hlo (by omega)
  have hsz : s.data.toList.length = s.size := (Lib.size_eq s).symm
  have hs' : (s.size : Int) ≤ 1048576 := by omega
  have HO : Hid (_) := ho
  have HB : Hid (_) := hb
  have HZ : Hid (_) := hz
  have HS : Hid (_) := hsz
  clear ho hb hz hsz
  go_enter Tryd.func6, Tryd.ntmps6
  go_wp2
  go_ret2
  refine ⟨w1.heap.size, rfl, ⟨?_, ?_, W.heap.size, cap, ?_, ?_⟩, below_then HB.out (below_alloc _ _)⟩
  · rw [HZ.out]; omega
  · rw [World.size_alloc, HZ.out]; omega
  · rw [HS.out]; exact block_at _ rfl
  · rw [HS.out]; exact OwB.step HO.out (below_alloc _ _)
end Go.Proofs.YtcaeafgkogfgdaaDoor
