/- Package merge's joinFields: all fields of an event that all three have (written by wip/gen/mkMgI.py). -/
import Derived.Test.YtekminpoiokgfaaGreatDoorMgHW
import Derived.Test.YtekminpoiokgfaaGreatDoorYaG
namespace Go.Proofs.YtekminpoiokgfaaGreatDoor
open Go Go.RowKit Go.Maps Go.Sort Cal
attribute [local go_sem] Oper.semAt_some

/-- two rows of texts that a loop owns, beside a block that stays -/
structure TwoR (base nf : Nat) (W : World) (pv cv : Value) (ps cs : List ByteArray) : Prop where
  p : W.ownsRow base 9 1 pv ps.length (ps.map Value.string)
  c : W.ownsRow base 9 1 cv cs.length (cs.map Value.string)
  ne : ∀ b, pv.ownBlock = some b → cv.ownBlock ≠ some b
  f1 : pv.ownBlock ≠ some nf
  f2 : cv.ownBlock ≠ some nf
  lt : nf < W.heap.size
  fs : ∀ i, i < 6 → W.cell? ⟨nf, i, none⟩ = some (.string (fldB i))
theorem TwoR.step {base nf : Nat} {W W' : World} {pv cv : Value} {ps cs : List ByteArray} (h : TwoR base nf W pv cv ps cs) (hb : Below W.heap.size W W') : TwoR base nf W' pv cv ps cs :=
  ⟨own_step h.p hb, own_step h.c hb, h.ne, h.f1, h.f2, Nat.lt_of_lt_of_le h.lt hb.size, fun i hi => cell_step (h.fs i hi) hb⟩
theorem TwoR.addC {base nf : Nat} {W W' : World} {pv cv v' : Value} {ps cs : List ByteArray} {x : ByteArray} (h : TwoR base nf W pv cv ps cs) (ho : W'.ownsRow base 9 1 v' (cs.length + 1) (cs.map Value.string ++ [.string x])) (hg : W.grownBy W' cv.ownBlock) (hat : v'.ownBlock = cv.ownBlock ∨ v'.ownBlock = some W.heap.size) : TwoR base nf W' pv v' ps (cs ++ [x]) := by
  refine ⟨h.p.kept hg ?_, by rw [List.length_append, List.map_append]; exact ho, fun b hb q => ?_, h.f1, fun q => ?_, Nat.lt_of_lt_of_le h.lt hg.size, fun i hi => (World.cell?_of_block (a := ⟨nf, i, none⟩) (hg.block nf h.lt (fun q => h.f2 q.symm))).trans (h.fs i hi)⟩
  · cases hp : pv.ownBlock with
    | none => exact .inl rfl
    | some b => exact .inr (fun q => h.ne b hp q.symm)
  · rcases hat with e | e
    · exact h.ne b hb (e ▸ q)
    · rw [e] at q
      have := (World.ownsRow.lt h.p b hb).2
      have := Option.some.inj q
      omega
  · rcases hat with e | e
    · exact h.f2 (e ▸ q)
    · rw [e] at q
      have := h.lt
      have := Option.some.inj q
      omega
theorem TwoR.swap {base nf : Nat} {W : World} {pv cv : Value} {ps cs : List ByteArray} (h : TwoR base nf W pv cv ps cs) : TwoR base nf W cv pv cs ps :=
  ⟨h.c, h.p, fun b hb q => h.ne b q hb, h.f2, h.f1, h.lt, h.fs⟩
theorem TwoR.addP {base nf : Nat} {W W' : World} {pv cv v' : Value} {ps cs : List ByteArray} {x : ByteArray} (h : TwoR base nf W pv cv ps cs) (ho : W'.ownsRow base 9 1 v' (ps.length + 1) (ps.map Value.string ++ [.string x])) (hg : W.grownBy W' pv.ownBlock) (hat : v'.ownBlock = pv.ownBlock ∨ v'.ownBlock = some W.heap.size) : TwoR base nf W' v' cv (ps ++ [x]) cs :=
  (h.swap.addC ho hg hat).swap

theorem own_form {base n : Nat} {W : World} {e : TypeId} {size : Nat} {v : Value} {xs : List Value} (h : W.ownsRow base e size v n xs) : ∃ a c, v = .slice a n c := by
  rcases h.2 with ⟨rfl, h0⟩ | ⟨g, cap, cur, rfl, _⟩
  · exact ⟨none, 0, by rw [h0]⟩
  · exact ⟨_, _, rfl⟩
/-- the texts of the first m fields, and the names of those that clash -/
noncomputable def jTs (E1 E2 E3 : EV) (m : Nat) : List ByteArray := E1.id :: (List.range m).map fun k => (jF E1 E2 E3 k).1
noncomputable def jCs (E1 E2 E3 : EV) (m : Nat) : List ByteArray := ((List.range m).filter fun k => !(jF E1 E2 E3 k).2).map fldB
theorem jTs_succ (E1 E2 E3 : EV) (m : Nat) : jTs E1 E2 E3 (m + 1) = jTs E1 E2 E3 m ++ [(jF E1 E2 E3 m).1] := by
  unfold jTs
  rw [List.range_succ, List.map_append]
  rfl
theorem jTs_len (E1 E2 E3 : EV) (m : Nat) : (jTs E1 E2 E3 m).length = m + 1 := by simp [jTs]
theorem jCs_len (E1 E2 E3 : EV) (m : Nat) : (jCs E1 E2 E3 m).length ≤ m := by
  unfold jCs
  rw [List.length_map]
  exact Nat.le_trans (List.length_filter_le _ _) (by simp)
theorem jCs_yes {E1 E2 E3 : EV} {m : Nat} (h : (jF E1 E2 E3 m).2 = true) : jCs E1 E2 E3 (m + 1) = jCs E1 E2 E3 m := by
  unfold jCs
  rw [List.range_succ, List.filter_append]
  simp [h]
theorem jCs_no {E1 E2 E3 : EV} {m : Nat} (h : (jF E1 E2 E3 m).2 = false) : jCs E1 E2 E3 (m + 1) = jCs E1 E2 E3 m ++ [fldB m] := by
  unfold jCs
  rw [List.range_succ, List.filter_append]
  simp [h]

set_option maxHeartbeats 4000000 in
set_option maxRecDepth 100000 in
theorem joinFields_any (E1 E2 E3 : EV) (x1 y1 z1 : Value) (x2 y2 z2 : Value) (x3 y3 z3 : Value) (w : World) (g : GlobR w) (L1 : Ls w E1 x1 y1 z1) (L2 : Ls w E2 x2 y2 z2) (L3 : Ls w E3 x3 y3 z3) (W1 : EW E1) (W2 : EW E2) (W3 : EW E3) (G2 : Got w y2 E2.sk) (G3 : Got w y3 E3.sk) (hlen : (Lib.join ((jTs E1 E2 E3 6).map fun b => b.data.toList) [124]).length ≤ 100000) :
    Calls Tryz.prog 42 #[ev E1 x1 y1 z1, ev E2 x2 y2 z2, ev E3 x3 y3 z3] w fun r w' => Below w.heap.size w w' ∧ ((jCs E1 E2 E3 6 = [] ∧ r = .returned (.tuple #[.string (bs (Lib.join ((jTs E1 E2 E3 6).map fun b => b.data.toList) [124])), .slice none 0 0])) ∨ (jCs E1 E2 E3 6 ≠ [] ∧ ∃ v, r = .returned (.tuple #[.string ⟨#[]⟩, v]) ∧ w'.ownsRow w.heap.size 9 1 v (jCs E1 E2 E3 6).length ((jCs E1 E2 E3 6).map Value.string))) := by
  have JF : Hid (∀ k, k < 6 → ∀ W, Below w.heap.size w W → Calls Tryz.prog 68 #[.string (fldB k), ev E1 x1 y1 z1, ev E2 x2 y2 z2, ev E3 x3 y3 z3] W fun r w' => r = .returned (.tuple #[.string (jF E1 E2 E3 k).1, .bool (jF E1 E2 E3 k).2]) ∧ Below W.heap.size W w') := fun k hk W hW => joinField_any k hk E1 E2 E3 x1 y1 z1 x2 y2 z2 x3 y3 z3 W (g.step hW) (L1.step hW) (L2.step hW) (L3.step hW) W1 W2 W3 (G2.step hW) (G3.step hW)
  have HLEN : Hid (_) := hlen
  clear hlen
  obtain ⟨p1, q1, n1⟩ := L1
  obtain ⟨r1, rc1, rfl, p1⟩ := p1
  obtain ⟨s1, sc1, rfl, q1⟩ := q1
  obtain ⟨m1, mc1, rfl, n1⟩ := n1
  clear p1 q1 n1 W1
  obtain ⟨p2, q2, n2⟩ := L2
  obtain ⟨r2, rc2, rfl, p2⟩ := p2
  obtain ⟨s2, sc2, rfl, q2⟩ := q2
  obtain ⟨m2, mc2, rfl, n2⟩ := n2
  clear p2 q2 n2 W2
  obtain ⟨p3, q3, n3⟩ := L3
  obtain ⟨r3, rc3, rfl, p3⟩ := p3
  obtain ⟨s3, sc3, rfl, q3⟩ := q3
  obtain ⟨m3, mc3, rfl, n3⟩ := n3
  clear p3 q3 n3 W3
  clear g G2 G3
  have JF' : Hid (∀ k, k < 6 → ∀ W, Below w.heap.size w W → Calls Tryz.prog 68 #[.string (fldB k), .agg #[.string E1.id, .string E1.ti, .int .i64 E1.st, .int .i64 E1.lg, .string E1.f, .int .i64 E1.e, .slice r1 E1.ds.length rc1, .int .i64 E1.c, .int .i64 E1.u, .slice s1 E1.sk.length sc1, .slice m1 E1.mv.length mc1], .agg #[.string E2.id, .string E2.ti, .int .i64 E2.st, .int .i64 E2.lg, .string E2.f, .int .i64 E2.e, .slice r2 E2.ds.length rc2, .int .i64 E2.c, .int .i64 E2.u, .slice s2 E2.sk.length sc2, .slice m2 E2.mv.length mc2], .agg #[.string E3.id, .string E3.ti, .int .i64 E3.st, .int .i64 E3.lg, .string E3.f, .int .i64 E3.e, .slice r3 E3.ds.length rc3, .int .i64 E3.c, .int .i64 E3.u, .slice s3 E3.sk.length sc3, .slice m3 E3.mv.length mc3]] W fun r w' => r = .returned (.tuple #[.string (jF E1 E2 E3 k).1, .bool (jF E1 E2 E3 k).2]) ∧ Below W.heap.size W w') := JF.out
  change Calls Tryz.prog 42 #[.agg #[.string E1.id, .string E1.ti, .int .i64 E1.st, .int .i64 E1.lg, .string E1.f, .int .i64 E1.e, .slice r1 E1.ds.length rc1, .int .i64 E1.c, .int .i64 E1.u, .slice s1 E1.sk.length sc1, .slice m1 E1.mv.length mc1], .agg #[.string E2.id, .string E2.ti, .int .i64 E2.st, .int .i64 E2.lg, .string E2.f, .int .i64 E2.e, .slice r2 E2.ds.length rc2, .int .i64 E2.c, .int .i64 E2.u, .slice s2 E2.sk.length sc2, .slice m2 E2.mv.length mc2], .agg #[.string E3.id, .string E3.ti, .int .i64 E3.st, .int .i64 E3.lg, .string E3.f, .int .i64 E3.e, .slice r3 E3.ds.length rc3, .int .i64 E3.c, .int .i64 E3.u, .slice s3 E3.sk.length sc3, .slice m3 E3.mv.length mc3]] w _
  have hB : Below w.heap.size w (((w.alloc (.cells #[.string E1.id, .string E1.ti, .int .i64 E1.st, .int .i64 E1.lg, .string E1.f, .int .i64 E1.e, .slice r1 E1.ds.length rc1, .int .i64 E1.c, .int .i64 E1.u, .slice s1 E1.sk.length sc1, .slice m1 E1.mv.length mc1] 44)).alloc (.cells #[.string E2.id, .string E2.ti, .int .i64 E2.st, .int .i64 E2.lg, .string E2.f, .int .i64 E2.e, .slice r2 E2.ds.length rc2, .int .i64 E2.c, .int .i64 E2.u, .slice s2 E2.sk.length sc2, .slice m2 E2.mv.length mc2] 44)).alloc (.cells #[.string E3.id, .string E3.ti, .int .i64 E3.st, .int .i64 E3.lg, .string E3.f, .int .i64 E3.e, .slice r3 E3.ds.length rc3, .int .i64 E3.c, .int .i64 E3.u, .slice s3 E3.sk.length sc3, .slice m3 E3.mv.length mc3] 44)) := below_then (below_then (below_alloc _ _) (below_alloc _ _)) (below_alloc _ _)
  have K1 : (((w.alloc (.cells #[.string E1.id, .string E1.ti, .int .i64 E1.st, .int .i64 E1.lg, .string E1.f, .int .i64 E1.e, .slice r1 E1.ds.length rc1, .int .i64 E1.c, .int .i64 E1.u, .slice s1 E1.sk.length sc1, .slice m1 E1.mv.length mc1] 44)).alloc (.cells #[.string E2.id, .string E2.ti, .int .i64 E2.st, .int .i64 E2.lg, .string E2.f, .int .i64 E2.e, .slice r2 E2.ds.length rc2, .int .i64 E2.c, .int .i64 E2.u, .slice s2 E2.sk.length sc2, .slice m2 E2.mv.length mc2] 44)).alloc (.cells #[.string E3.id, .string E3.ti, .int .i64 E3.st, .int .i64 E3.lg, .string E3.f, .int .i64 E3.e, .slice r3 E3.ds.length rc3, .int .i64 E3.c, .int .i64 E3.u, .slice s3 E3.sk.length sc3, .slice m3 E3.mv.length mc3] 44)).heap[w.heap.size]? = some (.cells #[.string E1.id, .string E1.ti, .int .i64 E1.st, .int .i64 E1.lg, .string E1.f, .int .i64 E1.e, .slice r1 E1.ds.length rc1, .int .i64 E1.c, .int .i64 E1.u, .slice s1 E1.sk.length sc1, .slice m1 E1.mv.length mc1] 44 (0, 0)) := block_alloc _ (block_alloc _ (block_at _ rfl))
  have K2 : (((w.alloc (.cells #[.string E1.id, .string E1.ti, .int .i64 E1.st, .int .i64 E1.lg, .string E1.f, .int .i64 E1.e, .slice r1 E1.ds.length rc1, .int .i64 E1.c, .int .i64 E1.u, .slice s1 E1.sk.length sc1, .slice m1 E1.mv.length mc1] 44)).alloc (.cells #[.string E2.id, .string E2.ti, .int .i64 E2.st, .int .i64 E2.lg, .string E2.f, .int .i64 E2.e, .slice r2 E2.ds.length rc2, .int .i64 E2.c, .int .i64 E2.u, .slice s2 E2.sk.length sc2, .slice m2 E2.mv.length mc2] 44)).alloc (.cells #[.string E3.id, .string E3.ti, .int .i64 E3.st, .int .i64 E3.lg, .string E3.f, .int .i64 E3.e, .slice r3 E3.ds.length rc3, .int .i64 E3.c, .int .i64 E3.u, .slice s3 E3.sk.length sc3, .slice m3 E3.mv.length mc3] 44)).heap[w.heap.size + 1]? = some (.cells #[.string E2.id, .string E2.ti, .int .i64 E2.st, .int .i64 E2.lg, .string E2.f, .int .i64 E2.e, .slice r2 E2.ds.length rc2, .int .i64 E2.c, .int .i64 E2.u, .slice s2 E2.sk.length sc2, .slice m2 E2.mv.length mc2] 44 (0, 0)) := block_alloc _ (block_at _ (World.size_alloc _ _))
  have K3 : (((w.alloc (.cells #[.string E1.id, .string E1.ti, .int .i64 E1.st, .int .i64 E1.lg, .string E1.f, .int .i64 E1.e, .slice r1 E1.ds.length rc1, .int .i64 E1.c, .int .i64 E1.u, .slice s1 E1.sk.length sc1, .slice m1 E1.mv.length mc1] 44)).alloc (.cells #[.string E2.id, .string E2.ti, .int .i64 E2.st, .int .i64 E2.lg, .string E2.f, .int .i64 E2.e, .slice r2 E2.ds.length rc2, .int .i64 E2.c, .int .i64 E2.u, .slice s2 E2.sk.length sc2, .slice m2 E2.mv.length mc2] 44)).alloc (.cells #[.string E3.id, .string E3.ti, .int .i64 E3.st, .int .i64 E3.lg, .string E3.f, .int .i64 E3.e, .slice r3 E3.ds.length rc3, .int .i64 E3.c, .int .i64 E3.u, .slice s3 E3.sk.length sc3, .slice m3 E3.mv.length mc3] 44)).heap[w.heap.size + 1 + 1]? = some (.cells #[.string E3.id, .string E3.ti, .int .i64 E3.st, .int .i64 E3.lg, .string E3.f, .int .i64 E3.e, .slice r3 E3.ds.length rc3, .int .i64 E3.c, .int .i64 E3.u, .slice s3 E3.sk.length sc3, .slice m3 E3.mv.length mc3] 44 (0, 0)) := block_at _ (by rw [World.size_alloc, World.size_alloc])
  obtain ⟨i0, hi, hz0, hz1, hz2⟩ := info_parts info_str
  have HB : Hid (Below w.heap.size w (((w.alloc (.cells #[.string E1.id, .string E1.ti, .int .i64 E1.st, .int .i64 E1.lg, .string E1.f, .int .i64 E1.e, .slice r1 E1.ds.length rc1, .int .i64 E1.c, .int .i64 E1.u, .slice s1 E1.sk.length sc1, .slice m1 E1.mv.length mc1] 44)).alloc (.cells #[.string E2.id, .string E2.ti, .int .i64 E2.st, .int .i64 E2.lg, .string E2.f, .int .i64 E2.e, .slice r2 E2.ds.length rc2, .int .i64 E2.c, .int .i64 E2.u, .slice s2 E2.sk.length sc2, .slice m2 E2.mv.length mc2] 44)).alloc (.cells #[.string E3.id, .string E3.ti, .int .i64 E3.st, .int .i64 E3.lg, .string E3.f, .int .i64 E3.e, .slice r3 E3.ds.length rc3, .int .i64 E3.c, .int .i64 E3.u, .slice s3 E3.sk.length sc3, .slice m3 E3.mv.length mc3] 44))) := hB
  have HK1 : Hid (_) := K1
  have HK2 : Hid (_) := K2
  have HK3 : Hid (_) := K3
  clear hB K1 K2 K3 JF
  go_enter Tryz.func42, Tryz.ntmps42
  go_upto_region 1 with (fail)
  generalize ((w.alloc (.cells #[.string E1.id, .string E1.ti, .int .i64 E1.st, .int .i64 E1.lg, .string E1.f, .int .i64 E1.e, .slice r1 E1.ds.length rc1, .int .i64 E1.c, .int .i64 E1.u, .slice s1 E1.sk.length sc1, .slice m1 E1.mv.length mc1] 44)).alloc (.cells #[.string E2.id, .string E2.ti, .int .i64 E2.st, .int .i64 E2.lg, .string E2.f, .int .i64 E2.e, .slice r2 E2.ds.length rc2, .int .i64 E2.c, .int .i64 E2.u, .slice s2 E2.sk.length sc2, .slice m2 E2.mv.length mc2] 44)).alloc (.cells #[.string E3.id, .string E3.ti, .int .i64 E3.st, .int .i64 E3.lg, .string E3.f, .int .i64 E3.e, .slice r3 E3.ds.length rc3, .int .i64 E3.c, .int .i64 E3.u, .slice s3 E3.sk.length sc3, .slice m3 E3.mv.length mc3] 44) = w0 at HB HK1 HK2 HK3 ⊢
  generalize w.heap.size + 1 + 1 = B3 at HK3 ⊢
  generalize w.heap.size + 1 = B2 at HK2 ⊢
  have BX1 : Hid (∀ W, Below w0.heap.size w0 W → _) := fun W h => blk11 ((h.block _ (Array.getElem?_eq_some_iff.1 HK1.out).1).trans HK1.out)
  have BX2 : Hid (∀ W, Below w0.heap.size w0 W → _) := fun W h => blk11 ((h.block _ (Array.getElem?_eq_some_iff.1 HK2.out).1).trans HK2.out)
  have BX3 : Hid (∀ W, Below w0.heap.size w0 W → _) := fun W h => blk11 ((h.block _ (Array.getElem?_eq_some_iff.1 HK3.out).1).trans HK3.out)
  have x0 := (BX1.out w0 (Below.refl _ _)).1
  clear HK1 HK2 HK3
  go_upto_region 3 with (fail)
  clear x0
  have T1 : Hid (TwoR w0.heap.size (w0.heap.size + 1) ((w0.alloc (.cells #[.string E1.id] 9)).alloc fldO) (.slice (some ⟨w0.heap.size, 0, none⟩) 1 1) (.slice none 0 0) (jTs E1 E2 E3 0) (jCs E1 E2 E3 0)) := by
    have hb1 : ((w0.alloc (.cells #[.string E1.id] 9)).alloc fldO).heap[w0.heap.size]? = some (.cells #[.string E1.id] 9 (0, 0)) := block_alloc _ (block_at _ rfl)
    refine ⟨⟨rfl, .inr ⟨w0.heap.size, 1, _, rfl, Nat.le_refl _, hb1, Nat.le_refl _, by decide, rfl, rfl⟩⟩, World.ownsRow_nil _ _ _ _, (fun b _ q => by cases q), (fun q => ?_), (fun q => by cases q), by rw [World.size_alloc, World.size_alloc]; omega, fun i hi => ?_⟩
    · simp [Value.ownBlock] at q
    · have := fld_cell (w0.alloc (.cells #[.string E1.id] 9)) i hi
      rwa [World.size_alloc] at this
  have HB1 : Hid (Below w0.heap.size w0 ((w0.alloc (.cells #[.string E1.id] 9)).alloc fldO)) := below_then (below_alloc _ _) (below_alloc _ _)
  have hs1 : (w0.alloc (.cells #[.string E1.id] 9)).heap.size = w0.heap.size + 1 := World.size_alloc _ _
  go_wp2_with (go_at_call 65; refine (fields_any _).mono ?_; rintro r w' ⟨rfl, rfl⟩)
  generalize (w0.alloc (.cells #[.string E1.id] 9)).alloc fldO = w1 at T1 HB1 ⊢
  generalize w0.heap.size + 1 = nf at T1 ⊢
  clear hs1
  go_loopw [8, 9, 11, 12, 13, 19] (fun pv cv _ _ _ i wr => ∃ m : Nat, m ≤ 6 ∧ i = .int .i64 m ∧ Hid (Below w0.heap.size w0 wr) ∧ Hid (TwoR w0.heap.size nf wr pv cv (jTs E1 E2 E3 m) (jCs E1 E2 E3 m))) (fun _ _ _ _ _ i _ => 6 - (intOf i).toNat)
  case atStart => exact ⟨0, Nat.zero_le _, rfl, HB1.out, T1.out⟩
  case round =>
    obtain ⟨m, hm, rfl, HB2, HT⟩ := hrel
    by_cases hlt : m < 6
    · have hc1 := HT.out.fs m hlt
      have hcall := JF'.out m hlt wr (below_then HB.out HB2.out)
      obtain ⟨a0, a1, a2, a3, a4, a5, a6, a7, a8, a9, a10⟩ := BX1.out wr HB2.out
      obtain ⟨b0, b1, b2, b3, b4, b5, b6, b7, b8, b9, b10⟩ := BX2.out wr HB2.out
      obtain ⟨d0, d1, d2, d3, d4, d5, d6, d7, d8, d9, d10⟩ := BX3.out wr HB2.out
      have hpl : (jTs E1 E2 E3 m).length = m + 1 := jTs_len _ _ _ _
      have hcl : (jCs E1 E2 E3 m).length ≤ m := jCs_len _ _ _ _
      have HTS : Hid (jTs E1 E2 E3 (m + 1) = jTs E1 E2 E3 m ++ [(jF E1 E2 E3 m).1]) := jTs_succ _ _ _ _
      have HCY : Hid ((jF E1 E2 E3 m).2 = true → jCs E1 E2 E3 (m + 1) = jCs E1 E2 E3 m) := jCs_yes
      have HCN : Hid ((jF E1 E2 E3 m).2 = false → jCs E1 E2 E3 (m + 1) = jCs E1 E2 E3 m ++ [fldB m]) := jCs_no
      have HCL : Hid (Calls _ _ _ _ _) := hcall
      have hzw : w0.heap.size ≤ wr.heap.size := HB2.out.size
      clear hcall JF'
      generalize jTs E1 E2 E3 m = ps at HT hpl HTS
      generalize jCs E1 E2 E3 m = cs at HT hcl HCY HCN
      generalize jF E1 E2 E3 m = jf at HCL HTS HCY HCN
      obtain ⟨jt, jk⟩ := jf
      dsimp only at HCL HTS HCY HCN
      generalize fldB m = fb at hc1 HCL HCN
      obtain ⟨pa, pc, rfl⟩ := own_form HT.out.p
      obtain ⟨ca, cc, rfl⟩ := own_form HT.out.c
      have HPL : Hid (ps.length = m + 1) := hpl
      clear hpl
      go_upto_region 7 with (go_at_call 68; refine Calls.mono HCL.out ?_; rintro r w2 ⟨rfl, hb2⟩)
      have HT2 : Hid (TwoR w0.heap.size nf w2 (.slice pa ps.length pc) (.slice ca cs.length cc) ps cs) := HT.out.step hb2
      have HB3 : Hid (Below w0.heap.size w0 w2) := below_then HB2.out hb2
      have hz2w : w0.heap.size ≤ w2.heap.size := HB3.out.size
      clear a0 a1 a2 a3 a4 a5 a6 a7 a8 a9 a10 b0 b1 b2 b3 b4 b5 b6 b7 b8 b9 b10 d0 d1 d2 d3 d4 d5 d6 d7 d8 d9 d10 HCL HT HB2 hb2 hc1
      cases jk with
      | true =>
        have HC' : Hid (jCs E1 E2 E3 (m + 1) = cs) := HCY.out rfl
        have NC : Hid (_) := word_cell w2 jt
        have HT3 : Hid (TwoR w0.heap.size nf (w2.alloc (.cells #[.string jt] 9)) (.slice pa ps.length pc) (.slice ca cs.length cc) ps cs) := HT2.out.step (below_alloc _ _)
        clear HCY HCN HT2
        go_upto_region 10 with (first
          | (at_builtin; refine wpList_append_own_at _ rfl _ _ 37 rfl w0.heap.size 9 i0 (.string ⟨#[]⟩) 1 16 Tryz.underlying37 hi hz0 hz1 hz2 rfl (by decide) _ _ _ rfl HT3.out.p ⟨w2.heap.size, 0, none⟩ 1 1 [.string jt] rfl rfl NC.out (fun v hv => by rw [List.mem_singleton.1 hv]; rfl) (by have := HPL.out; unfold maxLen; omega) (by have := HPL.out; omega) (by rw [World.size_alloc]; omega) ?_; intro v' w3 hown' hgrow _ hat; have HT4 : Hid (TwoR w0.heap.size nf w3 v' (.slice ca cs.length cc) (ps ++ [jt]) cs) := HT3.out.addP hown' hgrow hat; have HB4 : Hid (Below w0.heap.size w0 w3) := (below_then HB3.out (below_alloc w2 (.cells #[.string jt] 9))).grown hgrow (by rw [World.size_alloc]; omega) (fun k q => (World.ownsRow.lt HT3.out.p k q).1); obtain ⟨g', cap', rfl⟩ := ownsRow_succ hown'; clear hown' hgrow hat)
          | go_in)
        clear HT3 NC HB3
        go_wp2
        go_roundw
        case rel => exact ⟨m + 1, by omega, by go_num, HB4.out, by rw [HTS.out, HC'.out]; exact HT4.out⟩
        case measure => simp [intOf]; omega
      | false =>
        have HC' : Hid (jCs E1 E2 E3 (m + 1) = cs ++ [fb]) := HCN.out rfl
        have NC : Hid (_) := word_cell w2 fb
        have HT3 : Hid (TwoR w0.heap.size nf (w2.alloc (.cells #[.string fb] 9)) (.slice pa ps.length pc) (.slice ca cs.length cc) ps cs) := HT2.out.step (below_alloc _ _)
        clear HCY HCN HT2
        go_upto_region 9 with (first
          | (at_builtin; refine wpList_append_own_at _ rfl _ _ 37 rfl w0.heap.size 9 i0 (.string ⟨#[]⟩) 1 16 Tryz.underlying37 hi hz0 hz1 hz2 rfl (by decide) _ _ _ rfl HT3.out.c ⟨w2.heap.size, 0, none⟩ 1 1 [.string fb] rfl rfl NC.out (fun v hv => by rw [List.mem_singleton.1 hv]; rfl) (by unfold maxLen; omega) (by omega) (by rw [World.size_alloc]; omega) ?_; intro v' w3 hown' hgrow _ hat; have HT4 : Hid (TwoR w0.heap.size nf w3 (.slice pa ps.length pc) v' ps (cs ++ [fb])) := HT3.out.addC hown' hgrow hat; have HB4 : Hid (Below w0.heap.size w0 w3) := (below_then HB3.out (below_alloc w2 (.cells #[.string fb] 9))).grown hgrow (by rw [World.size_alloc]; omega) (fun k q => (World.ownsRow.lt HT3.out.c k q).1); obtain ⟨g', cap', rfl⟩ := ownsRow_succ hown'; clear hown' hgrow hat)
          | go_in)
        have NC' : Hid (_) := word_cell w3 jt
        have HT5 : Hid (TwoR w0.heap.size nf (w3.alloc (.cells #[.string jt] 9)) (.slice pa ps.length pc) (.slice (some ⟨g', 0, none⟩) (cs.length + 1) cap') ps (cs ++ [fb])) := HT4.out.step (below_alloc _ _)
        have hz3w : w0.heap.size ≤ w3.heap.size := HB4.out.size
        clear HT3 NC HB3 HT4
        go_upto_region 10 with (first
          | (at_builtin; refine wpList_append_own_at _ rfl _ _ 37 rfl w0.heap.size 9 i0 (.string ⟨#[]⟩) 1 16 Tryz.underlying37 hi hz0 hz1 hz2 rfl (by decide) _ _ _ rfl HT5.out.p ⟨w3.heap.size, 0, none⟩ 1 1 [.string jt] rfl rfl NC'.out (fun v hv => by rw [List.mem_singleton.1 hv]; rfl) (by have := HPL.out; unfold maxLen; omega) (by have := HPL.out; omega) (by rw [World.size_alloc]; omega) ?_; intro v' w4 hown' hgrow _ hat; have HT6 : Hid (TwoR w0.heap.size nf w4 v' (.slice (some ⟨g', 0, none⟩) (cs.length + 1) cap') (ps ++ [jt]) (cs ++ [fb])) := HT5.out.addP hown' hgrow hat; have HB5 : Hid (Below w0.heap.size w0 w4) := (below_then HB4.out (below_alloc w3 (.cells #[.string jt] 9))).grown hgrow (by rw [World.size_alloc]; omega) (fun k q => (World.ownsRow.lt HT5.out.p k q).1); obtain ⟨g2, cap2, rfl⟩ := ownsRow_succ hown'; clear hown' hgrow hat)
          | go_in)
        clear HT5 NC' HB4
        go_wp2
        go_roundw
        case rel => exact ⟨m + 1, by omega, by go_num, HB5.out, by rw [HTS.out, HC'.out]; exact HT6.out⟩
        case measure => simp [intOf]; omega
    · have h6 : m = 6 := by omega
      subst h6
      have hpl : (jTs E1 E2 E3 6).length = 7 := jTs_len _ _ _ _
      have hcl : (jCs E1 E2 E3 6).length ≤ 6 := jCs_len _ _ _ _
      have HPL : Hid (_) := hpl
      clear JF' BX1 BX2 BX3 hpl T1 HB1
      obtain ⟨ps, hps⟩ : ∃ ps, jTs E1 E2 E3 6 = ps := ⟨_, rfl⟩
      obtain ⟨cs, hcs⟩ : ∃ cs, jCs E1 E2 E3 6 = cs := ⟨_, rfl⟩
      rw [hps] at HT HPL HLEN
      rw [hcs] at HT hcl
      have HPS : Hid (jTs E1 E2 E3 6 = ps) := hps
      have HCS : Hid (jCs E1 E2 E3 6 = cs) := hcs
      clear hps hcs
      obtain ⟨pa, pc, rfl⟩ := own_form HT.out.p
      have JN : Hid (Calls Tryz.prog 67 #[.slice pa ps.length pc, .string ⟨#[124]⟩] wr fun r w' => r = .returned (.string (bs (Lib.join (ps.map fun b => b.data.toList) [124]))) ∧ Below wr.heap.size wr w') := by
        have ho : wr.ownsRow w0.heap.size 9 1 (.slice pa ps.length pc) (ps.map fun b => b.data.toList).length ((ps.map fun b => b.data.toList).map sv) := by
          rw [List.length_map, List.map_map]
          exact HT.out.p
        exact join_any (.slice pa ps.length pc) w0.heap.size (ps.map fun b => b.data.toList) [124] wr (fun q => by have := HPL.out; rw [List.map_eq_nil_iff] at q; rw [q] at this; cases this) ho (by rw [List.length_map, HPL.out]; decide) HLEN.out
      obtain ⟨ca, cc, rfl⟩ := own_form HT.out.c
      by_cases hc0 : cs = []
      · subst hc0
        clear HT
        dsimp only [List.length_nil]
        go_wp2_with (go_at_call 67; refine Calls.mono JN.out ?_; rintro r w5 ⟨rfl, hb5⟩)
        go_ret2
        exact ⟨below_then HB.out (below_then HB2.out hb5), .inl ⟨HCS.out, by rw [HPS.out]; rfl⟩⟩
      · have hcp : 0 < cs.length := List.length_pos_iff.2 hc0
        have HC0 : Hid (cs ≠ []) := hc0
        clear hc0 JN
        go_wp2
        go_ret2
        exact ⟨below_then HB.out HB2.out, .inr ⟨by rw [HCS.out]; exact HC0.out, _, rfl, by rw [HCS.out]; exact own_base HT.out.c HB.out.size⟩⟩
end Go.Proofs.YtekminpoiokgfaaGreatDoor

/- How long a joined event's text is. -/
namespace Go.Proofs.YtekminpoiokgfaaGreatDoor
open Go Go.RowKit Go.Maps Go.Sort Cal

/-- the moves that were joined are of one of two ways, and no more than both have -/
theorem jMv_len (l1 l2 l3 : List (Int × Int)) : ((jMv l1 l2 l3).getD []).length ≤ l2.length + l3.length := by
  cases hq : jMv l1 l2 l3 with
  | none => simp
  | some q =>
    obtain ⟨_, a2⟩ := jMv_in l1 l2 l3 (fun _ => True) (fun _ _ => trivial) (fun _ _ => trivial) _ [] q (fun m hm => trivial) hq
    refine Nat.le_trans a2 ?_
    have := ris_len (l2.map Prod.fst) (l3.map Prod.fst)
    simp only [List.length_map] at this
    simpa using this
theorem jSk_len (l1 l2 l3 : List Int) : (jSk l1 l2 l3).length ≤ l2.length + l3.length := Nat.le_trans (List.length_filter_le _ _) (ris_len _ _)
theorem bs_len (l : List UInt8) : (bs l).data.toList.length = l.length := rfl
theorem jF_len {E1 E2 E3 : EV} (h2 : EW E2) (h3 : EW E3) (d2 : E2.ds.length ≤ 20) (d3 : E3.ds.length ≤ 20) (k : Nat) : (jF E1 E2 E3 k).1.data.toList.length ≤ 1000 := by
  obtain ⟨k2, m2, _⟩ := lk_of h2.ls
  obtain ⟨k3, m3, _⟩ := lk_of h3.ls
  unfold jF
  cases hz : one3 (bs (fT E1 k)) (bs (fT E2 k)) (bs (fT E3 k)) with
  | some t =>
    dsimp only
    rcases one3_in hz with rfl | rfl
    · rw [bs_len]; exact fT_len h2 d2 k
    · rw [bs_len]; exact fT_len h3 d3 k
  | none =>
    dsimp only
    split
    · rw [bs_len]
      have := joinLen ((jSk E1.sk E2.sk E3.sk).map dtx) [44] 10 (fun y hy => by obtain ⟨x, _, rfl⟩ := List.mem_map.1 hy; exact dtx_len x)
      rw [List.length_map] at this
      have h31 : (jSk E1.sk E2.sk E3.sk).length * (10 + [(44 : UInt8)].length) ≤ 40 * 11 := Nat.mul_le_mul (Nat.le_trans (jSk_len _ _ _) (by omega)) (by simp)
      omega
    · split
      · rw [bs_len]
        have := joinLen (((jMv E1.mv E2.mv E3.mv).getD []).map mtx) [44] 21 (fun y hy => by obtain ⟨x, _, rfl⟩ := List.mem_map.1 hy; exact mtx_len x)
        rw [List.length_map] at this
        have h31 : ((jMv E1.mv E2.mv E3.mv).getD []).length * (21 + [(44 : UInt8)].length) ≤ 40 * 22 := Nat.mul_le_mul (Nat.le_trans (jMv_len _ _ _) (by omega)) (by simp)
        omega
      · exact Nat.zero_le _
/-- the joined text is short enough for strings.Join -/
theorem jTs_short {E1 E2 E3 : EV} (h1 : EW E1) (h2 : EW E2) (h3 : EW E3) (d2 : E2.ds.length ≤ 20) (d3 : E3.ds.length ≤ 20) : (Lib.join ((jTs E1 E2 E3 6).map fun b => b.data.toList) [124]).length ≤ 10000 := by
  have := joinLen ((jTs E1 E2 E3 6).map fun b => b.data.toList) [124] 1000 (fun y hy => by
    obtain ⟨b, hb, rfl⟩ := List.mem_map.1 hy
    unfold jTs at hb
    rcases List.mem_cons.1 hb with rfl | hb
    · have := h1.id.2.2; rw [Array.length_toList]; have e : E1.id.data.size = E1.id.size := rfl; omega
    · obtain ⟨k, _, rfl⟩ := List.mem_map.1 hb
      exact jF_len h2 h3 d2 d3 k)
  rw [List.length_map, jTs_len] at this
  exact Nat.le_trans this (by simp)
end Go.Proofs.YtekminpoiokgfaaGreatDoor
