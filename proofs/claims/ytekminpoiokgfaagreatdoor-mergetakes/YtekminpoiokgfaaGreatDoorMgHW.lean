/- Package merge's joinField: one field of an event that all three have (written by wip/gen/mkMgH.py). -/
import Derived.Test.YtekminpoiokgfaaGreatDoorYaS
import Derived.Test.YtekminpoiokgfaaGreatDoorYaH
import Derived.Test.YtekminpoiokgfaaGreatDoorYaU
namespace Go.Proofs.YtekminpoiokgfaaGreatDoor
open Go Go.RowKit Go.Maps Go.Sort Cal
attribute [local go_sem] Oper.semAt_some

theorem ris_mem (a b : List Int) (x : Int) : x ∈ ris a b → x ∈ a ∨ x ∈ b := by
  intro h
  unfold ris Go.Lib.compact Go.Lib.compactUpTo at h
  obtain ⟨i, hi, rfl⟩ := List.mem_map.1 h
  have hlt : i < ((a ++ b).mergeSort fun x y => decide (x ≤ y)).length := by
    have := List.mem_range.1 (List.mem_filter.1 hi).1
    simpa using this
  have hm : (((a ++ b).mergeSort fun x y => decide (x ≤ y)).toArray[i]!) ∈ (a ++ b).mergeSort fun x y => decide (x ≤ y) := by
    have e : ((a ++ b).mergeSort fun x y => decide (x ≤ y)).toArray[i]! = ((a ++ b).mergeSort fun x y => decide (x ≤ y))[i] := by rw [getElem!_pos _ i (by simpa using hlt)]; simp
    rw [e]; exact List.getElem_mem hlt
  exact List.mem_append.1 (List.mem_mergeSort.1 hm)
theorem gl_from (f t : Int) : ∀ (ms : List (Int × Int)) (a : Int × Bool), ms.foldl (fun g m => if m.1 = f then (m.2, true) else g) a = (t, true) → a = (t, true) ∨ (f, t) ∈ ms
  | [], a, h => .inl h
  | m :: r, a, h => by
    rw [List.foldl_cons] at h
    rcases gl_from f t r _ h with q | q
    · by_cases e : m.1 = f
      · rw [if_pos e] at q
        injection q with q1 _
        refine .inr (List.mem_cons.2 (.inl ?_))
        rw [← e, ← q1]
      · rw [if_neg e] at q
        exact .inl q
    · exact .inr (List.mem_cons_of_mem _ q)
theorem gl_mem (f t : Int) (ms : List (Int × Int)) (h : gl ms f = (t, true)) : (f, t) ∈ ms := by
  rcases gl_from f t ms _ h with q | q
  · cases q
  · exact q
/-- what of three is one of them, or of both -/
theorem one3_in {α : Type} [DecidableEq α] {b x y z : α} (h : one3 b x y = some z) : z = x ∨ z = y := by
  unfold one3 at h
  split at h
  · exact .inl (Option.some.inj h).symm
  · split at h
    · exact .inr (Option.some.inj h).symm
    · cases h
theorem jMv_in (l1 l2 l3 : List (Int × Int)) (P : Int × Int → Prop) (h2 : ∀ m ∈ l2, P m) (h3 : ∀ m ∈ l3, P m) : ∀ (F : List Int) (o q : List (Int × Int)), (∀ m ∈ o, P m) → F.foldl (jSt l1 l2 l3) (some o) = some q → (∀ m ∈ q, P m) ∧ q.length ≤ o.length + F.length
  | [], o, q, ho, h => by
    have e : o = q := Option.some.inj h
    subst e
    exact ⟨ho, Nat.le_refl _⟩
  | f :: r, o, q, ho, h => by
    rw [List.foldl_cons] at h
    cases hz : one3 (gl l1 f) (gl l2 f) (gl l3 f) with
    | none =>
      have e : jSt l1 l2 l3 (some o) f = none := by unfold jSt; simp [hz]
      rw [e, jSt_none] at h
      cases h
    | some p =>
      obtain ⟨t, k⟩ := p
      have e : jSt l1 l2 l3 (some o) f = some (if k then o ++ [(f, t)] else o) := by unfold jSt; simp [hz]
      rw [e] at h
      cases k with
      | false =>
        obtain ⟨a1, a2⟩ := jMv_in l1 l2 l3 P h2 h3 r o q ho h
        exact ⟨a1, by simp; omega⟩
      | true =>
        have hP : P (f, t) := by
          rcases one3_in hz with q | q
          · exact h2 _ (gl_mem f t l2 q.symm)
          · exact h3 _ (gl_mem f t l3 q.symm)
        obtain ⟨a1, a2⟩ := jMv_in l1 l2 l3 P h2 h3 r (o ++ [(f, t)]) q (fun m hm => by
          rcases List.mem_append.1 hm with z | z
          · exact ho m z
          · rw [List.mem_singleton.1 z]; exact hP) h
        exact ⟨a1, by simp at a2 ⊢; omega⟩

/-- what a field of three becomes: its text, and whether it is one -/
noncomputable def jF (E1 E2 E3 : EV) (k : Nat) : ByteArray × Bool :=
  match one3 (bs (fT E1 k)) (bs (fT E2 k)) (bs (fT E3 k)) with
  | some t => (t, true)
  | none => if k = 4 then (bs (Lib.join ((jSk E1.sk E2.sk E3.sk).map dtx) [44]), true) else if k = 5 then (bs (Lib.join (((jMv E1.mv E2.mv E3.mv).getD []).map mtx) [44]), (jMv E1.mv E2.mv E3.mv).isSome) else (⟨#[]⟩, false)
theorem fld_sk (k : Nat) (hk : k < 6) : ((fldB k).toList == [115, 107, 105, 112, 115]) = decide (k = 4) := by
  have h := fld_eq 4 k (by omega) hk
  rw [show (fldB 4).toList = [115, 107, 105, 112, 115] from by unfold fldB; rw [ByteArray.toList_eq]; rfl] at h
  rw [h]; exact decide_eq_decide.2 ⟨fun q => q.symm, fun q => q.symm⟩
theorem fld_mv (k : Nat) (hk : k < 6) : ((fldB k).toList == [109, 111, 118, 101, 115]) = decide (k = 5) := by
  have h := fld_eq 5 k (by omega) hk
  rw [show (fldB 5).toList = [109, 111, 118, 101, 115] from by unfold fldB; rw [ByteArray.toList_eq]; rfl] at h
  rw [h]; exact decide_eq_decide.2 ⟨fun q => q.symm, fun q => q.symm⟩

set_option maxHeartbeats 8000000 in
set_option maxRecDepth 100000 in
theorem joinField_any (k : Nat) (hk : k < 6) (E1 E2 E3 : EV) (x1 y1 z1 : Value) (x2 y2 z2 : Value) (x3 y3 z3 : Value) (w : World) (g : GlobR w) (L1 : Ls w E1 x1 y1 z1) (L2 : Ls w E2 x2 y2 z2) (L3 : Ls w E3 x3 y3 z3) (W1 : EW E1) (W2 : EW E2) (W3 : EW E3) (G2 : Got w y2 E2.sk) (G3 : Got w y3 E3.sk) :
    Calls Tryz.prog 68 #[.string (fldB k), ev E1 x1 y1 z1, ev E2 x2 y2 z2, ev E3 x3 y3 z3] w fun r w' => r = .returned (.tuple #[.string (jF E1 E2 E3 k).1, .bool (jF E1 E2 E3 k).2]) ∧ Below w.heap.size w w' := by
  obtain ⟨k21, m21, _, _, kd1, md1, _⟩ := lk_of W1.ls
  have C1 : Hid (∀ W, Below w.heap.size w W → Calls Tryz.prog 66 #[ev E1 x1 y1 z1, .string (fldB k)] W fun r w' => r = .returned (.string (bs (fT E1 k))) ∧ Below W.heap.size W w') := fun W hW => get_any E1 x1 y1 z1 k hk W (g.step hW) (L1.d.step hW) (L1.s.step hW) (L1.m.step hW) W1
  obtain ⟨k22, m22, _, _, kd2, md2, _⟩ := lk_of W2.ls
  have C2 : Hid (∀ W, Below w.heap.size w W → Calls Tryz.prog 66 #[ev E2 x2 y2 z2, .string (fldB k)] W fun r w' => r = .returned (.string (bs (fT E2 k))) ∧ Below W.heap.size W w') := fun W hW => get_any E2 x2 y2 z2 k hk W (g.step hW) (L2.d.step hW) (L2.s.step hW) (L2.m.step hW) W2
  obtain ⟨k23, m23, _, _, kd3, md3, _⟩ := lk_of W3.ls
  have C3 : Hid (∀ W, Below w.heap.size w W → Calls Tryz.prog 66 #[ev E3 x3 y3 z3, .string (fldB k)] W fun r w' => r = .returned (.string (bs (fT E3 k))) ∧ Below W.heap.size W w') := fun W hW => get_any E3 x3 y3 z3 k hk W (g.step hW) (L3.d.step hW) (L3.s.step hW) (L3.m.step hW) W3
  have JS : Hid (∀ W, Below w.heap.size w W → Calls Tryz.prog 105 #[y1, y2, y3] W fun r w' => ∃ v', r = .returned v' ∧ Ow W.heap.size w' v' (jSk E1.sk E2.sk E3.sk) ∧ Below W.heap.size W w') := fun W hW => joinSkips_any y1 y2 y3 _ _ _ W (L1.s.step hW) (L2.s.step hW) (L3.s.step hW) (G2.step hW) (G3.step hW) (by omega) (by omega)
  have JM : Hid (∀ W, Below w.heap.size w W → Calls Tryz.prog 106 #[z1, z2, z3] W fun r w' => ∃ v', r = .returned (.tuple #[v', .bool (jMv E1.mv E2.mv E3.mv).isSome]) ∧ OwM W.heap.size w' v' ((jMv E1.mv E2.mv E3.mv).getD []) ∧ Below W.heap.size W w') := fun W hW => joinMoves_any z1 z2 z3 _ _ _ W (L1.m.step hW) (L2.m.step hW) (L3.m.step hW) (fun m hm => (md1 m hm).1) (fun m hm => (md2 m hm).1) (fun m hm => (md3 m hm).1) (by omega) (by omega) (fun f hf => by
    rcases ris_mem _ _ f hf with q | q
    · obtain ⟨m, hm, rfl⟩ := List.mem_map.1 q; exact (md2 m hm).1
    · obtain ⟨m, hm, rfl⟩ := List.mem_map.1 q; exact (md3 m hm).1)
  have SV : Hid ((∀ x ∈ jSk E1.sk E2.sk E3.sk, 0 ≤ x ∧ x ≤ 73048) ∧ (jSk E1.sk E2.sk E3.sk).length ≤ 60) := ⟨fun x hx => by
    rcases ris_mem _ _ x (List.mem_filter.1 hx).1 with q | q
    · exact kd2 x q
    · exact kd3 x q, by
    refine Nat.le_trans (List.length_filter_le _ _) (Nat.le_trans (ris_len _ _) ?_); omega⟩
  have MV : Hid ((∀ m ∈ (jMv E1.mv E2.mv E3.mv).getD [], (0 ≤ m.1 ∧ m.1 ≤ 73048) ∧ 0 ≤ m.2 ∧ m.2 ≤ 73048) ∧ ((jMv E1.mv E2.mv E3.mv).getD []).length ≤ 60) := by
    cases hq : jMv E1.mv E2.mv E3.mv with
    | none => exact ⟨fun m hm => absurd hm (by simp), by simp⟩
    | some q =>
      obtain ⟨a1, a2⟩ := jMv_in E1.mv E2.mv E3.mv _ md2 md3 _ [] q (fun m hm => absurd hm (by simp)) hq
      refine ⟨a1, Nat.le_trans a2 ?_⟩
      have := ris_len (E2.mv.map Prod.fst) (E3.mv.map Prod.fst)
      simp only [List.length_map] at this
      simp only [List.length_nil, Nat.zero_add]
      omega
  have GT : Hid (GlobR w) := g
  have EK : Hid (k < 6) := hk
  obtain ⟨p1, q1, n1⟩ := L1
  obtain ⟨r1, rc1, rfl, p1⟩ := p1
  obtain ⟨s1, sc1, rfl, q1⟩ := q1
  obtain ⟨m1, mc1, rfl, n1⟩ := n1
  clear p1 q1 n1 k21 m21 kd1 md1 W1
  obtain ⟨p2, q2, n2⟩ := L2
  obtain ⟨r2, rc2, rfl, p2⟩ := p2
  obtain ⟨s2, sc2, rfl, q2⟩ := q2
  obtain ⟨m2, mc2, rfl, n2⟩ := n2
  clear p2 q2 n2 k22 m22 kd2 md2 W2
  obtain ⟨p3, q3, n3⟩ := L3
  obtain ⟨r3, rc3, rfl, p3⟩ := p3
  obtain ⟨s3, sc3, rfl, q3⟩ := q3
  obtain ⟨m3, mc3, rfl, n3⟩ := n3
  clear p3 q3 n3 k23 m23 kd3 md3 W3
  clear g G2 G3
  have C1' : Hid (∀ W, Below w.heap.size w W → Calls Tryz.prog 66 #[.agg #[.string E1.id, .string E1.ti, .int .i64 E1.st, .int .i64 E1.lg, .string E1.f, .int .i64 E1.e, .slice r1 E1.ds.length rc1, .int .i64 E1.c, .int .i64 E1.u, .slice s1 E1.sk.length sc1, .slice m1 E1.mv.length mc1], .string (fldB k)] W fun r w' => r = .returned (.string (bs (fT E1 k))) ∧ Below W.heap.size W w') := C1.out
  have C2' : Hid (∀ W, Below w.heap.size w W → Calls Tryz.prog 66 #[.agg #[.string E2.id, .string E2.ti, .int .i64 E2.st, .int .i64 E2.lg, .string E2.f, .int .i64 E2.e, .slice r2 E2.ds.length rc2, .int .i64 E2.c, .int .i64 E2.u, .slice s2 E2.sk.length sc2, .slice m2 E2.mv.length mc2], .string (fldB k)] W fun r w' => r = .returned (.string (bs (fT E2 k))) ∧ Below W.heap.size W w') := C2.out
  have C3' : Hid (∀ W, Below w.heap.size w W → Calls Tryz.prog 66 #[.agg #[.string E3.id, .string E3.ti, .int .i64 E3.st, .int .i64 E3.lg, .string E3.f, .int .i64 E3.e, .slice r3 E3.ds.length rc3, .int .i64 E3.c, .int .i64 E3.u, .slice s3 E3.sk.length sc3, .slice m3 E3.mv.length mc3], .string (fldB k)] W fun r w' => r = .returned (.string (bs (fT E3 k))) ∧ Below W.heap.size W w') := C3.out
  change Calls Tryz.prog 68 #[.string (fldB k), .agg #[.string E1.id, .string E1.ti, .int .i64 E1.st, .int .i64 E1.lg, .string E1.f, .int .i64 E1.e, .slice r1 E1.ds.length rc1, .int .i64 E1.c, .int .i64 E1.u, .slice s1 E1.sk.length sc1, .slice m1 E1.mv.length mc1], .agg #[.string E2.id, .string E2.ti, .int .i64 E2.st, .int .i64 E2.lg, .string E2.f, .int .i64 E2.e, .slice r2 E2.ds.length rc2, .int .i64 E2.c, .int .i64 E2.u, .slice s2 E2.sk.length sc2, .slice m2 E2.mv.length mc2], .agg #[.string E3.id, .string E3.ti, .int .i64 E3.st, .int .i64 E3.lg, .string E3.f, .int .i64 E3.e, .slice r3 E3.ds.length rc3, .int .i64 E3.c, .int .i64 E3.u, .slice s3 E3.sk.length sc3, .slice m3 E3.mv.length mc3]] w _
  have hB : Below w.heap.size w (((w.alloc (.cells #[.string E1.id, .string E1.ti, .int .i64 E1.st, .int .i64 E1.lg, .string E1.f, .int .i64 E1.e, .slice r1 E1.ds.length rc1, .int .i64 E1.c, .int .i64 E1.u, .slice s1 E1.sk.length sc1, .slice m1 E1.mv.length mc1] 44)).alloc (.cells #[.string E2.id, .string E2.ti, .int .i64 E2.st, .int .i64 E2.lg, .string E2.f, .int .i64 E2.e, .slice r2 E2.ds.length rc2, .int .i64 E2.c, .int .i64 E2.u, .slice s2 E2.sk.length sc2, .slice m2 E2.mv.length mc2] 44)).alloc (.cells #[.string E3.id, .string E3.ti, .int .i64 E3.st, .int .i64 E3.lg, .string E3.f, .int .i64 E3.e, .slice r3 E3.ds.length rc3, .int .i64 E3.c, .int .i64 E3.u, .slice s3 E3.sk.length sc3, .slice m3 E3.mv.length mc3] 44)) := below_then (below_then (below_alloc _ _) (below_alloc _ _)) (below_alloc _ _)
  have K1 : (((w.alloc (.cells #[.string E1.id, .string E1.ti, .int .i64 E1.st, .int .i64 E1.lg, .string E1.f, .int .i64 E1.e, .slice r1 E1.ds.length rc1, .int .i64 E1.c, .int .i64 E1.u, .slice s1 E1.sk.length sc1, .slice m1 E1.mv.length mc1] 44)).alloc (.cells #[.string E2.id, .string E2.ti, .int .i64 E2.st, .int .i64 E2.lg, .string E2.f, .int .i64 E2.e, .slice r2 E2.ds.length rc2, .int .i64 E2.c, .int .i64 E2.u, .slice s2 E2.sk.length sc2, .slice m2 E2.mv.length mc2] 44)).alloc (.cells #[.string E3.id, .string E3.ti, .int .i64 E3.st, .int .i64 E3.lg, .string E3.f, .int .i64 E3.e, .slice r3 E3.ds.length rc3, .int .i64 E3.c, .int .i64 E3.u, .slice s3 E3.sk.length sc3, .slice m3 E3.mv.length mc3] 44)).heap[w.heap.size]? = some (.cells #[.string E1.id, .string E1.ti, .int .i64 E1.st, .int .i64 E1.lg, .string E1.f, .int .i64 E1.e, .slice r1 E1.ds.length rc1, .int .i64 E1.c, .int .i64 E1.u, .slice s1 E1.sk.length sc1, .slice m1 E1.mv.length mc1] 44 (0, 0)) := block_alloc _ (block_alloc _ (block_at _ rfl))
  have K2 : (((w.alloc (.cells #[.string E1.id, .string E1.ti, .int .i64 E1.st, .int .i64 E1.lg, .string E1.f, .int .i64 E1.e, .slice r1 E1.ds.length rc1, .int .i64 E1.c, .int .i64 E1.u, .slice s1 E1.sk.length sc1, .slice m1 E1.mv.length mc1] 44)).alloc (.cells #[.string E2.id, .string E2.ti, .int .i64 E2.st, .int .i64 E2.lg, .string E2.f, .int .i64 E2.e, .slice r2 E2.ds.length rc2, .int .i64 E2.c, .int .i64 E2.u, .slice s2 E2.sk.length sc2, .slice m2 E2.mv.length mc2] 44)).alloc (.cells #[.string E3.id, .string E3.ti, .int .i64 E3.st, .int .i64 E3.lg, .string E3.f, .int .i64 E3.e, .slice r3 E3.ds.length rc3, .int .i64 E3.c, .int .i64 E3.u, .slice s3 E3.sk.length sc3, .slice m3 E3.mv.length mc3] 44)).heap[w.heap.size + 1]? = some (.cells #[.string E2.id, .string E2.ti, .int .i64 E2.st, .int .i64 E2.lg, .string E2.f, .int .i64 E2.e, .slice r2 E2.ds.length rc2, .int .i64 E2.c, .int .i64 E2.u, .slice s2 E2.sk.length sc2, .slice m2 E2.mv.length mc2] 44 (0, 0)) := block_alloc _ (block_at _ (World.size_alloc _ _))
  have K3 : (((w.alloc (.cells #[.string E1.id, .string E1.ti, .int .i64 E1.st, .int .i64 E1.lg, .string E1.f, .int .i64 E1.e, .slice r1 E1.ds.length rc1, .int .i64 E1.c, .int .i64 E1.u, .slice s1 E1.sk.length sc1, .slice m1 E1.mv.length mc1] 44)).alloc (.cells #[.string E2.id, .string E2.ti, .int .i64 E2.st, .int .i64 E2.lg, .string E2.f, .int .i64 E2.e, .slice r2 E2.ds.length rc2, .int .i64 E2.c, .int .i64 E2.u, .slice s2 E2.sk.length sc2, .slice m2 E2.mv.length mc2] 44)).alloc (.cells #[.string E3.id, .string E3.ti, .int .i64 E3.st, .int .i64 E3.lg, .string E3.f, .int .i64 E3.e, .slice r3 E3.ds.length rc3, .int .i64 E3.c, .int .i64 E3.u, .slice s3 E3.sk.length sc3, .slice m3 E3.mv.length mc3] 44)).heap[w.heap.size + 1 + 1]? = some (.cells #[.string E3.id, .string E3.ti, .int .i64 E3.st, .int .i64 E3.lg, .string E3.f, .int .i64 E3.e, .slice r3 E3.ds.length rc3, .int .i64 E3.c, .int .i64 E3.u, .slice s3 E3.sk.length sc3, .slice m3 E3.mv.length mc3] 44 (0, 0)) := block_at _ (by rw [World.size_alloc, World.size_alloc])
  have e4 := fld_sk k hk
  have e5 := fld_mv k hk
  have HE4 : Hid (k = 4 → fldB k = fldB 4) := fun q => by rw [q]
  have HE5 : Hid (k = 5 → fldB k = fldB 5) := fun q => by rw [q]
  have OS : Hid (∀ W, Calls Tryz.prog 40 #[.string (bs (fT E1 k)), .string (bs (fT E2 k)), .string (bs (fT E3 k))] W fun r w' => r = .returned (.tuple #[.string ((one3 (bs (fT E1 k)) (bs (fT E2 k)) (bs (fT E3 k))).getD ⟨#[]⟩), .bool (one3 (bs (fT E1 k)) (bs (fT E2 k)) (bs (fT E3 k))).isSome]) ∧ Below W.heap.size W w') := fun W => (oneOfS_any _ _ _ W).mono (by rintro r w' ⟨rfl, rfl⟩; exact ⟨rfl, Below.refl _ _⟩)
  have HJs : Hid (∀ t, one3 (bs (fT E1 k)) (bs (fT E2 k)) (bs (fT E3 k)) = some t → jF E1 E2 E3 k = (t, true)) := fun t q => by unfold jF; rw [q]
  have HJ4 : Hid (one3 (bs (fT E1 k)) (bs (fT E2 k)) (bs (fT E3 k)) = none → k = 4 → jF E1 E2 E3 k = (bs (Lib.join ((jSk E1.sk E2.sk E3.sk).map dtx) [44]), true)) := fun q e => by unfold jF; rw [q]; dsimp only; rw [if_pos e]
  have HJ5 : Hid (one3 (bs (fT E1 k)) (bs (fT E2 k)) (bs (fT E3 k)) = none → k = 5 → jF E1 E2 E3 k = (bs (Lib.join (((jMv E1.mv E2.mv E3.mv).getD []).map mtx) [44]), (jMv E1.mv E2.mv E3.mv).isSome)) := fun q e => by unfold jF; rw [q]; dsimp only; rw [if_neg (by omega), if_pos e]
  have HJn : Hid (one3 (bs (fT E1 k)) (bs (fT E2 k)) (bs (fT E3 k)) = none → k ≠ 4 → k ≠ 5 → jF E1 E2 E3 k = (⟨#[]⟩, false)) := fun q e f => by unfold jF; rw [q]; dsimp only; rw [if_neg e, if_neg f]
  clear C1 C2 C3 hk
  generalize jF E1 E2 E3 k = J at HJs HJ4 HJ5 HJn ⊢
  generalize one3 (bs (fT E1 k)) (bs (fT E2 k)) (bs (fT E3 k)) = z at OS HJs HJ4 HJ5 HJn
  generalize bs (fT E1 k) = t1 at C1' OS
  generalize bs (fT E2 k) = t2 at C2' OS
  generalize bs (fT E3 k) = t3 at C3' OS
  generalize fldB k = fb at C1' C2' C3' e4 e5 HE4 HE5 ⊢
  have HB : Hid (Below w.heap.size w (((w.alloc (.cells #[.string E1.id, .string E1.ti, .int .i64 E1.st, .int .i64 E1.lg, .string E1.f, .int .i64 E1.e, .slice r1 E1.ds.length rc1, .int .i64 E1.c, .int .i64 E1.u, .slice s1 E1.sk.length sc1, .slice m1 E1.mv.length mc1] 44)).alloc (.cells #[.string E2.id, .string E2.ti, .int .i64 E2.st, .int .i64 E2.lg, .string E2.f, .int .i64 E2.e, .slice r2 E2.ds.length rc2, .int .i64 E2.c, .int .i64 E2.u, .slice s2 E2.sk.length sc2, .slice m2 E2.mv.length mc2] 44)).alloc (.cells #[.string E3.id, .string E3.ti, .int .i64 E3.st, .int .i64 E3.lg, .string E3.f, .int .i64 E3.e, .slice r3 E3.ds.length rc3, .int .i64 E3.c, .int .i64 E3.u, .slice s3 E3.sk.length sc3, .slice m3 E3.mv.length mc3] 44))) := hB
  have HK1 : Hid (_) := K1
  have HK2 : Hid (_) := K2
  have HK3 : Hid (_) := K3
  clear hB K1 K2 K3
  obtain ⟨zb, hzb⟩ : ∃ zb, zb = z.getD ⟨#[]⟩ := ⟨_, rfl⟩
  obtain ⟨zs, hzs⟩ : ∃ zs, zs = z.isSome := ⟨_, rfl⟩
  rw [← hzb, ← hzs] at OS
  have HZB : Hid (zb = z.getD ⟨#[]⟩) := hzb
  have HZS : Hid (zs = z.isSome) := hzs
  clear hzb hzs
  go_enter Tryz.func68, Tryz.ntmps68
  go_upto_region 1 with (fail)
  generalize ((w.alloc (.cells #[.string E1.id, .string E1.ti, .int .i64 E1.st, .int .i64 E1.lg, .string E1.f, .int .i64 E1.e, .slice r1 E1.ds.length rc1, .int .i64 E1.c, .int .i64 E1.u, .slice s1 E1.sk.length sc1, .slice m1 E1.mv.length mc1] 44)).alloc (.cells #[.string E2.id, .string E2.ti, .int .i64 E2.st, .int .i64 E2.lg, .string E2.f, .int .i64 E2.e, .slice r2 E2.ds.length rc2, .int .i64 E2.c, .int .i64 E2.u, .slice s2 E2.sk.length sc2, .slice m2 E2.mv.length mc2] 44)).alloc (.cells #[.string E3.id, .string E3.ti, .int .i64 E3.st, .int .i64 E3.lg, .string E3.f, .int .i64 E3.e, .slice r3 E3.ds.length rc3, .int .i64 E3.c, .int .i64 E3.u, .slice s3 E3.sk.length sc3, .slice m3 E3.mv.length mc3] 44) = w0 at HB HK1 HK2 HK3 ⊢
  generalize w.heap.size + 1 + 1 = B3 at HK3 ⊢
  generalize w.heap.size + 1 = B2 at HK2 ⊢
  obtain ⟨u1a, u1b, u1c, u1d, u1e, u1f, u1g, u1h, u1i, u1j, u1k⟩ := blk11 HK1.out
  have U1a := cell_regrown u1a
  have U1b := cell_regrown u1b
  have U1c := cell_regrown u1c
  have U1d := cell_regrown u1d
  have U1e := cell_regrown u1e
  have U1f := cell_regrown u1f
  have U1g := cell_regrown u1g
  have U1h := cell_regrown u1h
  have U1i := cell_regrown u1i
  have U1j := cell_regrown u1j
  have U1k := cell_regrown u1k
  have D1 : Hid (∀ d os, Calls Tryz.prog 66 #[.agg #[.string E1.id, .string E1.ti, .int .i64 E1.st, .int .i64 E1.lg, .string E1.f, .int .i64 E1.e, .slice r1 E1.ds.length rc1, .int .i64 E1.c, .int .i64 E1.u, .slice s1 E1.sk.length sc1, .slice m1 E1.mv.length mc1], .string fb] (grow (redrawn w0 d) os) fun r w'' => r = .returned (.string t1) ∧ ∃ p : Regrown, w'' = grow (redrawn w0 p.d) p.os) := fun d os => Calls.regrown_of (C1'.out _ (below_then HB.out (below_regrown _ _ _)))
  obtain ⟨u2a, u2b, u2c, u2d, u2e, u2f, u2g, u2h, u2i, u2j, u2k⟩ := blk11 HK2.out
  have U2a := cell_regrown u2a
  have U2b := cell_regrown u2b
  have U2c := cell_regrown u2c
  have U2d := cell_regrown u2d
  have U2e := cell_regrown u2e
  have U2f := cell_regrown u2f
  have U2g := cell_regrown u2g
  have U2h := cell_regrown u2h
  have U2i := cell_regrown u2i
  have U2j := cell_regrown u2j
  have U2k := cell_regrown u2k
  have D2 : Hid (∀ d os, Calls Tryz.prog 66 #[.agg #[.string E2.id, .string E2.ti, .int .i64 E2.st, .int .i64 E2.lg, .string E2.f, .int .i64 E2.e, .slice r2 E2.ds.length rc2, .int .i64 E2.c, .int .i64 E2.u, .slice s2 E2.sk.length sc2, .slice m2 E2.mv.length mc2], .string fb] (grow (redrawn w0 d) os) fun r w'' => r = .returned (.string t2) ∧ ∃ p : Regrown, w'' = grow (redrawn w0 p.d) p.os) := fun d os => Calls.regrown_of (C2'.out _ (below_then HB.out (below_regrown _ _ _)))
  obtain ⟨u3a, u3b, u3c, u3d, u3e, u3f, u3g, u3h, u3i, u3j, u3k⟩ := blk11 HK3.out
  have U3a := cell_regrown u3a
  have U3b := cell_regrown u3b
  have U3c := cell_regrown u3c
  have U3d := cell_regrown u3d
  have U3e := cell_regrown u3e
  have U3f := cell_regrown u3f
  have U3g := cell_regrown u3g
  have U3h := cell_regrown u3h
  have U3i := cell_regrown u3i
  have U3j := cell_regrown u3j
  have U3k := cell_regrown u3k
  have D3 : Hid (∀ d os, Calls Tryz.prog 66 #[.agg #[.string E3.id, .string E3.ti, .int .i64 E3.st, .int .i64 E3.lg, .string E3.f, .int .i64 E3.e, .slice r3 E3.ds.length rc3, .int .i64 E3.c, .int .i64 E3.u, .slice s3 E3.sk.length sc3, .slice m3 E3.mv.length mc3], .string fb] (grow (redrawn w0 d) os) fun r w'' => r = .returned (.string t3) ∧ ∃ p : Regrown, w'' = grow (redrawn w0 p.d) p.os) := fun d os => Calls.regrown_of (C3'.out _ (below_then HB.out (below_regrown _ _ _)))
  have DO : Hid (∀ d os, Calls Tryz.prog 40 #[.string t1, .string t2, .string t3] (grow (redrawn w0 d) os) fun r w'' => r = .returned (.tuple #[.string zb, .bool zs]) ∧ ∃ p : Regrown, w'' = grow (redrawn w0 p.d) p.os) := fun d os => Calls.regrown_of (OS.out _)
  refine wp_region_quiet_below (by kernel_rfl) (by kernel_rfl) ?_
  repeat (quiet_step (fail))
  quiet_step ((go_at_call 66; exact D1.out _ _))
  repeat (quiet_step (fail))
  quiet_step ((go_at_call 66; exact D2.out _ _))
  repeat (quiet_step (fail))
  quiet_step ((go_at_call 66; exact D3.out _ _))
  repeat (quiet_step (fail))
  quiet_step ((go_at_call 40; exact DO.out _ _))
  repeat (quiet_step (fail))
  refine wpQuiet_nil ?_
  intro w4 hw'
  have hb4 : Below w0.heap.size w0 w4 := by
    obtain ⟨⟨dq, osq⟩, hw''⟩ := hw'
    subst hw''
    exact below_regrown _ _ _
  clear hw' D1 D2 D3 DO C1' C2' C3' OS
  clear u1a U1a u1b U1b u1c U1c u1d U1d u1e U1e u1f U1f u1g U1g u1h U1h u1i U1i u1j U1j u1k U1k
  clear u2a U2a u2b U2b u2c U2c u2d U2d u2e U2e u2f U2f u2g U2g u2h U2h u2i U2i u2j U2j u2k U2k
  clear u3a U3a u3b U3b u3c U3c u3d U3d u3e U3e u3f U3f u3g U3g u3h U3h u3i U3i u3j U3j u3k U3k
  have HB4 : Hid (Below w.heap.size w w4) := below_then HB.out hb4
  obtain ⟨_, _, _, _, _, _, _, _, _, v1j, v1k⟩ := blk11 ((hb4.block _ (Array.getElem?_eq_some_iff.1 HK1.out).1).trans HK1.out)
  obtain ⟨_, _, _, _, _, _, _, _, _, v2j, v2k⟩ := blk11 ((hb4.block _ (Array.getElem?_eq_some_iff.1 HK2.out).1).trans HK2.out)
  obtain ⟨_, _, _, _, _, _, _, _, _, v3j, v3k⟩ := blk11 ((hb4.block _ (Array.getElem?_eq_some_iff.1 HK3.out).1).trans HK3.out)
  clear hb4 HK1 HK2 HK3 HB
  cases z with
  | some t =>
    have ez : zb = t := HZB.out
    have es : zs = true := HZS.out
    subst ez es
    have HJ : Hid (J = (zb, true)) := HJs.out _ rfl
    clear JS JM SV MV HJs HJ4 HJ5 HJn HZB HZS e4 e5 HE4 HE5
    go_wp2
    go_ret2
    exact ⟨by rw [HJ.out]; rfl, HB4.out⟩
  | none =>
    have ez : zb = ⟨#[]⟩ := HZB.out
    have es : zs = false := HZS.out
    subst ez es
    by_cases h4 : k = 4
    · rw [decide_eq_true h4] at e4
      have HJ : Hid (J = (bs (Lib.join ((jSk E1.sk E2.sk E3.sk).map dtx) [44]), true)) := HJ4.out rfl h4
      have hfb : fb = fldB 4 := HE4.out h4
      have JS4 : Hid (Calls _ _ _ _ _) := JS.out w4 HB4.out
      have HFB : Hid (fb = fldB 4) := hfb
      clear JS JM MV HJs HJ4 HJ5 HJn HZB HZS e5 HE4 HE5 h4 hfb EK
      generalize jSk E1.sk E2.sk E3.sk = R at HJ JS4 SV
      go_upto_region 7 with (go_at_call 105; refine Calls.mono JS4.out ?_; rintro r w5 ⟨v', rfl, ho5, hb5⟩; obtain ⟨va, vc, rfl⟩ := ow_form ho5)
      have HB5 : Hid (Below w.heap.size w w5) := below_then HB4.out hb5
      have GG : Hid (Calls Tryz.prog 66 #[.agg #[.string ⟨#[]⟩, .string ⟨#[]⟩, .int .i64 0, .int .i64 0, .string ⟨#[]⟩, .int .i64 0, .slice none 0 0, .int .i64 0, .int .i64 0, .slice va R.length vc, .slice none 0 0], .string fb] w5 fun r w' => r = .returned (.string (bs (Lib.join (R.map dtx) [44]))) ∧ Below w5.heap.size w5 w') := by
        rw [HFB.out]
        exact get_skips ⟨⟨#[]⟩, ⟨#[]⟩, 0, 0, ⟨#[]⟩, 0, [], 0, 0, [], []⟩ none 0 0 va _ vc none 0 0 _ w5 (fun W hW => listTextI_any R _ dtx W ((ow_ints ho5 (by have := SV.out.2; omega)).step hW) SV.out.2 (fun x _ => by have := dtx_len x; omega) (fun x hx W' hW' => textD_any x W' (SV.out.1 x hx).1 (SV.out.1 x hx).2 ((GT.out.step (below_then HB5.out (below_then hW hW'))).tab)))
      clear ho5 hb5 JS4 v1j v1k v2j v2k v3j v3k e4 SV
      generalize R.length = nR at GG ⊢
      go_wp2_with (go_at_call 66; refine Calls.mono GG.out ?_; rintro r w6 ⟨rfl, hb6⟩)
      go_ret2
      exact ⟨by rw [HJ.out]; rfl, below_then HB5.out hb6⟩
    · rw [decide_eq_false h4] at e4
      by_cases h5 : k = 5
      · rw [decide_eq_true h5] at e5
        have HJ : Hid (J = (bs (Lib.join (((jMv E1.mv E2.mv E3.mv).getD []).map mtx) [44]), (jMv E1.mv E2.mv E3.mv).isSome)) := HJ5.out rfl h5
        have hfb : fb = fldB 5 := HE5.out h5
        have JM4 : Hid (Calls _ _ _ _ _) := JM.out w4 HB4.out
        have HFB : Hid (fb = fldB 5) := hfb
        clear JS JM SV HJs HJ4 HJ5 HJn HZB HZS HE4 HE5 h4 h5 hfb EK
        generalize (jMv E1.mv E2.mv E3.mv).isSome = bS at HJ JM4
        generalize (jMv E1.mv E2.mv E3.mv).getD [] = R at HJ JM4 MV
        go_upto_region 10 with (go_at_call 106; refine Calls.mono JM4.out ?_; rintro r w5 ⟨v', rfl, ho5, hb5⟩; obtain ⟨va, vc, rfl⟩ := gotM_form (owm_movs ho5 (by have := MV.out.2; omega)).2)
        have HB5 : Hid (Below w.heap.size w w5) := below_then HB4.out hb5
        have GG : Hid (Calls Tryz.prog 66 #[.agg #[.string ⟨#[]⟩, .string ⟨#[]⟩, .int .i64 0, .int .i64 0, .string ⟨#[]⟩, .int .i64 0, .slice none 0 0, .int .i64 0, .int .i64 0, .slice none 0 0, .slice va R.length vc], .string fb] w5 fun r w' => r = .returned (.string (bs (Lib.join (R.map mtx) [44]))) ∧ Below w5.heap.size w5 w') := by
          rw [HFB.out]
          exact get_moves ⟨⟨#[]⟩, ⟨#[]⟩, 0, 0, ⟨#[]⟩, 0, [], 0, 0, [], []⟩ none 0 0 none 0 0 va _ vc _ w5 (fun W hW => listTextM_any R _ W ((owm_movs ho5 (by have := MV.out.2; omega)).1.step hW) MV.out.2 MV.out.1 ((GT.out.step (below_then HB5.out hW)).tab))
        clear ho5 hb5 JM4 v1j v1k v2j v2k v3j v3k e4 e5 MV
        generalize R.length = nR at GG ⊢
        go_wp2_with (go_at_call 66; refine Calls.mono GG.out ?_; rintro r w6 ⟨rfl, hb6⟩)
        go_ret2
        exact ⟨by rw [HJ.out]; rfl, below_then HB5.out hb6⟩
      · rw [decide_eq_false h5] at e5
        have HJ : Hid (J = (⟨#[]⟩, false)) := HJn.out rfl h4 h5
        clear JS JM SV MV HJs HJ4 HJ5 HJn HZB HZS HE4 HE5 h4 h5 EK
        go_wp2
        go_ret2
        exact ⟨by rw [HJ.out]; rfl, HB4.out⟩
end Go.Proofs.YtekminpoiokgfaaGreatDoor
