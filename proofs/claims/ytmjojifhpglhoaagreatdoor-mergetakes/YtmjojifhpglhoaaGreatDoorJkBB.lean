/- Package merge's put: of no text, and of the text of an event that is well. -/
import Derived.Test.YtmjojifhpglhoaaGreatDoorJkBA
import Derived.Test.YtmjojifhpglhoaaGreatDoorJkAU
namespace Go.Proofs.YtmjojifhpglhoaaGreatDoor
open Go Go.RowKit Go.Maps Go.Sort Cal
attribute [local go_sem] Oper.semAt_some

theorem mgPut_nil (bb : Nat) (w : World) : Calls Tryz.prog 26 #[.pointer (some ⟨bb, 0, none⟩), .string ⟨#[]⟩] w fun r w' => r = .returned .nilIface ∧ w' = w := by
  go_enter Tryz.func26, Tryz.ntmps26
  go_wp2
  go_ret
  exact ⟨rfl, rfl⟩

theorem bs_some {l : List UInt8} (h : l ≠ []) : ((bs l).toList == []) = false := by
  rw [ByteArray.toList_eq]
  cases l with
  | nil => exact absurd rfl h
  | cons a r => rfl

set_option maxHeartbeats 2000000 in
set_option maxRecDepth 100000 in
theorem mgPut_well (lo bb n : Nat) (mo : Option Nat) (C : List EV) (E : EV) (s : Nat → Addr) (w : World) (gk : GlobK s w) (g : GlobR w) (h : BookAt lo w bb mo n C) (hn : n ≤ 90000) (hE : EW E) (h20 : E.ds.length ≤ 20) (hne : eT E ≠ []) :
    Calls Tryz.prog 26 #[.pointer (some ⟨bb, 0, none⟩), .string (bs (eT E))] w fun r w' =>
      (((¬ ∃ F ∈ C, F.id = E.id) ∧ 60 ≤ C.length) ∧ r = .returned (.iface 273 (.pointer (some (s 6)))) ∧ Below w.heap.size w w') ∨ (¬ ((¬ ∃ F ∈ C, F.id = E.id) ∧ 60 ≤ C.length) ∧ r = .returned .nilIface ∧ ∃ w1, Below w.heap.size w w1 ∧ PutTo lo w1 w' bb mo n (putC E C)) := by
  have RE : Hid (Calls _ _ _ _ _) := eread_any E s w gk g hE h20
  have PC : Hid (∀ (sl skv mvv : Value) (W : World), Below w.heap.size w W → Ls W E sl skv mvv → Calls Tryz.prog 18 #[.pointer (some ⟨bb, 0, none⟩), ev E sl skv mvv] W fun r w' => (((¬ ∃ F ∈ C, F.id = E.id) ∧ 60 ≤ C.length) ∧ r = .returned (.iface 273 (.pointer (some (s 6)))) ∧ Below W.heap.size W w') ∨ (¬ ((¬ ∃ F ∈ C, F.id = E.id) ∧ 60 ≤ C.length) ∧ r = .returned .nilIface ∧ PutTo lo W w' bb mo n (putC E C))) := fun sl skv mvv W hW hL => by
    refine (put_C lo bb n mo C E sl skv mvv 0 s W (gk.step hW) (h.step hW) hn (by have := hE.id.2.2; omega) (by have := hE.ti.2; omega) hL (by obtain ⟨k, hk⟩ := evK_ex E; have := (evK_0 hk).2 hE; subst this; exact hk)).mono ?_
    rintro r w' (⟨q, _⟩ | ⟨_, q1, q2, q3⟩ | ⟨_, q1, q2, q3⟩)
    · exact absurd rfl q
    · exact .inl ⟨q1, q2, q3⟩
    · exact .inr ⟨q1, q2, q3⟩
  have e0 : ((bs (eT E)).toList == []) = false := bs_some hne
  generalize bs (eT E) = tx at RE e0 ⊢
  clear h gk g hne
  go_enter Tryz.func26, Tryz.ntmps26
  go_wp2_with fail
  go_at_call 54
  refine Calls.mono RE.out ?_
  rintro r w1 ⟨sl, skv, mvv, rfl, hL, hb1⟩
  have hLc := hL
  obtain ⟨ld, ls, lm⟩ := hLc
  obtain ⟨r1, rc1, rfl, _⟩ := ld
  obtain ⟨s1, sc1, rfl, _⟩ := ls
  obtain ⟨m1, mc1, rfl, _⟩ := lm
  have HB1 : Hid (Below w.heap.size w (w1.alloc (.cells #[.string E.id, .string E.ti, .int .i64 E.st, .int .i64 E.lg, .string E.f, .int .i64 E.e, .slice r1 E.ds.length rc1, .int .i64 E.c, .int .i64 E.u, .slice s1 E.sk.length sc1, .slice m1 E.mv.length mc1] 49))) := below_then hb1 (below_alloc _ _)
  have PP := PC.out _ _ _ _ HB1.out (hL.step (below_alloc _ _))
  have KB : Hid ((w1.alloc (.cells #[.string E.id, .string E.ti, .int .i64 E.st, .int .i64 E.lg, .string E.f, .int .i64 E.e, .slice r1 E.ds.length rc1, .int .i64 E.c, .int .i64 E.u, .slice s1 E.sk.length sc1, .slice m1 E.mv.length mc1] 49)).heap[w1.heap.size]? = some (.cells #[.string E.id, .string E.ti, .int .i64 E.st, .int .i64 E.lg, .string E.f, .int .i64 E.e, .slice r1 E.ds.length rc1, .int .i64 E.c, .int .i64 E.u, .slice s1 E.sk.length sc1, .slice m1 E.mv.length mc1] 49 (0, 0))) := block_at _ rfl
  unfold ev at PP ⊢
  have HPP : Hid (Calls _ _ _ _ _) := PP
  clear PP PC RE hL hb1 e0
  go_upto_region 4 with (fail)
  generalize w1.alloc (.cells #[.string E.id, .string E.ti, .int .i64 E.st, .int .i64 E.lg, .string E.f, .int .i64 E.e, .slice r1 E.ds.length rc1, .int .i64 E.c, .int .i64 E.u, .slice s1 E.sk.length sc1, .slice m1 E.mv.length mc1] 49) = w2 at *
  generalize w1.heap.size = c1 at *
  obtain ⟨x0, x1, x2, x3, x4, x5, x6, x7, x8, x9, x10⟩ := blk11 KB.out
  go_wp2_with (go_at_call 18; refine Calls.mono HPP.out ?_; rintro r w3 (⟨q1, rfl, q3⟩ | ⟨q1, rfl, q3⟩))
  · go_ret
    exact .inl ⟨q1, rfl, below_then HB1.out q3⟩
  · go_ret
    exact .inr ⟨q1, rfl, _, HB1.out, q3⟩
end Go.Proofs.YtmjojifhpglhoaaGreatDoor

/- The two ways may change places. -/
namespace Go.Proofs.YtmjojifhpglhoaaGreatDoor
open Go Go.RowKit Go.Maps Go.Sort Cal

end Go.Proofs.YtmjojifhpglhoaaGreatDoor
