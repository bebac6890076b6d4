/- Package merge's put: of no text, and of the text of an event that is well. -/
import Derived.Test.YtekminpoiokgfaaGreatDoorYbA
import Derived.Test.YtekminpoiokgfaaGreatDoorYaU
namespace Go.Proofs.YtekminpoiokgfaaGreatDoor
open Go Go.RowKit Go.Maps Go.Sort Cal
attribute [local go_sem] Oper.semAt_some

theorem mgPut_nil (bb : Nat) (w : World) : Calls Tryz.prog 22 #[.pointer (some ⟨bb, 0, none⟩), .string ⟨#[]⟩] w fun r w' => r = .returned .nilIface ∧ w' = w := by
  go_enter Tryz.func22, Tryz.ntmps22
  go_wp2
  go_ret
  exact ⟨rfl, rfl⟩

theorem bs_some {l : List UInt8} (h : l ≠ []) : ((bs l).toList == []) = false := by
  rw [ByteArray.toList_eq]
  cases l with
  | nil => exact absurd rfl h
  | cons a r => rfl

set_option maxHeartbeats 2000000 in
set_option maxRecDepth 100000 in
theorem mgPut_well (lo bb n : Nat) (mo : Option Nat) (C : List EV) (E : EV) (s : Nat → Addr) (w : World) (gk : GlobK s w) (g : GlobR w) (h : BookAt lo w bb mo n C) (hn : n ≤ 90000) (hE : EW E) (h20 : E.ds.length ≤ 20) (hne : eT E ≠ []) :
    Calls Tryz.prog 22 #[.pointer (some ⟨bb, 0, none⟩), .string (bs (eT E))] w fun r w' =>
      (((¬ ∃ F ∈ C, F.id = E.id) ∧ 60 ≤ C.length) ∧ r = .returned (.iface 250 (.pointer (some (s 6)))) ∧ Below w.heap.size w w') ∨ (¬ ((¬ ∃ F ∈ C, F.id = E.id) ∧ 60 ≤ C.length) ∧ r = .returned .nilIface ∧ ∃ w1, Below w.heap.size w w1 ∧ PutTo lo w1 w' bb mo n (putC E C)) := by
  have RE : Hid (Calls _ _ _ _ _) := eread_any E s w gk g hE h20
  have PC : Hid (∀ (sl skv mvv : Value) (W : World), Below w.heap.size w W → Ls W E sl skv mvv → Calls Tryz.prog 14 #[.pointer (some ⟨bb, 0, none⟩), ev E sl skv mvv] W fun r w' => (((¬ ∃ F ∈ C, F.id = E.id) ∧ 60 ≤ C.length) ∧ r = .returned (.iface 250 (.pointer (some (s 6)))) ∧ Below W.heap.size W w') ∨ (¬ ((¬ ∃ F ∈ C, F.id = E.id) ∧ 60 ≤ C.length) ∧ r = .returned .nilIface ∧ PutTo lo W w' bb mo n (putC E C))) := fun sl skv mvv W hW hL => by
    refine (put_C lo bb n mo C E sl skv mvv 0 s W (gk.step hW) (h.step hW) hn (by have := hE.id.2.2; omega) (by have := hE.ti.2; omega) hL (by obtain ⟨k, hk⟩ := evK_ex E; have := (evK_0 hk).2 hE; subst this; exact hk)).mono ?_
    rintro r w' (⟨q, _⟩ | ⟨_, q1, q2, q3⟩ | ⟨_, q1, q2, q3⟩)
    · exact absurd rfl q
    · exact .inl ⟨q1, q2, q3⟩
    · exact .inr ⟨q1, q2, q3⟩
  have e0 : ((bs (eT E)).toList == []) = false := bs_some hne
  generalize bs (eT E) = tx at RE e0 ⊢
  clear h gk g hne
  go_enter Tryz.func22, Tryz.ntmps22
  go_wp2_with fail
  go_at_call 43
  refine Calls.mono RE.out ?_
  rintro r w1 ⟨sl, skv, mvv, rfl, hL, hb1⟩
  have hLc := hL
  obtain ⟨ld, ls, lm⟩ := hLc
  obtain ⟨r1, rc1, rfl, _⟩ := ld
  obtain ⟨s1, sc1, rfl, _⟩ := ls
  obtain ⟨m1, mc1, rfl, _⟩ := lm
  have HB1 : Hid (Below w.heap.size w (w1.alloc (.cells #[.string E.id, .string E.ti, .int .i64 E.st, .int .i64 E.lg, .string E.f, .int .i64 E.e, .slice r1 E.ds.length rc1, .int .i64 E.c, .int .i64 E.u, .slice s1 E.sk.length sc1, .slice m1 E.mv.length mc1] 44))) := below_then hb1 (below_alloc _ _)
  have PP := PC.out _ _ _ _ HB1.out (hL.step (below_alloc _ _))
  have KB : Hid ((w1.alloc (.cells #[.string E.id, .string E.ti, .int .i64 E.st, .int .i64 E.lg, .string E.f, .int .i64 E.e, .slice r1 E.ds.length rc1, .int .i64 E.c, .int .i64 E.u, .slice s1 E.sk.length sc1, .slice m1 E.mv.length mc1] 44)).heap[w1.heap.size]? = some (.cells #[.string E.id, .string E.ti, .int .i64 E.st, .int .i64 E.lg, .string E.f, .int .i64 E.e, .slice r1 E.ds.length rc1, .int .i64 E.c, .int .i64 E.u, .slice s1 E.sk.length sc1, .slice m1 E.mv.length mc1] 44 (0, 0))) := block_at _ rfl
  unfold ev at PP ⊢
  have HPP : Hid (Calls _ _ _ _ _) := PP
  clear PP PC RE hL hb1 e0
  go_upto_region 4 with (fail)
  generalize w1.alloc (.cells #[.string E.id, .string E.ti, .int .i64 E.st, .int .i64 E.lg, .string E.f, .int .i64 E.e, .slice r1 E.ds.length rc1, .int .i64 E.c, .int .i64 E.u, .slice s1 E.sk.length sc1, .slice m1 E.mv.length mc1] 44) = w2 at *
  generalize w1.heap.size = c1 at *
  obtain ⟨x0, x1, x2, x3, x4, x5, x6, x7, x8, x9, x10⟩ := blk11 KB.out
  go_wp2_with (go_at_call 14; refine Calls.mono HPP.out ?_; rintro r w3 (⟨q1, rfl, q3⟩ | ⟨q1, rfl, q3⟩))
  · go_ret
    exact .inl ⟨q1, rfl, below_then HB1.out q3⟩
  · go_ret
    exact .inr ⟨q1, rfl, _, HB1.out, q3⟩
end Go.Proofs.YtekminpoiokgfaaGreatDoor

/- The two ways may change places. -/
namespace Go.Proofs.YtekminpoiokgfaaGreatDoor
open Go Go.RowKit Go.Maps Go.Sort Cal

theorem ris_sorted (a b : List Int) : ((a ++ b).mergeSort fun x y => decide (x ≤ y)).Pairwise (· ≤ ·) := by
  have := List.pairwise_mergeSort (le := fun (x y : Int) => decide (x ≤ y)) (fun a b c h1 h2 => decide_eq_true (Int.le_trans (of_decide_eq_true h1) (of_decide_eq_true h2))) (fun a b => by
    rcases Int.le_total a b with q | q
    · rw [decide_eq_true q]; rfl
    · rw [decide_eq_true q, Bool.or_true]) (a ++ b)
  exact this.imp (fun h => of_decide_eq_true h)
theorem sort_swap (a b : List Int) : ((a ++ b).mergeSort fun x y => decide (x ≤ y)) = (b ++ a).mergeSort fun x y => decide (x ≤ y) := by
  refine List.Perm.eq_of_pairwise (le := fun (x y : Int) => x ≤ y) (fun x y _ _ h1 h2 => Int.le_antisymm h1 h2) (ris_sorted a b) (ris_sorted b a) ?_
  exact ((List.mergeSort_perm _ _).trans List.perm_append_comm).trans (List.mergeSort_perm _ _).symm
theorem ris_swap (a b : List Int) : ris a b = ris b a := by
  unfold ris
  rw [sort_swap]
theorem gone_swap (l1 l2 l3 : List Int) : gone l1 l2 l3 = gone l1 l3 l2 := by
  funext d
  unfold gone
  rw [one3_swap]
theorem jSk_swap (l1 l2 l3 : List Int) : jSk l1 l2 l3 = jSk l1 l3 l2 := by
  unfold jSk
  rw [ris_swap, gone_swap]
theorem jSt_swap (l1 l2 l3 : List (Int × Int)) : jSt l1 l2 l3 = jSt l1 l3 l2 := by
  funext acc f
  unfold jSt
  rw [one3_swap]
theorem jMv_swap (l1 l2 l3 : List (Int × Int)) : jMv l1 l2 l3 = jMv l1 l3 l2 := by
  unfold jMv
  rw [ris_swap, jSt_swap]
theorem jF_swap (E1 E2 E3 : EV) (k : Nat) : jF E1 E2 E3 k = jF E1 E3 E2 k := by
  unfold jF
  rw [one3_swap, jSk_swap, jMv_swap]
theorem jTs_swap (E1 E2 E3 : EV) (m : Nat) : jTs E1 E2 E3 m = jTs E1 E3 E2 m := by
  unfold jTs
  have : (fun k => (jF E1 E2 E3 k).1) = fun k => (jF E1 E3 E2 k).1 := funext fun k => by rw [jF_swap]
  rw [this]
theorem jCs_swap (E1 E2 E3 : EV) (m : Nat) : jCs E1 E2 E3 m = jCs E1 E3 E2 m := by
  unfold jCs
  have : (fun k => !(jF E1 E2 E3 k).2) = fun k => !(jF E1 E3 E2 k).2 := funext fun k => by rw [jF_swap]
  rw [this]
end Go.Proofs.YtekminpoiokgfaaGreatDoor
