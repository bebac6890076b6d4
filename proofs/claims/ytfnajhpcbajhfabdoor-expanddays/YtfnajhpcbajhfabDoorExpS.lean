/- Package expand's In where the rule or the start is not well. -/
import Derived.Test.YtfnajhpcbajhfabDoorExpIn
import Derived.Test.YtfnajhpcbajhfabDoorExpQ
namespace Go.Proofs.YtfnajhpcbajhfabDoor
open Go Go.RowKit Go.Shelf Cal
attribute [local go_sem] Oper.semAt_some

theorem in_bad (f : ByteArray) (e : Int) (sl : Value) (c u : Int) (ds : List Int) (st fr0 to0 : Int) (p : Addr) (w : World) (hd : Days w sl ds)
    (CK0 : ∀ W, Below w.heap.size w W → Calls Tryd.prog 20 #[.int .i64 st, rv f e sl c u] W fun r w' => r = .returned (.iface 103 (.pointer (some p))) ∧ Below W.heap.size W w') :
    Calls Tryd.prog 9 #[.int .i64 st, rv f e sl c u, .int .i64 fr0, .int .i64 to0] w fun r w' => r = .returned (.tuple #[.slice none 0 0, .iface 103 (.pointer (some p))]) ∧ Below w.heap.size w w' := by
  obtain ⟨hpz, hpb, hpr, hp1, hp2, hp3, hp4⟩ := pw_all w f e sl c u fr0 to0
  have CK : Hid (_) := CK0 _ hpb
  obtain ⟨ad, cap, rfl, _, _, _⟩ := id hd
  have PB : Hid (_) := hpb
  have P5 : Hid (_) := hpz
  have P3 : Hid (_) := hp3
  have P4 : Hid (_) := hp4
  obtain ⟨x0, x1, x2, x3, x4⟩ := blk5 hpr
  clear CK0 hd hpz hpb hpr hp1 hp2 hp3 hp4
  unfold PW at CK x0 x1 x2 x3 x4
  unfold rv at CK ⊢
  refine (callsIn_wide (n := 40)).1 ?_
  refine callsIn_of_wp_marks Tryd.func9 rfl trivial ?_ rfl
  simp only [Tryd.ntmps9, List.size_toArray, List.length_cons, List.length_nil, Nat.reduceAdd, Nat.reduceSub, Array.replicate_succ, Array.replicate_zero, List.push_toArray, List.append_toArray, List.nil_append, List.cons_append]
  gi_wp2_with (refine ⟨trivial, ?_⟩; gi_at_call 20; refine (callsIn_wide.2 CK.out).mono ?_; rintro r z ⟨rfl, hbz⟩; change Below (PW w f e (.slice ad ds.length cap) c u fr0 to0).heap.size (PW w f e (.slice ad ds.length cap) c u fr0 to0) z at hbz; have q3 : Boxed z (w.heap.size + 3) 22 (.slice none 0 0) := (hbz.block _ (by rw [P5.out]; omega)).trans P3.out; have q4 : Boxed z (w.heap.size + 4) 29 .nilIface := (hbz.block _ (by rw [P5.out]; omega)).trans P4.out; have c3 := Boxed.cell q3; have f3 := Boxed.frozen q3; have c4 := Boxed.cell (Boxed.other q4 (show w.heap.size + 4 ≠ w.heap.size + 3 by omega) (.slice none 0 0)); have f4 := Boxed.frozen (Boxed.other q4 (show w.heap.size + 4 ≠ w.heap.size + 3 by omega) (.slice none 0 0)); have Q3 : Hid (Boxed z (w.heap.size + 3) 22 (.slice none 0 0)) := q3; have Q4 : Hid (Boxed z (w.heap.size + 4) 29 .nilIface) := q4; clear q3 q4)
  have j3 := Boxed.cell (Boxed.other (Boxed.set (.slice none 0 0) Q3.out) (show w.heap.size + 3 ≠ w.heap.size + 4 by omega) (.iface 103 (.pointer (some p))))
  have j4 := Boxed.cell (Boxed.set (.iface 103 (.pointer (some p))) (Boxed.other Q4.out (show w.heap.size + 4 ≠ w.heap.size + 3 by omega) (.slice none 0 0)))
  have hb2 := below_then PB.out hbz
  have hb3 := (hb2.setCell (p := ⟨w.heap.size + 3, 0, none⟩) (by show _ ≤ w.heap.size + 3; omega) (.slice none 0 0)).setCell (p := ⟨w.heap.size + 4, 0, none⟩) (by show _ ≤ w.heap.size + 4; omega) (.iface 103 (.pointer (some p)))
  refine ⟨.tuple #[.slice none 0 0, .iface 103 (.pointer (some p))], ?_, rfl, hb3⟩
  simp [results, Tryd.f9, go_sem, j3, j4]

end Go.Proofs.YtfnajhpcbajhfabDoor
