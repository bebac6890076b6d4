/- strings.Split, strings.Cut and package event's itemsOf, at one sign. -/
import Derived.Test.YtckdjamdpellaaaGreatDoorBkM
import Derived.Test.YtckdjamdpellaaaGreatDoorJoinW
import Derived.Test.YtckdjamdpellaaaGreatDoorSplit
import Derived.BigRegion
namespace Go.Proofs.YtckdjamdpellaaaGreatDoor
open Go Go.RowKit Go.Shelf Cal
attribute [local go_sem] Oper.semAt_some

/-- the row of a text's pieces -/
def pcO (ws : List (List UInt8)) : Obj := .cells (ws.map sv).toArray 9
/-- words in memory -/
def Wds (W : World) (v : Value) (ws : List (List UInt8)) : Prop :=
  ∃ (a : Option Addr) (c : Nat), v = .slice a ws.length c ∧ ws.length ≤ c ∧ ∀ (j : Nat) (h : j < ws.length), ∃ b, a = some ⟨b, 0, none⟩ ∧ b < W.heap.size ∧ W.cell? ⟨b, j, none⟩ = some (sv ws[j])
theorem Wds.step {W W' : World} {v : Value} {ws : List (List UInt8)} (h : Wds W v ws) (hb : Below W.heap.size W W') : Wds W' v ws := by
  obtain ⟨a, c, h1, h2, h3⟩ := h
  refine ⟨a, c, h1, h2, fun j hj => ?_⟩
  obtain ⟨b, e, hl, hc⟩ := h3 j hj
  exact ⟨b, e, Nat.lt_of_lt_of_le hl hb.size, cell_step hc hb⟩
theorem Wds.nil (W : World) (c : Nat) : Wds W (.slice none 0 c) [] := ⟨none, c, rfl, by simp, fun j h => absurd h (by simp)⟩
theorem Wds.new (w : World) (ws : List (List UInt8)) : Wds (w.alloc (pcO ws)) (.slice (some ⟨w.heap.size, 0, none⟩) ws.length ws.length) ws := by
  refine ⟨_, _, rfl, Nat.le_refl _, fun j hj => ⟨w.heap.size, rfl, by rw [World.size_alloc]; exact Nat.lt_succ_self _, ?_⟩⟩
  unfold pcO
  rw [World.cell?_alloc_new]
  simp [List.getElem?_eq_getElem hj]

theorem genSplit_any (s : ByteArray) (c : UInt8) (w : World) (hs : s.size ≤ 1000000) :
    Calls Tryz.prog 53 #[.string s, .string ⟨#[c]⟩, .int .i64 0, .int .i64 (-1)] w fun r w' =>
      r = .returned (.slice (some ⟨w.heap.size, 0, none⟩) (pieces c s.data.toList).length (pieces c s.data.toList).length) ∧ w' = w.alloc (pcO (pieces c s.data.toList)) := by
  have h1 : 1 ≤ ByteArray.size ⟨#[c]⟩ := Nat.le_refl 1
  have hle := Lib.countB_le ⟨#[c]⟩ h1 s.size s (Nat.le_refl _)
  have hlen := Lib.splitB_all ⟨#[c]⟩ h1 0 _ s rfl
  have hp := splitB_one c _ s rfl
  have k := Any.strings_genSplit_core Tryz.lays221 (by kernel_rfl) s ⟨#[c]⟩ 0 (-1) (Lib.countB s ⟨#[c]⟩ + 1) w (by omega) h1 (Nat.zero_le _)
    (fun x cs _ => (Tryz.strings_Index_one x c _).mono (fun e w' h => ⟨by rw [h.1]; exact congrArg (fun n => Ending.returned (.int .i64 n)) (Lib.index_one x.data.toList c).symm, h.2⟩))
    ((Tryz.strings_Count_one s c w).mono (fun e w' h => ⟨by rw [h.1]; exact congrArg (fun n : Nat => Ending.returned (.int .i64 (n : Int))) (Lib.count_one c s.data.toList).symm, h.2⟩))
    (by decide) (by decide) (by rw [if_pos (by decide)]; omega)
  rw [Nat.add_sub_cancel, hlen] at k
  have e1 : (pieces c s.data.toList).length = Lib.countB s ⟨#[c]⟩ + 1 := by rw [← hp, List.length_map, hlen]
  have e2 : Lib.cellsOf (Lib.splitB ⟨#[c]⟩ 0 (Lib.countB s ⟨#[c]⟩) s) (Lib.countB s ⟨#[c]⟩ + 1) = ((pieces c s.data.toList).map sv).toArray := by
    rw [← hlen, Lib.cellsOf_full, ← hp, List.map_map]
    rfl
  rw [e2] at k
  unfold pcO
  rw [e1]
  exact k

theorem split_any (s : ByteArray) (c : UInt8) (w : World) (hs : s.size ≤ 1000000) :
    Calls Tryz.prog 36 #[.string s, .string ⟨#[c]⟩] w fun r w' =>
      r = .returned (.slice (some ⟨w.heap.size, 0, none⟩) (pieces c s.data.toList).length (pieces c s.data.toList).length) ∧ w' = w.alloc (pcO (pieces c s.data.toList)) := by
  have G : Hid (_) := genSplit_any s c w hs
  generalize pieces c s.data.toList = ws at G ⊢
  go_enter Tryz.func36, Tryz.ntmps36
  go_wp2_with (go_at_call 53; refine Calls.mono G.out ?_; rintro r w' ⟨rfl, rfl⟩)
  go_ret
  exact ⟨rfl, rfl⟩

set_option maxHeartbeats 1000000 in
theorem slCut_any (m : Int × Int) (w : World) :
    Calls Tryz.prog 52 #[.string (bs (mtx m)), .string ⟨#[62]⟩] w fun r w' => r = .returned (.tuple #[.string (bs (dtx m.1)), .string (bs (dtx m.2)), .bool true]) ∧ Below w.heap.size w w' := by
  have hi := mtx_index m
  have hlen : (bs (mtx m)).size = (dtx m.1).length + (1 + (dtx m.2).length) := by show (mtx m).toArray.size = _; unfold mtx; simp; omega
  have hl1 := dtx_len m.1
  have e1 : (bs (mtx m)).extract 0 (dtx m.1).length = bs (dtx m.1) := ba_ext (by rw [Lib.extract_from_zero, bs_data, bs_data]; unfold mtx; simp)
  have e2 : (bs (mtx m)).extract ((dtx m.1).length + 1) (bs (mtx m)).size = bs (dtx m.2) := ba_ext (by rw [Lib.extract_to_end, bs_data, bs_data]; unfold mtx; simp)
  have I : Hid (∀ W, Calls Tryz.prog 75 #[.string (bs (mtx m)), .string ⟨#[62]⟩] W fun r w' => r = .returned (.int .i64 (dtx m.1).length) ∧ w' = W) := fun W => by
    have := Tryz.stringslite_Index_one (bs (mtx m)) 62 W
    rw [bs_data, hi] at this
    exact this
  generalize bs (mtx m) = s at hlen e1 e2 I ⊢
  generalize bs (dtx m.1) = s1 at e1 ⊢
  generalize bs (dtx m.2) = s2 at e2 ⊢
  generalize (dtx m.1).length = i at hlen hl1 e1 e2 I
  generalize (dtx m.2).length = j at hlen
  have c1 : (0 : Int) ≤ (i : Int) := by omega
  have c2 : (i : Int) ≤ (s.size : Int) := by omega
  have c3 : (0 : Int) ≤ (i : Int) + 1 := by omega
  have c4 : (i : Int) + 1 ≤ (s.size : Int) := by omega
  have E1 : Hid (_) := e1
  have E2 : Hid (_) := e2
  clear e1 e2 hi hlen
  go_enter Tryz.func52, Tryz.ntmps52
  go_wp2_with (go_at_call 75; refine Calls.mono (I.out _) ?_; rintro r w' ⟨rfl, rfl⟩)
  go_region
  go_wp2
  go_ret3
  refine ⟨?_, drew_below _⟩
  simp
  exact ⟨E1.out, E2.out⟩
theorem cut_any (m : Int × Int) (w : World) :
    Calls Tryz.prog 35 #[.string (bs (mtx m)), .string ⟨#[62]⟩] w fun r w' => r = .returned (.tuple #[.string (bs (dtx m.1)), .string (bs (dtx m.2)), .bool true]) ∧ Below w.heap.size w w' := by
  have C : Hid (_) := slCut_any m w
  generalize bs (mtx m) = s at C ⊢
  generalize bs (dtx m.1) = s1 at C ⊢
  generalize bs (dtx m.2) = s2 at C ⊢
  go_enter Tryz.func35, Tryz.ntmps35
  go_wp2_with (go_at_call 52; refine Calls.mono C.out ?_; rintro r w' ⟨rfl, hb⟩)
  go_ret3
  exact ⟨rfl, hb⟩
end Go.Proofs.YtckdjamdpellaaaGreatDoor
