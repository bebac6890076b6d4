/- Package book's On. -/
import Derived.Test.YtpdcjnkgkpbdgaaGreatDoorPaC
import Derived.Test.YtpdcjnkgkpbdgaaGreatDoorPaD
import Derived.Test.YtpdcjnkgkpbdgaaGreatDoorPbM
import Derived.Stop.Asserts
import Derived.BigQuiet
import Derived.Deep.DeepCutAuto
import Derived.Test.YtpdcjnkgkpbdgaaGreatDoorPdA
namespace Go.Proofs.YtpdcjnkgkpbdgaaGreatDoor
open Go Go.RowKit Go.Maps Cal
attribute [local go_sem] Oper.semAt_some

theorem look1_eq {bb n : Nat} {mo : Option Nat} {D : DataW Value} {W : World} (h : Bok W bb mo n D) {id : ByteArray} (hid : id.size ≤ 1000) {u : Value} (hat : D.atKey (key id) (.held zV) = .held u) :
    (Instr.lookup 102 (.map mo) (.string id) false).run Tryz.prog W = .ok u W := by
  cases mo with
  | none =>
    have hD : D = .map [] := h.2
    subst hD
    have hu : zV = u := by
      have : (DataW.held zV : DataW Value) = .held u := hat
      cases this; rfl
    rw [← hu]
    exact Maps.look_nil false law Tryz.underlying102 (zeroE W) (key_of hid)
  | some mb =>
    obtain ⟨es, clock, hb, F, _, rfl⟩ := h.2.2
    rcases Maps.fit_look false law Tryz.underlying102 (zeroE W) hb F (key_of hid) with ⟨hrun, _, hq⟩ | ⟨e0, y, _, _, hrun, hRv, hq, _⟩
    · rw [hq] at hat
      have hu : zV = u := by cases hat; rfl
      rw [← hu]
      exact hrun
    · rw [hq] at hat
      have h1 := hld_inv hRv
      rw [hat] at h1
      have hu : e0.val = u := by cases h1; rfl
      rw [← hu]
      exact hrun

/-- a list of texts that a call gave -/
def RowV (base : Nat) (W : World) (v : Value) (l : List ByteArray) : Prop :=
  (v = .slice none 0 0 ∧ l = []) ∨ ∃ B cap, v = .slice (some ⟨B, 0, none⟩) l.length cap ∧ base ≤ B ∧ RowS W B cap l
theorem rowV_own {base : Nat} {W : World} {v : Value} {n : Nat} {xs : List (List UInt8)} (h : W.ownsRow base 9 1 v n (xs.map encStr)) : RowV base W v (xs.map bs) := by
  have hn : xs.length = n := by have := h.1; simpa using this
  rcases h.2 with ⟨rfl, h0⟩ | ⟨B, cap, cur, rfl, hb, hg, hcap, hmax, hsz, htake⟩
  · refine .inl ⟨rfl, ?_⟩
    rw [List.length_eq_zero_iff.1 (hn.trans h0)]; rfl
  · refine .inr ⟨B, cap, by rw [List.length_map, hn], hb, ⟨cur, hg, by omega, fun j hj => ?_⟩, by rw [List.length_map]; omega⟩
    rw [List.length_map] at hj
    have e := congrArg (fun z : List Value => z[j]?) htake
    simp only [List.getElem?_take, List.getElem?_map, Array.getElem?_toList] at e
    rw [if_pos (by omega), List.getElem?_eq_getElem hj] at e
    rw [e, List.getElem_map]; rfl
end Go.Proofs.YtpdcjnkgkpbdgaaGreatDoor

/- Package book's On. -/
namespace Go.Proofs.YtpdcjnkgkpbdgaaGreatDoor
open Go Go.RowKit Go.Maps Go.Sort Cal
attribute [local go_sem] Oper.semAt_some

theorem cell_of {W : World} {n : Nat} {v : Value} {t : TypeId} (h : W.heap[n]? = some (.cells #[v] t (0, 0))) : W.cell? ⟨n, 0, none⟩ = some v := by simp [World.cell?, h]

theorem RowV.base {a b : Nat} {W : World} {v : Value} {l : List ByteArray} (h : RowV b W v l) (hab : a ≤ b) : RowV a W v l := by
  rcases h with h | ⟨B, cap, h1, h2, h3⟩
  · exact .inl h
  · exact .inr ⟨B, cap, h1, Nat.le_trans hab h2, h3⟩

end Go.Proofs.YtpdcjnkgkpbdgaaGreatDoor

/- The document's IsInTexts and SameTexts. -/
namespace Go.Proofs.YtpdcjnkgkpbdgaaGreatDoor
open Go Go.RowKit Go.Maps Go.Sort Cal
attribute [local go_sem] Oper.semAt_some

/-- a list of texts, to be read -/
def Txs (W : World) (v : Value) (l : List ByteArray) : Prop :=
  ∃ (a : Option Addr) (c : Nat), v = .slice a l.length c ∧ l.length ≤ 80000 ∧ l.length ≤ c ∧
    ∀ (j : Nat) (h : j < l.length), ∃ b : Nat, a = some ⟨b, 0, none⟩ ∧ b < W.heap.size ∧ W.cell? ⟨b, j, none⟩ = some (.string l[j])
theorem Txs.step {w w' : World} {sl : Value} {xs : List ByteArray} (h : Txs w sl xs) (hb : Below w.heap.size w w') : Txs w' sl xs := by
  obtain ⟨a, c, h1, h2, h3, h4⟩ := h
  refine ⟨a, c, h1, h2, h3, fun j hj => ?_⟩
  obtain ⟨b, e, hl, hc⟩ := h4 j hj
  exact ⟨b, e, Nat.lt_of_lt_of_le hl hb.size, (hb.cell (p := ⟨b, j, none⟩) hl).trans hc⟩
theorem RowV.txs {base : Nat} {W : World} {v : Value} {l : List ByteArray} (h : RowV base W v l) (h8 : l.length ≤ 80000) : Txs W v l := by
  rcases h with ⟨rfl, rfl⟩ | ⟨B, cap, rfl, _, h3⟩
  · exact ⟨none, 0, rfl, by simp, by simp, fun j h => absurd h (by simp)⟩
  · exact ⟨_, cap, rfl, h8, h3.le, fun j hj => ⟨B, rfl, h3.lt, h3.cell j hj⟩⟩

theorem txt_ne {x y : ByteArray} (h : y ≠ x) : (y.toList == x.toList) = false := by
  rw [beq_eq_false_iff_ne, ByteArray.toList_eq, ByteArray.toList_eq]
  intro e
  apply h
  cases x; cases y
  simpa [Array.toList_inj] using e

set_option maxHeartbeats 1000000 in
/-- the law's small: an event that is once -/
theorem small_any (x : ByteArray) (d : Int) (w : World) : Calls Tryz.prog 67 #[.string x, .int .i64 d] w fun r w' => r = .returned (ev ⟨x, ⟨#[]⟩, d, 1, ⟨#[111, 110, 99, 101]⟩, 1, [], 0, -1, [], []⟩ (.slice none 0 0) (.slice none 0 0) (.slice none 0 0)) ∧ Below w.heap.size w w' := by
  unfold ev
  go_enter Tryz.func67, Tryz.ntmps67
  go_wp2
  have n10 := block_at (W := w) (.cells #[.string x, .string ⟨#[]⟩, .int .i64 d, .int .i64 1, .string ⟨#[111, 110, 99, 101]⟩, .int .i64 1, .slice none 0 0, .int .i64 0, .int .i64 (-1), .slice none 0 0, .slice none 0 0] 37) rfl
  obtain ⟨c0, c1, c2, c3, c4, c5, c6, c7, c8, c9, c10⟩ := blk11 n10
  refine bodyPost_ret (v := .agg #[.string x, .string ⟨#[]⟩, .int .i64 d, .int .i64 1, .string ⟨#[111, 110, 99, 101]⟩, .int .i64 1, .slice none 0 0, .int .i64 0, .int .i64 (-1), .slice none 0 0, .slice none 0 0]) (by simp [results, Tryz.f67, go_sem, c0, c1, c2, c3, c4, c5, c6, c7, c8, c9, c10]) rfl ⟨rfl, below_alloc _ _⟩
end Go.Proofs.YtpdcjnkgkpbdgaaGreatDoor

/- The law's booked: the closed calendar. -/
namespace Go.Proofs.YtpdcjnkgkpbdgaaGreatDoor
open Go Go.RowKit Go.Maps Go.Sort Cal
attribute [local go_sem] Oper.semAt_some

def E7 : EV := ⟨⟨#[97]⟩, ⟨#[]⟩, 7, 1, ⟨#[111, 110, 99, 101]⟩, 1, [], 0, -1, [], []⟩
theorem E7_well : EW E7 := by
  refine ⟨⟨fun j h => ?_, by decide, by decide⟩, ⟨fun j h => ?_, by decide⟩, ⟨by decide, by decide⟩, E0_rule, by decide⟩
  · have h' : j < 1 := h
    match j, h' with
    | 0, _ => show okc 97; left; decide
  · exact absurd h (Nat.not_lt_zero _)
def Z0 : EV := ⟨⟨#[]⟩, ⟨#[]⟩, 0, 0, ⟨#[]⟩, 0, [], 0, 0, [], []⟩
theorem E7_k : EvK E7 0 := by
  obtain ⟨k, hk⟩ := evK_ex E7
  have := (evK_0 hk).2 E7_well
  rwa [this] at hk
theorem kept_from {w W w' : World} {bb : Nat} {mo : Option Nat} (hb : Below w.heap.size w W) (h : Kept W w' bb mo) : Kept w w' bb mo :=
  ⟨h.os.trans hb.os, h.tape.trans hb.tape, h.output.trans hb.output, Nat.le_trans hb.size h.size, fun k hk h1 h2 => (h.block k (Nat.lt_of_lt_of_le hk hb.size) h1 h2).trans (hb.block k hk)⟩
theorem nilLs (w : World) : Ls w E7 (.slice none 0 0) (.slice none 0 0) (.slice none 0 0) := ⟨Days.nil _ _, Ints.nil _ _, Movs.nil _ _⟩
end Go.Proofs.YtpdcjnkgkpbdgaaGreatDoor

/- The law's booked. -/
namespace Go.Proofs.YtpdcjnkgkpbdgaaGreatDoor
open Go Go.RowKit Go.Maps Go.Sort Cal
attribute [local go_sem] Oper.semAt_some

end Go.Proofs.YtpdcjnkgkpbdgaaGreatDoor
