/- Names of commits: the closed fact; the law RefsStay's acts and its lists. -/
import Derived.Test.YtcaeafgkogfgdaaGreatDoorRaAO
import Derived.BigRegion
namespace Go.Proofs.YtcaeafgkogfgdaaGreatDoor
open Go Go.RowKit Go.Maps Go.Sort Go.Shelf Cal
attribute [local go_sem] Oper.semAt_some

theorem rset_ok (w W : World) (lo rb mb n m : Nat) (ns : List ByteArray) (L : ByteArray → List (Int × Int)) (h : RSt w W lo rb mb n ns L m) (s : Nat → Addr) (g : GlobF s W) (hm : m ≤ 60) (nm : ByteArray) (old to_ at_ : Int) (hz : nm.size ≤ 60) (hk : setK ns L nm old to_ at_ = 0) :
    Calls Tryz.prog 8 #[.pointer (some ⟨rb, 0, none⟩), .string nm, .int .i64 old, .int .i64 to_, .int .i64 at_] W fun r w' => r = .returned .nilIface ∧ RSt w w' lo rb mb (n + 1) (insN nm ns) (setL L nm (at_, to_)) (m + 1) := by
  have a1 := h.n1
  have a2 := h.n2
  refine Calls.mono (rset_any lo rb mb n ns L nm old to_ at_ s W g h.r (by omega) (by omega) (fun x hx => by have := okID_size (h.wl.nm x hx); omega) (fun x => by have := h.n3 x; omega) (by omega) 0 hk.symm) ?_
  rintro r w' ⟨rfl, ⟨q, _⟩ | ⟨_, hs⟩⟩
  · exact absurd rfl q
  · obtain ⟨q1, q2, q3, q4, q5⟩ := setK_zero.1 hk
    exact ⟨rfl, h.set hs q1 ⟨q2.1.1, q2.1.2, by dsimp only; omega, q2.2.2⟩ q4 (fun z => by dsimp only at z; omega) q5⟩
theorem set1_k : setK [] (fun _ => []) ⟨#[97]⟩ (-1) 3 5 = 0 := setK_zero.2 ⟨okA, by omega, by rw [lst_nil]; decide, by rw [lst_nil]; decide, fun _ => by simp [lvs]⟩
theorem set2_k : setK [⟨#[97]⟩] L1a ⟨#[97]⟩ 3 4 7 = 0 := setK_zero.2 ⟨okA, by omega, by rw [L1a_at]; decide, by rw [L1a_at]; decide, fun q => by rw [L1a_at] at q; revert q; decide⟩
theorem as_a : asOf (L2a ⟨#[97]⟩) 6 = 3 := by rw [L2a_at]; decide
theorem get_a : (lst (L2a ⟨#[97]⟩)).2 = 4 := by rw [L2a_at]; decide
theorem insN_a : insN ⟨#[97]⟩ [⟨#[97]⟩] = [⟨#[97]⟩] := by
  unfold insN
  rw [if_neg (List.lt_irrefl _), if_pos rfl]
set_option maxHeartbeats 2000000 in
set_option maxRecDepth 100000 in
theorem referred_any (s : Nat → Addr) (w : World) (gf : GlobF s w) (gn : GlobN w) : Calls Tryz.prog 4 #[] w fun r w' => r = .returned (.bool true) ∧ Below w.heap.size w w' := by
  have NW : Hid (Calls _ _ _ _ _) := rsnew_st w
  have S1 : Hid (∀ W lo rb mb, RSt w W lo rb mb 0 [] (fun _ => []) 0 → Calls Tryz.prog 8 #[.pointer (some ⟨rb, 0, none⟩), .string ⟨#[97]⟩, .int .i64 (-1), .int .i64 3, .int .i64 5] W fun r w' => r = .returned .nilIface ∧ RSt w w' lo rb mb 1 [⟨#[97]⟩] L1a 1) := fun W lo rb mb h => rset_ok w W lo rb mb 0 0 [] _ h s (gf.step h.b) (by decide) _ _ _ _ (by decide) set1_k
  have S2 : Hid (∀ W lo rb mb, RSt w W lo rb mb 1 [⟨#[97]⟩] L1a 1 → Calls Tryz.prog 8 #[.pointer (some ⟨rb, 0, none⟩), .string ⟨#[97]⟩, .int .i64 3, .int .i64 4, .int .i64 7] W fun r w' => r = .returned .nilIface ∧ RSt w w' lo rb mb 2 [⟨#[97]⟩] L2a 2) := fun W lo rb mb h => by
    have := rset_ok w W lo rb mb 1 1 [⟨#[97]⟩] L1a h s (gf.step h.b) (by decide) _ _ _ _ (by decide) set2_k
    rw [insN_a] at this
    exact this
  have A1 : Hid (∀ W lo rb mb, RSt w W lo rb mb 2 [⟨#[97]⟩] L2a 2 → Calls Tryz.prog 7 #[.pointer (some ⟨rb, 0, none⟩), .string ⟨#[97]⟩, .int .i64 6] W fun r w' => r = .returned (.tuple #[.int .i64 3, .bool true]) ∧ Below W.heap.size W w') := fun W lo rb mb h => by
    have := as_st w W lo rb mb 2 2 _ _ h (by decide) ⟨#[97]⟩ 6 (by decide)
    rwa [as_a] at this
  have G1 : Hid (∀ W lo rb mb, RSt w W lo rb mb 2 [⟨#[97]⟩] L2a 2 → Calls Tryz.prog 13 #[.pointer (some ⟨rb, 0, none⟩), .string ⟨#[97]⟩] W fun r w' => r = .returned (.tuple #[.int .i64 4, .bool true]) ∧ Below W.heap.size W w') := fun W lo rb mb h => by
    have := get_st w W lo rb mb 2 2 _ _ h (by decide) ⟨#[97]⟩ (by decide)
    rwa [get_a] at this
  have T1 : Hid (∀ W lo rb mb, RSt w W lo rb mb 2 [⟨#[97]⟩] L2a 2 → Calls Tryz.prog 11 #[.pointer (some ⟨rb, 0, none⟩)] W fun r w' => r = .returned (.string ⟨#[97, 32, 53, 58, 51, 32, 55, 58, 52, 10]⟩) ∧ Below W.heap.size W w') := fun W lo rb mb h => by
    have := text_st w W lo rb mb 2 2 _ _ h (by decide) (gn.tab.step h.b)
    rw [rfT_a] at this
    exact this
  clear gf gn
  go_enter Tryz.func4, Tryz.ntmps4
  go_upto_region 2 with (go_at_call 5; refine Calls.mono NW.out ?_; rintro r w1 ⟨rfl, h1, _⟩)
  go_upto_region 4 with (first
    | (go_at_call_of 8 (Value.int .i64 5); refine Calls.mono (S1.out _ _ _ _ h1) ?_; rintro r w2 ⟨rfl, h2⟩)
    | (go_at_call_of 8 (Value.int .i64 7); refine Calls.mono (S2.out _ _ _ _ h2) ?_; rintro r w3 ⟨rfl, h3⟩))
  go_wp2_with (first
    | (go_at_call 7; refine Calls.mono (A1.out _ _ _ _ h3) ?_; rintro r w4 ⟨rfl, hb4⟩)
    | (go_at_call 13; refine Calls.mono (G1.out _ _ _ _ (h3.step hb4)) ?_; rintro r w5 ⟨rfl, hb5⟩)
    | (go_at_call 11; refine Calls.mono (T1.out _ _ _ _ ((h3.step hb4).step hb5)) ?_; rintro r w6 ⟨rfl, hb6⟩))
  go_ret
  exact ⟨rfl, (((h3.step hb4).step hb5).step hb6).b⟩

/-- an act of names in plain words -/
structure RA where
  kd : ByteArray
  nm : ByteArray
  old : Int
  to_ : Int
  at_ : Int
/-- its five cells, from any address on -/
structure RActA (W : World) (A : Addr) (K : RA) : Prop where
  k : W.cell? A = some (.string K.kd)
  n : W.cell? ⟨A.block, A.off + 1, none⟩ = some (.string K.nm)
  o : W.cell? ⟨A.block, A.off + 2, none⟩ = some (.int .i64 K.old)
  t : W.cell? ⟨A.block, A.off + 3, none⟩ = some (.int .i64 K.to_)
  a : W.cell? ⟨A.block, A.off + 4, none⟩ = some (.int .i64 K.at_)
theorem RActA.step {W W' : World} {A : Addr} {K : RA} (h : RActA W A K) (hb : Below W.heap.size W W') : RActA W' A K := ⟨cellA_step h.k hb, cellA_step h.n hb, cellA_step h.o hb, cellA_step h.t hb, cellA_step h.a hb⟩
/-- acts, as they are handed over -/
def RActs (W : World) (v : Value) (Ks : List RA) : Prop :=
  ∃ (a : Option Addr) (c : Nat), v = .slice a Ks.length c ∧ Ks.length ≤ 1000000000000000 ∧ Ks.length ≤ c ∧
    ∀ (j : Nat) (h : j < Ks.length), ∃ ad : Addr, a = some ad ∧ Ks[j].nm.size ≤ 1000000000000000 ∧ RActA W (ad.add (j * 5)) Ks[j]
/-- a row of numbers grows -/
theorem RefsAt.ints {lo rb mb n base k : Nat} {W W' : World} {ns : List ByteArray} {L : ByteArray → List (Int × Int)} {v : Value} {xs : List Value} (h : RefsAt lo W rb mb n ns L) (ho : W.ownsRow base 3 1 v k xs) (hg : W.grownBy W' v.ownBlock) : RefsAt lo W' rb mb n ns L := by
  have hb : ∀ g, v.ownBlock = some g → ∃ cur, W.heap[g]? = some (.cells cur 3 (0, 0)) := fun g hq => by
    rcases ho.2 with ⟨rfl, _⟩ | ⟨b, cap, cur, rfl, _, hb, _⟩
    · cases hq
    · have e : b = g := Option.some.inj hq
      subst e
      exact ⟨cur, hb⟩
  obtain ⟨D, vf, q1, q2, q3, q4, q5⟩ := h.ex
  obtain ⟨es, c, hm⟩ := h.mapBlk
  refine ⟨(hg.block _ (Array.getElem?_eq_some_iff.1 h.blk).1 (fun q => ?_)).trans h.blk, h.hr, h.hm, h.ne, Nat.le_trans h.le hg.size, h.ups, h.mem, D, vf, q1.kept hg (fun q => ?_), q2, q3, fun s => World.ownsRow.kept (q4 s) hg ?_, q5⟩
  · obtain ⟨cur, z⟩ := hb _ q.symm
    rw [h.blk] at z
    cases z
  · obtain ⟨cur, z⟩ := hb _ q.symm
    rw [hm] at z
    cases z
  · cases hq : (vf s).ownBlock with
    | none => exact .inl rfl
    | some g =>
      refine .inr (fun z => ?_)
      obtain ⟨cur, z1⟩ := hb g z.symm
      obtain ⟨_, _, cur', z2⟩ := (q4 s).blk hq
      rw [z1] at z2
      cases z2
theorem RSt.ints {w W W' : World} {lo rb mb n m k : Nat} {ns : List ByteArray} {L : ByteArray → List (Int × Int)} {v : Value} {xs : List Value} (h : RSt w W lo rb mb n ns L m) (ho : W.ownsRow w.heap.size 3 1 v k xs) (hg : W.grownBy W' v.ownBlock) : RSt w W' lo rb mb n ns L m := by
  have hbs := h.b.size
  refine ⟨h.r.ints ho hg, h.wl, h.n1, h.n2, h.n3, ⟨hg.os.trans h.b.os, hg.tape.trans h.b.tape, hg.output.trans h.b.output, Nat.le_trans h.b.size hg.size, fun b hb => (hg.block b (by omega) (fun q => ?_)).trans (h.b.block b hb)⟩, h.h1, h.h2⟩
  have := (World.ownsRow.lt ho b q.symm).1
  omega
theorem RowV.ints {base base' k : Nat} {W W' : World} {nv v : Value} {l : List ByteArray} {xs : List Value} (h : RowV base W nv l) (ho : W.ownsRow base' 3 1 v k xs) (hg : W.grownBy W' v.ownBlock) : RowV base W' nv l := by
  rcases h with h | ⟨B, cap, h1, h2, h3⟩
  · exact .inl h
  · obtain ⟨⟨cur, q1, q2, q3⟩, q4⟩ := h3
    refine .inr ⟨B, cap, h1, h2, ⟨cur, (hg.block B (Array.getElem?_eq_some_iff.1 q1).1 (fun q => ?_)).trans q1, q2, q3⟩, q4⟩
    rcases ho.2 with ⟨rfl, _⟩ | ⟨b, cap, cur', rfl, _, hb, _⟩
    · cases q
    · have e : B = b := Option.some.inj q
      subst e
      rw [q1] at hb
      cases hb
/-- the names that were kept, and what they were -/
structure Ph (w : World) (t : Int) (W : World) (L : ByteArray → List (Int × Int)) (nv wv : Value) (N : List ByteArray) : Prop where
  r : RowV 0 W nv N
  o : W.ownsRow w.heap.size 3 1 wv N.length (N.map fun s => Value.int .i64 (asOf (L s) t))
  z : ∀ s ∈ N, s.size ≤ 12
  l : N.length ≤ 60
theorem Ph.keep {w W W' : World} {t : Int} {L L' : ByteArray → List (Int × Int)} {nv wv : Value} {N : List ByteArray} (h : Ph w t W L nv wv N) (hk : KeepS W W') (hL : ∀ s ∈ N, asOf (L' s) t = asOf (L s) t) : Ph w t W' L' nv wv N := by
  refine ⟨h.r.keptS hk, ?_, h.z, h.l⟩
  have e : (N.map fun s => Value.int .i64 (asOf (L' s) t)) = N.map fun s => Value.int .i64 (asOf (L s) t) := List.map_congr_left (fun s hs => by rw [hL s hs])
  rw [e]
  exact ints_keptS h.o hk
theorem Ph.none (w W : World) (t : Int) (L : ByteArray → List (Int × Int)) : Ph w t W L (.slice none 0 0) (.slice none 0 0) [] := ⟨.inl ⟨rfl, rfl⟩, World.ownsRow_nil _ _ _ _, (fun s h => by cases h), by simp⟩
theorem ofV_as {x : Int} (h : x ≠ -1) : ofV x = x := by unfold ofV; rw [if_neg h]
theorem rowV_cell {base : Nat} {W : World} {a : Option Addr} {n c : Nat} {l : List ByteArray} (h : RowV base W (.slice a n c) l) {j : Nat} (hj : j < l.length) : ∃ b, a = some ⟨b, 0, none⟩ ∧ W.cell? ⟨b, j, none⟩ = some (.string l[j]) := by
  rcases h with ⟨_, h⟩ | ⟨B, cap, h1, h2, h3⟩
  · subst h; simp at hj
  · injection h1 with e1 _ _
    exact ⟨B, e1, h3.cell j hj⟩

end Go.Proofs.YtcaeafgkogfgdaaGreatDoor
