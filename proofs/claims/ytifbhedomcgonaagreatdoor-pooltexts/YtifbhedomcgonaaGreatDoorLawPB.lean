/- The law PoolBack: a pool is read as it was written; two texts have one number only if they are one. -/
import Derived.Test.YtifbhedomcgonaaGreatDoorPlR
import Derived.Laws.AppendOwnNone
namespace Go.Proofs.YtifbhedomcgonaaGreatDoor
open Go Go.RowKit Go.Maps Cal
attribute [local go_sem] Oper.semAt_some

theorem PoolAt.one {lo : Nat} {W : World} {pb mb : Nat} {tv : Value} {ts : List ByteArray} (h : PoolAt lo W pb mb tv ts) {i j : Nat} {x : ByteArray} (hi : ts[i]? = some x) (hj : ts[j]? = some x) : i = j := by
  obtain ⟨D, _, hl⟩ := h.map
  have e1 := ((hl x).1 i hi).2
  have e2 := ((hl x).1 j hj).2
  rw [e1] at e2
  have e : (i : Int) = j := by injection e2 with q; injection q
  omega
theorem PoolAt.nodup {lo : Nat} {W : World} {pb mb : Nat} {tv : Value} {ts : List ByteArray} (h : PoolAt lo W pb mb tv ts) : ts.Nodup := by
  unfold List.Nodup
  rw [List.pairwise_iff_getElem]
  intro i j hi hj hij e
  have := h.one (List.getElem?_eq_getElem hi) (by rw [e]; exact List.getElem?_eq_getElem hj)
  omega

theorem pput_law (lo pb mb : Nat) (tv : Value) (ts : List ByteArray) (x : ByteArray) (w : World) (h : PoolAt lo w pb mb tv ts) (hx : x.size ≤ 10000) (hl : ts.length < 1000) :
    Calls Tryz.prog 6 #[.pointer (some ⟨pb, 0, none⟩), .string x] w fun r w' => ∃ (k : Nat) (ts' : List ByteArray) (tv' : Value), r = .returned (.tuple #[.int .i64 k, .nilIface]) ∧ ts'[k]? = some x ∧ (∀ (j : Nat) (y : ByteArray), ts[j]? = some y → ts'[j]? = some y) ∧ ts'.length ≤ ts.length + 1 ∧ (∀ t ∈ ts', t ∈ ts ∨ t = x) ∧ PoolAt lo w' pb mb tv' ts' ∧ PKept w w' pb mb tv := by
  by_cases hm : x ∈ ts
  · obtain ⟨i, hi⟩ := List.getElem?_of_mem hm
    refine Calls.mono (pput_old lo pb mb tv ts x i w h hx hi) ?_
    rintro r w' ⟨rfl, rfl⟩
    exact ⟨i, ts, tv, rfl, hi, fun _ _ q => q, by omega, fun t ht => .inl ht, h, PKept.same (Below.refl _ _) _ _ _⟩
  · refine Calls.mono (pput_new lo pb mb tv ts x w h hx hm hl) ?_
    rintro r w' ⟨rfl, tv', h1, h2, _⟩
    refine ⟨ts.length, ts ++ [x], tv', rfl, ?_, fun j y q => ?_, by simp, fun t ht => ?_, h1, h2⟩
    · rw [List.getElem?_append_right (Nat.le_refl _), Nat.sub_self]; rfl
    · rw [List.getElem?_append_left (List.getElem?_eq_some_iff.1 q).1]; exact q
    · rcases List.mem_append.1 ht with q | q
      · exact .inl q
      · exact .inr (List.mem_singleton.1 q)

set_option maxHeartbeats 1000000 in
theorem pooled_any (w : World) : Calls Tryz.prog 4 #[] w fun r w' => r = .returned (.bool true) ∧ Below w.heap.size w w' := by
  have NW : Hid (Calls _ _ _ _ _) := pnew_any w
  go_enter Tryz.func4, Tryz.ntmps4
  go_upto_region 4 with (go_at_call 5; refine Calls.mono NW.out ?_; rintro r w1 ⟨rfl, hp1, hb1⟩)
  have P1 : Hid (Calls _ _ _ _ _) := pput_new _ _ _ _ _ ⟨#[120]⟩ w1 hp1 (by decide) (by simp) (by simp)
  have HP1 : Hid (PoolAt _ _ _ _ _ _) := hp1
  clear NW hp1
  go_upto_region 5 with (go_at_call 6; refine Calls.mono P1.out ?_; rintro r w2 ⟨rfl, tv2, hp2, hk2, _⟩)
  have B2 : Hid (Below w.heap.size w w2) := hk2.below HP1.out hb1 (by omega) (by omega) (by omega)
  have P2 : Hid (Calls _ _ _ _ _) := pput_new _ _ _ _ _ ⟨#[]⟩ w2 hp2 (by decide) (by rw [List.nil_append, List.mem_singleton]; intro q; exact absurd (congrArg ByteArray.size q) (by decide)) (by simp)
  have HP2 : Hid (PoolAt _ _ _ _ _ _) := hp2
  clear P1 hp2 hk2 hb1 HP1
  go_upto_region 6 with (go_at_call 6; refine Calls.mono P2.out ?_; rintro r w3 ⟨rfl, tv3, hp3, hk3, _⟩)
  have B3 : Hid (Below w.heap.size w w3) := hk3.below HP2.out B2.out (by omega) (by omega) (by omega)
  have P3 : Hid (Calls _ _ _ _ _) := pput_old _ _ _ _ _ ⟨#[120]⟩ 0 w3 hp3 (by decide) rfl
  have L3 : Hid (Calls _ _ _ _ _) := plen_any _ _ _ _ _ w3 hp3
  clear P2 hp3 hk3 HP2
  go_wp2_with (first
    | (go_at_call 6; refine Calls.mono P3.out ?_; rintro r w4 ⟨rfl, hq⟩; have hq := hq.symm; subst hq)
    | (go_at_call 12; refine Calls.mono L3.out ?_; rintro r w4 ⟨rfl, hq⟩; have hq := hq.symm; subst hq))
  go_ret
  exact ⟨rfl, B3.out⟩

theorem row_far {W W' : World} {base : Nat} {e : TypeId} {size : Nat} {v : Value} {n : Nat} {xs : List Value} (h : W.ownsRow base e size v n xs) (hk : ∀ k, v.ownBlock = some k → k < W.heap.size → W'.heap[k]? = W.heap[k]?) : W'.ownsRow base e size v n xs := by
  refine ⟨h.1, ?_⟩
  rcases h.2 with h2 | ⟨g, cap, cur, hv, hg, hh, r⟩
  · exact .inl h2
  · exact .inr ⟨g, cap, cur, hv, hg, (hk g (by rw [hv]; rfl) (Array.getElem?_eq_some_iff.1 hh).1).trans hh, r⟩
theorem row_apart {W : World} {b1 b2 : Nat} {e1 e2 : TypeId} {s1 s2 : Nat} {v1 v2 : Value} {n1 n2 : Nat} {xs1 xs2 : List Value} (h1 : W.ownsRow b1 e1 s1 v1 n1 xs1) (h2 : W.ownsRow b2 e2 s2 v2 n2 xs2) (hne : e1 ≠ e2) (k : Nat) (q1 : v1.ownBlock = some k) : v2.ownBlock ≠ some k := by
  intro q2
  rcases h1.2 with ⟨rfl, _⟩ | ⟨g, cap, cur, rfl, _, hh, _⟩
  · cases q1
  · rcases h2.2 with ⟨rfl, _⟩ | ⟨g', cap', cur', rfl, _, hh', _⟩
    · cases q2
    · have a1 : g = k := Option.some.inj q1
      have a2 : g' = k := Option.some.inj q2
      subst a1; subst a2
      rw [hh] at hh'
      have := Option.some.inj hh'
      injection this with _ q _
      exact hne q
theorem row_cell {W : World} {base : Nat} {e : TypeId} {g n cap : Nat} {xs : List Value} (h : W.ownsRow base e 1 (.slice (some ⟨g, 0, none⟩) n cap) n xs) (j : Nat) (u : Value) (hj : xs[j]? = some u) : W.cell? ⟨g, j, none⟩ = some u ∧ g < W.heap.size := by
  have hl := h.1
  rcases h.2 with ⟨q, _⟩ | ⟨g', cap', cur, hv, _, hh, hcap, hmax, hsz, htake⟩
  · cases q
  · have eg : g = g' := by injection hv with a _ _; injection a with a; injection a
    subst eg
    refine ⟨?_, (Array.getElem?_eq_some_iff.1 hh).1⟩
    have hlt := (List.getElem?_eq_some_iff.1 hj).1
    have e := congrArg (fun z : List Value => z[j]?) htake
    simp only [List.getElem?_take, Array.getElem?_toList] at e
    rw [if_pos (by omega), hj] at e
    simp only [World.cell?, hh]
    exact e

/-- a list of texts that came in -/
def TxA (w : World) (v : Value) (xs : List ByteArray) : Prop := ∃ (a : Option Addr) (c : Nat), v = .slice a xs.length c ∧ xs.length ≤ c ∧ ∀ (j : Nat) (h : j < xs.length), ∃ ad : Addr, a = some ad ∧ ad.block < w.heap.size ∧ w.cell? (ad.add j) = some (.string xs[j])
theorem addr_block (a : Addr) (n : Nat) : (a.add n).block = a.block := by
  unfold Addr.add
  split <;> rfl

end Go.Proofs.YtifbhedomcgonaaGreatDoor
