/- Names of commits: Names, As; the library's sort.Search. -/
import Derived.Test.YtanjgollffkafaaGreatDoorJrAH
import Derived.BigRegion
namespace Go.Proofs.YtanjgollffkafaaGreatDoor
open Go Go.RowKit Go.Maps Go.Sort Cal
attribute [local go_sem] Oper.semAt_some

set_option maxHeartbeats 1000000 in
set_option maxRecDepth 100000 in
theorem names1_any (lo rb mb n bx : Nat) (ns : List ByteArray) (L : ByteArray → List (Int × Int)) (x : ByteArray) (w : World) (h : RefsAt lo w rb mb n ns L) (hx : x.size ≤ 1000) (hl : (L x).length ≤ 80000) (cx : w.cell? ⟨bx, 0, none⟩ = some (.pointer (some ⟨rb, 0, none⟩))) :
    Calls Tryz.prog 16 #[.string x, .pointer (some ⟨bx, 0, none⟩)] w fun r w' => r = .returned (.bool (gn L x)) ∧ Below w.heap.size w w' := by
  obtain ⟨v, LK, hv⟩ := h.look x hx
  have hc := h.cell
  have LA : Hid (Calls _ _ _ _ _) := lastOf_any (L x) v w (hv.movs hl)
  have FT := fun x y w => fld_to x y w
  clear h hv
  unfold gn
  generalize lst (L x) = e at LA
  by_cases q : e.2 = -1
  · rw [decide_eq_true q]
    rw [q] at LA
    go_enter Tryz.func16, Tryz.ntmps16
    go_wp2_with (go_at_call 17; refine Calls.mono LA.out ?_; rintro r w1 ⟨rfl, hb1⟩)
    go_ret
    exact ⟨rfl, hb1⟩
  · rw [decide_eq_false q]
    have q1 : (e.2 == -1) = false := by rw [beq_eq_false_iff_ne]; exact q
    go_enter Tryz.func16, Tryz.ntmps16
    go_wp2_with (go_at_call 17; refine Calls.mono LA.out ?_; rintro r w1 ⟨rfl, hb1⟩)
    go_ret
    exact ⟨rfl, hb1⟩

set_option maxHeartbeats 2000000 in
theorem names_any (lo rb mb n : Nat) (ns : List ByteArray) (L : ByteArray → List (Int × Int)) (w : World) (h : RefsAt lo w rb mb n ns L) (hn : n ≤ 80000) (hs : ∀ s ∈ ns, s.size ≤ 1000) (hl : ∀ s, (L s).length ≤ 80000) (h8 : ns.length ≤ 80000) :
    Calls Tryz.prog 6 #[.pointer (some ⟨rb, 0, none⟩)] w fun r w' => ∃ v, r = .returned v ∧ RowV w.heap.size w' v (lvs ns L) ∧ Below w.heap.size w w' := by
  have hA := below_alloc w (.cells #[.pointer (some ⟨rb, 0, none⟩)] 24)
  have hz : (w.alloc (.cells #[.pointer (some ⟨rb, 0, none⟩)] 24)).heap.size = w.heap.size + 1 := World.size_alloc _ _
  have AL : Hid (Calls _ _ _ _ _) := allNames_any lo rb mb n ns L _ (h.step hA) (by omega)
  have cx : (w.alloc (.cells #[.pointer (some ⟨rb, 0, none⟩)] 24)).cell? ⟨w.heap.size, 0, none⟩ = some (.pointer (some ⟨rb, 0, none⟩)) := cell_of (block_at _ rfl)
  have eg : ∀ args W, (callFunc 16 args).run Tryz.prog W = .ok (.enter 16 args) W := enters_of Tryz.func16 (by kernel_rfl) rfl
  have DL : Hid (∀ (v : Value) (w3 : World), RowV (w.alloc (.cells #[.pointer (some ⟨rb, 0, none⟩)] 24)).heap.size w3 v ns → Below (w.alloc (.cells #[.pointer (some ⟨rb, 0, none⟩)] 24)).heap.size (w.alloc (.cells #[.pointer (some ⟨rb, 0, none⟩)] 24)) w3 →
      Calls Tryz.prog 14 #[v, .func (.func 16) #[] #[.pointer (some ⟨w.heap.size, 0, none⟩)]] w3 fun r w' => ∃ v', r = .returned v' ∧ RowV w.heap.size w' v' (lvs ns L) ∧ Below w.heap.size w w') := by
    intro v w3 hrv hb3
    refine Calls.mono (deleteV 16 _ (gn L) ns _ v w3 hrv h8 eg (fun x hx B W hB hW => ?_)) ?_
    · have hW1 : Below (w.alloc (.cells #[.pointer (some ⟨rb, 0, none⟩)] 24)).heap.size (w.alloc (.cells #[.pointer (some ⟨rb, 0, none⟩)] 24)) W := grown_to hb3 hW hB
      exact names1_any lo rb mb n w.heap.size ns L x W (h.step (below_then hA hW1)) (hs x hx) (hl x) (cell_step cx hW1)
    · rintro r w' ⟨v', rfl, q1, B, q2, q3⟩
      exact ⟨v', rfl, q1.base (by omega), below_then hA (grown_to hb3 q3 q2)⟩
  clear cx h hs hl
  go_enter Tryz.func6, Tryz.ntmps6
  go_wp2_with (first
    | (go_at_call 15; refine Calls.mono AL.out ?_; rintro r w1 ⟨v, rfl, hr1, hb1⟩)
    | (go_at_call 14; refine Calls.mono (DL.out _ _ hr1 hb1) ?_; rintro r w2 ⟨v', rfl, hr2, hb2⟩))
  go_ret
  exact ⟨v', rfl, hr2, hb2⟩

set_option maxHeartbeats 1000000 in
theorem as1_any (l : List (Int × Int)) (v : Value) (t : Int) (bl bt i : Nat) (w : World) (h : Movs w v l) (hi : i < l.length) (cl : w.cell? ⟨bl, 0, none⟩ = some v) (ct : w.cell? ⟨bt, 0, none⟩ = some (.int .i64 t)) :
    Calls Tryz.prog 19 #[.int .i64 i, .pointer (some ⟨bl, 0, none⟩), .pointer (some ⟨bt, 0, none⟩)] w fun r w' => r = .returned (.bool (decide (t < l[i].1))) ∧ Below w.heap.size w w' := by
  obtain ⟨a, c, rfl, h8, hc, hcell⟩ := h
  obtain ⟨b, rfl, hb, c1, c2⟩ := hcell i hi
  generalize l[i] = e at c1 c2
  clear hcell
  generalize l.length = m at *
  go_enter Tryz.func19, Tryz.ntmps19
  go_wp2
  go_quiet (fail)
  go_wp2
  go_ret
  exact ⟨rfl, drewN_below _ _⟩

set_option maxHeartbeats 2000000 in
theorem rsearch_any (g : Nat) (lb : Array Value) (p : Nat → Bool) (n : Nat) (w : World) (hn : n ≤ 80000) (eg : ∀ args W, (callFunc g args).run Tryz.prog W = .ok (.enter g args) W)
    (hp : ∀ i, i < n → ∀ (W : World), Below w.heap.size w W → Calls Tryz.prog g (#[.int .i64 i] ++ lb) W fun r w' => r = .returned (.bool (p i)) ∧ Below W.heap.size W w') (mono : ∀ i j, i ≤ j → j < n → p i = true → p j = true) :
    Calls Tryz.prog 18 #[.int .i64 n, .func (.func g) #[] lb] w fun r w' => ∃ k : Nat, r = .returned (.int .i64 k) ∧ k ≤ n ∧ (∀ j, j < k → p j = false) ∧ (∀ j, k ≤ j → j < n → p j = true) ∧ Below w.heap.size w w' := by
  have HP : Hid (∀ i, i < n → ∀ (W : World), Below w.heap.size w W → Calls Tryz.prog g (#[.int .i64 i] ++ lb) W fun r w' => r = .returned (.bool (p i)) ∧ Below W.heap.size W w') := hp
  have HM : Hid (∀ i j, i ≤ j → j < n → p i = true → p j = true) := mono
  clear hp mono
  go_enter Tryz.func18, Tryz.ntmps18
  go_wp2
  go_loopg [5, 6, 7] n (fun g s5 s6 _ wr => ∃ lo hi : Nat, s5 = .int .i64 lo ∧ s6 = .int .i64 hi ∧ lo ≤ hi ∧ hi ≤ n ∧ hi - lo ≤ g ∧ Hid (Below w.heap.size w wr) ∧ Hid (∀ j, j < lo → p j = false) ∧ Hid (∀ j, hi ≤ j → j < n → p j = true))
  case atStart => exact ⟨0, n, rfl, rfl, Nat.zero_le _, Nat.le_refl _, by omega, Below.refl _ _, fun j h => absurd h (Nat.not_lt_zero _), fun j h1 h2 => by omega⟩
  case round =>
    obtain ⟨lo, hi, rfl, rfl, hlh, hin, hg, hB, I1, I2⟩ := hrel
    by_cases hlt : lo < hi
    · have hm : (lo + hi) / 2 < n := by omega
      have HX : Hid (_) := HP.out _ hm wr hB.out
      have HT : Hid (p ((lo + hi) / 2) = true → ∀ j, (lo + hi) / 2 ≤ j → j < n → p j = true) := fun q j h1 h2 => HM.out _ j h1 h2 q
      have HF : Hid (p ((lo + hi) / 2) = false → ∀ j, j < (lo + hi) / 2 + 1 → p j = false) := fun q j h1 => by
        cases hq : p j with
        | false => rfl
        | true => rw [HM.out j _ (by omega) hm hq] at q; cases q
      clear HP HM
      have hh : (((lo + hi) / 2 : Nat) : Int) = ((lo : Int) + (hi : Int)) / 2 := by omega
      rw [hh] at HX
      cases hpx : p ((lo + hi) / 2) with
      | true =>
        rw [hpx] at HX
        have HX2 : Hid (Calls _ _ _ _ _) := HX.out
        have HT2 : Hid (_) := HT.out hpx
        clear HX HT HF hpx hh
        go_wp2_with (go_at_fn g; refine Calls.mono HX2.out ?_; rintro r w1 ⟨rfl, hb1⟩)
        go_roundg ((lo + hi) / 2 - lo)
        case measure => omega
        case rel => exact ⟨lo, (lo + hi) / 2, rfl, by rw [show ((lo : Int) + (hi : Int)) / 2 = (((lo + hi) / 2 : Nat) : Int) by omega], by omega, by omega, Nat.le_refl _, below_then hB.out hb1, I1, HT2.out⟩
      | false =>
        rw [hpx] at HX
        have HX2 : Hid (Calls _ _ _ _ _) := HX.out
        have HF2 : Hid (_) := HF.out hpx
        clear HX HT HF hpx hh
        go_wp2_with (go_at_fn g; refine Calls.mono HX2.out ?_; rintro r w1 ⟨rfl, hb1⟩)
        go_roundg (hi - ((lo + hi) / 2 + 1))
        case measure => omega
        case rel => exact ⟨(lo + hi) / 2 + 1, hi, by rw [show ((lo : Int) + (hi : Int)) / 2 + 1 = (((lo + hi) / 2 + 1 : Nat) : Int) by omega], rfl, by omega, hin, Nat.le_refl _, below_then hB.out hb1, HF2.out, I2⟩
    · have e : lo = hi := by omega
      clear HP HM
      go_wp2
      go_ret
      exact ⟨lo, rfl, by omega, I1.out, by rw [e]; exact I2.out, hB.out⟩

theorem movs_take {w : World} {a : Option Addr} {n c : Nat} {l : List (Int × Int)} (h : Movs w (.slice a n c) l) (k : Nat) (hk : k ≤ l.length) : Movs w (.slice a k c) (l.take k) := by
  obtain ⟨a', c', e, h8, hc, hcell⟩ := h
  injection e with e1 e2 e3
  subst e1 e2 e3
  refine ⟨a, c, by rw [List.length_take, Nat.min_eq_left hk], by rw [List.length_take]; omega, by rw [List.length_take]; omega, fun j hj => ?_⟩
  rw [List.length_take] at hj
  obtain ⟨b, q1, q2, q3, q4⟩ := hcell j (by omega)
  rw [List.getElem_take]
  exact ⟨b, q1, q2, q3, q4⟩
set_option maxHeartbeats 2000000 in
set_option maxRecDepth 100000 in
theorem as_any (lo rb mb n : Nat) (ns : List ByteArray) (L : ByteArray → List (Int × Int)) (s : ByteArray) (t : Int) (w : World) (h : RefsAt lo w rb mb n ns L) (hs : s.size ≤ 1000) (hl : (L s).length ≤ 80000) (hup : (L s).Pairwise (fun a b => a.1 ≤ b.1)) :
    Calls Tryz.prog 7 #[.pointer (some ⟨rb, 0, none⟩), .string s, .int .i64 t] w fun r w' => r = .returned (.tuple #[.int .i64 (ofV (asOf (L s) t)), .bool (!decide (asOf (L s) t = -1))]) ∧ Below w.heap.size w w' := by
  have hA := below_alloc w (.cells #[.int .i64 t] 3)
  have hz : (w.alloc (.cells #[.int .i64 t] 3)).heap.size = w.heap.size + 1 := World.size_alloc _ _
  obtain ⟨v, LK, hv⟩ := (h.step hA).look s hs
  have hc := (h.step hA).cell
  obtain ⟨a, c, rfl⟩ := hv.form
  have hM := hv.movs hl
  have c0 : (w.alloc (.cells #[.int .i64 t] 3)).cell? ⟨w.heap.size, 0, none⟩ = some (.int .i64 t) := cell_of (block_at _ rfl)
  clear h hv
  unfold asOf
  generalize L s = l at *
  generalize hy : (lst (l.takeWhile fun e => decide (e.1 ≤ t))).2 = y
  have HY : Hid (_ = y) := hy
  clear hy
  generalize hw0 : w.alloc (.cells #[.int .i64 t] 3) = w0 at *
  have hB := below_alloc w0 (.cells #[.slice a l.length c] 50)
  have c1 : (w0.alloc (.cells #[.slice a l.length c] 50)).cell? ⟨w0.heap.size, 0, none⟩ = some (.slice a l.length c) := cell_of (block_at _ rfl)
  have c2 := cell_step c0 hB
  have hM1 := hM.step hB
  rw [hz] at c1
  have eg : ∀ args W, (callFunc 19 args).run Tryz.prog W = .ok (.enter 19 args) W := enters_of Tryz.func19 (by kernel_rfl) rfl
  have SE : Hid (Calls Tryz.prog 18 #[.int .i64 l.length, .func (.func 19) #[] #[.pointer (some ⟨w.heap.size + 1, 0, none⟩), .pointer (some ⟨w.heap.size, 0, none⟩)]] (w0.alloc (.cells #[.slice a l.length c] 50)) fun r w' => ∃ k : Nat, r = .returned (.int .i64 k) ∧ k ≤ l.length ∧ l.takeWhile (fun e => decide (e.1 ≤ t)) = l.take k ∧ Below (w0.alloc (.cells #[.slice a l.length c] 50)).heap.size (w0.alloc (.cells #[.slice a l.length c] 50)) w') := by
    refine Calls.mono (rsearch_any 19 _ (fun i => decide (∃ h : i < l.length, t < l[i].1)) l.length _ (by omega) eg (fun i hi W hW => ?_) (fun i j hij hj q => ?_)) ?_
    · have := as1_any l (.slice a l.length c) t (w.heap.size + 1) w.heap.size i W (hM1.step hW) hi (cell_step c1 hW) (cell_step c2 hW)
      have e : decide (∃ h : i < l.length, t < l[i].1) = decide (t < l[i].1) := by
        rw [decide_eq_decide]
        exact ⟨fun ⟨_, q⟩ => q, fun q => ⟨hi, q⟩⟩
      rw [e]
      exact this
    · have q' := of_decide_eq_true q
      obtain ⟨h1, h2⟩ := q'
      refine decide_eq_true ⟨hj, ?_⟩
      rcases Nat.lt_or_ge i j with p | p
      · have := List.pairwise_iff_getElem.1 hup i j h1 hj p
        omega
      · have : i = j := by omega
        subst this
        exact h2
    · rintro r w' ⟨k, rfl, hk, q1, q2, q3⟩
      refine ⟨k, rfl, hk, take_while_of hk (fun j hj hjk => ?_) (fun hj => ?_), q3⟩
      · have := of_decide_eq_false (q1 j hjk)
        refine decide_eq_true ?_
        by_cases z : t < l[j].1
        · exact absurd ⟨hj, z⟩ this
        · omega
      · obtain ⟨_, z⟩ := of_decide_eq_true (q2 k (Nat.le_refl _) hj)
        exact decide_eq_false (by omega)
  have HM1 : Hid (_) := hM1
  have HMT : Hid (∀ (k : Nat) (W : World), k ≤ l.length → Below (w0.alloc (.cells #[.slice a l.length c] 50)).heap.size (w0.alloc (.cells #[.slice a l.length c] 50)) W → Calls Tryz.prog 17 #[.slice a k c] W fun r w' => r = .returned (.agg #[.int .i64 (lst (l.take k)).1, .int .i64 (lst (l.take k)).2]) ∧ Below W.heap.size W w') := fun k W hk hW => lastOf_any (l.take k) (.slice a k c) W (movs_take (hM1.step hW) k hk)
  have CO : Hid (∀ x y W, _) := fun x y W => commitOf_any x y W
  have HB0 : Hid (Below w.heap.size w (w0.alloc (.cells #[.slice a l.length c] 50))) := below_then hA hB
  have HC1 : Hid (_) := c1
  have hlc : l.length ≤ c := by obtain ⟨_, _, e, _, q, _⟩ := hM; injection e with _ _ e3; rw [e3]; exact q
  have hl8 : l.length ≤ 80000 := hl
  clear hM hM1 hA hB c2 hup
  subst hw0
  go_enter Tryz.func7, Tryz.ntmps7
  go_upto_region 2 with fail
  generalize (w.alloc (.cells #[.int .i64 t] 3)).alloc (.cells #[.slice a l.length c] 50) = w3 at *
  clear LK hc c0 hz
  go_upto_region 3 with (go_at_call 18; refine Calls.mono SE.out ?_; rintro r w4 ⟨k, rfl, hk, hq, hb4⟩)
  have c4 := cell_step c1 hb4
  have LA : Hid (Calls _ _ _ _ _) := HMT.out k w4 hk hb4
  rw [hq] at HY
  clear HMT SE c1 hq
  generalize lst (l.take k) = e at LA HY
  have hkI : (k : Int) ≤ (c : Int) := by omega
  go_wp2_with (first
    | (go_at_call 17; refine Calls.mono LA.out ?_; rintro r w5 ⟨rfl, hb5⟩)
    | (go_at_call 20; refine Calls.mono (CO.out _ _ _) ?_; rintro r w6 ⟨rfl, hb6⟩))
  go_ret2
  exact ⟨by rw [← HY.out]; rfl, below_then HB0.out (below_then hb4 (below_then hb5 hb6))⟩
end Go.Proofs.YtanjgollffkafaaGreatDoor
