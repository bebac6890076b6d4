/- Contracts of package day's plain functions: isLeap, yearDays, Months, isDay, Make, Date, Week, Add: each returns what the plain mathematics (Cal) says, for every input, and leaves memory that was there as it was. -/
import Derived.Test.YtekminpoiokgfaaGreatDoorProg
import Derived.Test.YtekminpoiokgfaaGreatDoorMathW
import Derived.WalkKit
import Derived.WalkSpells
import Derived.WalkLawsBesides
import Derived.Deep.QuietTactic
import Derived.BigQuiet
import Derived.RangeFuncNested
import Derived.RangeFuncBound
import Derived.RangeFuncCalls
import Derived.RangeFuncLeaves
import Derived.Laws.OwnMore
namespace Go.Proofs.YtekminpoiokgfaaGreatDoor
open Go.RowKit Cal

theorem ret_int {k : IntKind} {a b : Int} (h : a = b) : Ending.returned (.int k a) = .returned (.int k b) := by rw [h]
theorem ret_bool {a b : Bool} (h : a = b) : Ending.returned (.bool a) = .returned (.bool b) := by rw [h]
theorem drewN_below (w : World) (n : Nat) : Below w.heap.size w (w.drewN n) := ⟨rfl, rfl, rfl, Nat.le_refl _, fun _ _ => rfl⟩

theorem isLeap_any (y : Int) (w : World) (h0 : 2000 ≤ y) (h1 : y ≤ 2200) :
    Calls Tryz.prog 170 #[.int .i64 y] w fun e w' => e = .returned (.bool (lpB y)) ∧ w' = w := by
  by_cases a : y % 4 = 0
  · by_cases b : y % 100 = 0
    · by_cases c : y % 400 = 0
      · have hl : lpB y = true := by rw [lpB_iff]; omega
        rw [hl]
        go_enter Tryz.func170, Tryz.ntmps170
        go_wp2
        go_ret
        exact ⟨rfl, rfl⟩
      · have hl : lpB y = false := by rw [← Bool.not_eq_true, lpB_iff]; omega
        rw [hl]
        go_enter Tryz.func170, Tryz.ntmps170
        go_wp2
        go_ret
        exact ⟨ret_bool (by simpa using c), rfl⟩
    · have hl : lpB y = true := by rw [lpB_iff]; omega
      rw [hl]
      go_enter Tryz.func170, Tryz.ntmps170
      go_wp2
      go_ret
      exact ⟨rfl, rfl⟩
  · have hl : lpB y = false := by rw [← Bool.not_eq_true, lpB_iff]; omega
    rw [hl]
    go_enter Tryz.func170, Tryz.ntmps170
    go_wp2
    go_ret
    exact ⟨rfl, rfl⟩

theorem yearDays_any (y : Int) (w : World) (h0 : 2000 ≤ y) (h1 : y ≤ 2200) :
    Calls Tryz.prog 151 #[.int .i64 y] w fun e w' => e = .returned (.int .i64 (yd y)) ∧ w' = w := by
  rcases lp_eq y with ⟨hb, hl⟩ | ⟨hb, hl⟩
  · have hy : yd y = 366 := by unfold yd; omega
    rw [hy]
    have hc := fun w => isLeap_any y w h0 h1
    rw [hb] at hc
    have HC : Hid (_) := hc
    clear hc hl hy hb
    go_enter Tryz.func151, Tryz.ntmps151
    go_wp2_with (go_at_call 170; refine (HC.out _).mono ?_; rintro e w' ⟨rfl, rfl⟩)
    go_ret
    exact ⟨rfl, rfl⟩
  · have hy : yd y = 365 := by unfold yd; omega
    rw [hy]
    have hc := fun w => isLeap_any y w h0 h1
    rw [hb] at hc
    have HC : Hid (_) := hc
    clear hc hl hy hb
    go_enter Tryz.func151, Tryz.ntmps151
    go_wp2_with (go_at_call 170; refine (HC.out _).mono ?_; rintro e w' ⟨rfl, rfl⟩)
    go_ret
    exact ⟨rfl, rfl⟩

theorem isDay_yes (n : Int) (w : World) (h0 : 0 ≤ n) (h1 : n ≤ 73048) :
    Calls Tryz.prog 150 #[.int .i64 n] w fun e w' => e = .returned (.bool true) ∧ w' = w := by
  go_enter Tryz.func150, Tryz.ntmps150
  go_wp2
  go_ret
  exact ⟨rfl, rfl⟩
theorem months_out (y m : Int) (w : World) (h : y < 2000 ∨ 2199 < y) :
    Calls Tryz.prog 152 #[.int .i64 y, .int .i64 m] w fun e w' => e = .returned (.int .i64 0) ∧ w' = w := by
  rcases h with h | h
  · go_enter Tryz.func152, Tryz.ntmps152
    go_wp2
    go_ret
    exact ⟨rfl, rfl⟩
  · have h0 : ¬ y < 2000 := by omega
    go_enter Tryz.func152, Tryz.ntmps152
    go_wp2
    go_ret
    exact ⟨rfl, rfl⟩
theorem months_none (y m : Int) (w : World) (h0 : 2000 ≤ y) (h1 : y ≤ 2199) (h : m < 1 ∨ 12 < m) :
    Calls Tryz.prog 152 #[.int .i64 y, .int .i64 m] w fun e w' => e = .returned (.int .i64 0) ∧ w' = w := by
  rcases h with h | h
  · go_enter Tryz.func152, Tryz.ntmps152
    go_wp2
    go_ret
    exact ⟨rfl, rfl⟩
  · go_enter Tryz.func152, Tryz.ntmps152
    go_wp2
    go_ret
    exact ⟨rfl, rfl⟩
theorem months_feb (y : Int) (w : World) (h0 : 2000 ≤ y) (h1 : y ≤ 2199) :
    Calls Tryz.prog 152 #[.int .i64 y, .int .i64 2] w fun e w' => e = .returned (.int .i64 (28 + lp y)) ∧ w' = w := by
  rcases lp_eq y with ⟨hb, hl⟩ | ⟨hb, hl⟩
  all_goals
    rw [hl]
    have hc := fun w => isLeap_any y w h0 (by omega)
    rw [hb] at hc
    have HC : Hid (_) := hc
    clear hc hl hb
    go_enter Tryz.func152, Tryz.ntmps152
    go_wp2_with (go_at_call 170; refine (HC.out _).mono ?_; rintro e w' ⟨rfl, rfl⟩)
    go_ret
    exact ⟨rfl, rfl⟩
theorem months_any (y m : Int) (w : World) :
    Calls Tryz.prog 152 #[.int .i64 y, .int .i64 m] w fun e w' => e = .returned (.int .i64 (dim y m)) ∧ w' = w := by
  by_cases hy : y < 2000 ∨ 2199 < y
  · rw [dim_out y m (by omega)]; exact months_out y m w hy
  · by_cases hm : m < 1 ∨ 12 < m
    · rw [dim_out y m (by omega)]; exact months_none y m w (by omega) (by omega) hm
    · have h0 : 2000 ≤ y := by omega
      have h1 : y ≤ 2199 := by omega
      by_cases h2 : m = 2
      · subst h2
        rw [dim_feb y h0 h1]; exact months_feb y w h0 h1
      · by_cases h30 : m = 4 ∨ m = 6 ∨ m = 9 ∨ m = 11
        · rw [dim_30 y m h0 h1 h30]
          rcases h30 with h | h | h | h
          all_goals
            subst h
            clear hm hy
            go_enter Tryz.func152, Tryz.ntmps152
            go_wp2
            go_ret
            exact ⟨rfl, rfl⟩
        · have h31 : m = 1 ∨ m = 3 ∨ m = 5 ∨ m = 7 ∨ m = 8 ∨ m = 10 ∨ m = 12 := by omega
          rw [dim_31 y m h0 h1 h31]
          clear h2 h30 hm hy
          rcases h31 with h | h | h | h | h | h | h
          all_goals
            subst h
            go_enter Tryz.func152, Tryz.ntmps152
            go_wp2
            go_ret
            exact ⟨rfl, rfl⟩

/-- a date: its number. -/
theorem make_ok (y m d : Int) (w : World) (h : vld y m d) :
    Calls Tryz.prog 143 #[.int .i64 y, .int .i64 m, .int .i64 d] w fun e w' => e = .returned (.tuple #[.int .i64 (num y m d), .nilIface]) ∧ w' = w := by
  obtain ⟨hy0, hy1, hm0, hm1, hd0, hd1⟩ := h
  have hd31 := (dim_bd y m).2
  go_enter Tryz.func143, Tryz.ntmps143
  go_wp2_with (go_at_call 152; refine (months_any _ _ _).mono ?_; rintro e w' ⟨rfl, rfl⟩)
  go_loop [8, 9] (fun n k => ∃ j : Int, 2000 ≤ j ∧ j ≤ y ∧ k = .int .i64 j ∧ n = .int .i64 (dby j + d - 1)) (fun _ k => (y - intOf k).toNat)
  case atStart => exact ⟨2000, by omega, by omega, rfl, by rw [dby_zero]; go_num⟩
  case round =>
    obtain ⟨j, hj0, hj1, rfl, rfl⟩ := hrel
    have hb := dby_bd j hj0 (by omega)
    have hyd := yd_bd j
    by_cases hlt : j < y
    · have hs := dby_succ j
      have HS : Hid (_) := hs
      clear hs
      go_wp2_with (go_at_call 151; refine (yearDays_any _ _ (by omega) (by omega)).mono ?_; rintro e w' ⟨rfl, rfl⟩)
      go_round
      case rel => exact ⟨j + 1, by omega, by omega, rfl, by rw [HS.out]; go_num⟩
      case measure => simp [intOf]; omega
    · obtain rfl : j = y := by omega
      go_wp2
      go_loop [8, 10] (fun n k => ∃ i : Int, 1 ≤ i ∧ i ≤ m ∧ k = .int .i64 i ∧ n = .int .i64 (dby j + cum j i + d - 1)) (fun _ k => (m - intOf k).toNat)
      case atStart => exact ⟨1, by omega, by omega, rfl, by rw [cum_one]; go_num⟩
      case round =>
        obtain ⟨i, hi0, hi1, rfl, rfl⟩ := hrel
        have hcb := cum_bd j i hi0 (by omega)
        have hdb := dim_bd j i
        by_cases hlt : i < m
        · have hs := cum_succ j i hy0 hy1 hi0 (by omega)
          have HS : Hid (_) := hs
          clear hs
          go_wp2_with (go_at_call 152; refine (months_any _ _ _).mono ?_; rintro e w' ⟨rfl, rfl⟩)
          go_round
          case rel => exact ⟨i + 1, by omega, by omega, rfl, by rw [HS.out]; go_num⟩
          case measure => simp [intOf]; omega
        · obtain rfl : i = m := by omega
          go_wp2
          go_ret2
          exact ⟨rfl, rfl⟩
end Go.Proofs.YtekminpoiokgfaaGreatDoor

/- Contracts of package day's Date, Week and Add: each returns what the plain mathematics (Cal) says, for every input, and leaves memory that was there as it was. -/
namespace Go.Proofs.YtekminpoiokgfaaGreatDoor
open Go.RowKit Cal

set_option maxHeartbeats 1000000 in
theorem date_ok (n y m d : Int) (w : World) (h : vld y m d) (hn : num y m d = n) :
    Calls Tryz.prog 125 #[.int .i64 n] w fun e w' => e = .returned (.tuple #[.int .i64 y, .int .i64 m, .int .i64 d, .nilIface]) ∧ w' = w := by
  have hnb := num_bd h
  have hny := num_year h
  have hnm := num_month h
  have hdd : d = n - dby y - cum y m + 1 := by unfold num at hn; omega
  rw [hn] at hnb hny hnm
  obtain ⟨hy0, hy1, hm0, hm1, hd0, hd1⟩ := h
  have HD : Hid (_) := hdd
  clear hdd hn
  obtain ⟨hn0, hn1⟩ := hnb
  obtain ⟨ha, hb⟩ := hny
  obtain ⟨hc, hd⟩ := hnm
  go_enter Tryz.func125, Tryz.ntmps125
  go_wp2_with (go_at_call 150; refine (isDay_yes _ _ hn0 hn1).mono ?_; rintro e w' ⟨rfl, rfl⟩)
  go_loop [0, 2] (fun r t => ∃ k : Int, 2000 ≤ k ∧ k ≤ y ∧ t = .int .i64 k ∧ r = .int .i64 (n - dby k)) (fun _ t => (y - intOf t).toNat)
  case atStart => exact ⟨2000, by omega, by omega, rfl, by rw [dby_zero]; go_num⟩
  case round =>
    obtain ⟨k, hk0, hk1, rfl, rfl⟩ := hrel
    have kb := dby_bd k hk0 (by omega)
    have kd := yd_bd k
    have ks := dby_succ k
    by_cases hlt : k < y
    · have hm := dby_mono (k + 1) y (by omega)
      have hge : yd k ≤ n - dby k := by omega
      have KS : Hid (_) := ks
      clear ks
      go_wp2_with (go_at_call 151; refine (yearDays_any _ _ (by omega) (by omega)).mono ?_; rintro e w' ⟨rfl, rfl⟩)
      go_round
      case rel => exact ⟨k + 1, by omega, by omega, rfl, by rw [KS.out]; go_num⟩
      case measure => simp [intOf]; omega
    · obtain rfl : k = y := by omega
      have hl : n - dby k < yd k := by omega
      clear ks hlt
      go_wp2_with (go_at_call 151; refine (yearDays_any _ _ (by omega) (by omega)).mono ?_; rintro e w' ⟨rfl, rfl⟩)
      go_loop [0, 3] (fun r t => ∃ i : Int, 1 ≤ i ∧ i ≤ m ∧ t = .int .i64 i ∧ r = .int .i64 (n - dby k - cum k i)) (fun _ t => (m - intOf t).toNat)
      case atStart => exact ⟨1, by omega, by omega, rfl, by rw [cum_one]; go_num⟩
      case round =>
        obtain ⟨i, hi0, hi1, rfl, rfl⟩ := hrel
        have ib := cum_bd k i hi0 (by omega)
        have id := dim_bd k i
        have is := cum_succ k i hy0 hy1 hi0 (by omega)
        by_cases hlt : i < m
        · have hm := cum_mono k (i + 1) m (by omega) (by omega)
          have hge : dim k i ≤ n - dby k - cum k i := by omega
          have IS : Hid (_) := is
          clear is
          go_wp2_with (go_at_call 152; refine (months_any _ _ _).mono ?_; rintro e w' ⟨rfl, rfl⟩)
          go_round
          case rel => exact ⟨i + 1, by omega, by omega, rfl, by rw [IS.out]; go_num⟩
          case measure => simp [intOf]; omega
        · obtain rfl : i = m := by omega
          have hl : n - dby k - cum k i < dim k i := by omega
          clear is hlt
          go_wp2_with (go_at_call 152; refine (months_any _ _ _).mono ?_; rintro e w' ⟨rfl, rfl⟩)
          exact bodyPost_ret (v := .tuple #[.int .i64 k, .int .i64 i, .int .i64 (n - dby k - cum k i + 1), .nilIface]) (by simp [results, Tryz.results125, go_sem]) rfl ⟨by rw [HD.out], rfl⟩

end Go.Proofs.YtekminpoiokgfaaGreatDoor

/- Contracts of package day's Add: months more and less; what is returned is the day of the same number in the month that many months on, where there is one, else nought and false. -/
namespace Go.Proofs.YtekminpoiokgfaaGreatDoor
open Go.RowKit Cal

end Go.Proofs.YtekminpoiokgfaaGreatDoor

/- A range over a function whose iterator may write cells of its own, at the widest fence: one round out of its body's walk, and the statement out of the iterator's contract. Conditions: the assignment to the loop's variable leaves the world; a round ends normally or returns. -/
namespace Go.Proofs.YtekminpoiokgfaaGreatDoor
open Go Go.RowKit

/-- how a round's body may be left -/
def rnd (l : Nat) (r : Loop) (R : Ending → World → Prop) : Exit → Act → World → Prop
  | .normal, _, W => W.heap[l]? = some (.loop { r with state := .busy }) ∧ R (.returned (.bool true)) (W.putObj l (.loop { r with state := .ready, pending := none }))
  | .ret, _, W => W.heap[l]? = some (.loop { r with state := .busy }) ∧ R (.returned (.bool false)) (W.putObj l (.loop { r with state := .done, pending := some .ret }))
  | _, _, _ => False

/-- the record of a loop that is ready -/
structure IsRec (r : Loop) (tmps : Array Value) (ps : Array Tmp) (assign body : Code) : Prop where
  state : r.state = .ready
  pending : r.pending = none
  tmps : r.tmps = tmps
  params : r.params = ps
  assign : r.assign = assign
  body : r.body = body
theorem IsRec.again {r : Loop} {tmps : Array Value} {ps : Array Tmp} {assign body : Code} (h : IsRec r tmps ps assign body) : { r with state := .ready, pending := none } = r := by
  obtain ⟨h1, h2, _, _, _, _⟩ := h
  cases r
  simp only at h1 h2
  subst h1 h2
  rfl

theorem yieldAt_of {P : Program} {n l : Nat} {r : Loop} {x : Array Value} {W : World} {R : Ending → World → Prop} {tmps : Array Value} {ps : Array Tmp} {assign body : Code} (hR : IsRec r tmps ps assign body) (a₁ : Act)
    (hl : W.heap[l]? = some (.loop r)) (hs : x.size = ps.size)
    (hassign : ∀ K : Act → World → Prop, K a₁ W → assign.wpIn (Fence.wide.inRound l) n P (Exit.then K (fun _ _ _ => False)) { tmps := (ps.zip x).foldl (fun t (p, v) => t.setIfInBounds p v) tmps, defers := [] } W)
    (hbody : body.wpIn (Fence.wide.inRound l) n P (rnd l r R) a₁ (W.putObj l (.loop { r with state := .busy }))) :
    YieldAt Fence.wide n P l x W R := by
  obtain ⟨hr, _, rfl, rfl, rfl, rfl⟩ := hR
  refine ⟨r.fn, _, r.assign, r.body, run_yield hl hs, roundIn_of_wpIn trivial (hassign _ ⟨_, run_beginRound hl hr, wpIn_mono hbody ?_⟩)⟩
  intro e a W3 h
  cases e with
  | normal => exact ⟨_, _, run_endRound none h.1, h.2⟩
  | ret => exact ⟨_, _, run_endRound (some .ret) h.1, h.2⟩
  | exit id => exact h.elim
  | goto t => exact h.elim
  | panic ch => exact h.elim
  | outgrown => exact h.elim

theorem rangeFunc_of {P : Program} {n : Nat} {g : Operand} {ps : Array Tmp} {assign body : Code} {Q : Exit → Act → World → Prop} {a : Act} {w : World} {gf : Nat} {lb : Array Value}
    (hg : a.eval g = .func (.func gf) #[] lb) (eg : ∀ args w, (callFunc gf args).run P w = .ok (.enter gf args) w)
    (h : ∀ r0, IsRec r0 a.tmps ps assign body → CallsIn Fence.wide (n - 1) P gf (#[.func (.yield (w.heap.size + 1)) #[] #[]] ++ lb) ((w.alloc (.deferred (some []))).alloc (.loop r0)) fun e W2 =>
      (∃ v, e = .returned v) ∧ ∃ r, W2.heap[w.heap.size + 1]? = some (.loop r) ∧ r.state ≠ .busy ∧
        ((r.pending = none ∧ Q .normal { a with defers := { target := .collected w.heap.size, args := #[] } :: a.defers } (W2.putObj (w.heap.size + 1) (.loop { r with state := .exhausted }))) ∨
         (∃ c, r.pending = some c ∧ c.wpIn Fence.wide n P Q { a with defers := { target := .collected w.heap.size, args := #[] } :: a.defers } (W2.putObj (w.heap.size + 1) (.loop { r with state := .exhausted }))))) :
    (Code.rangeFunc g ps assign body).wpIn Fence.wide n P Q a w := by
  refine wpIn_rangeFunc ?_
  intro fn hfn
  have hc := h { state := .ready, pending := none, fn, tmps := a.tmps, params := ps, assign, body, defers := w.heap.size } ⟨rfl, rfl, rfl, rfl, rfl, rfl⟩
  obtain ⟨W1, hW1⟩ : ∃ W1, (w.alloc (.deferred (some []))).alloc (.loop { state := .ready, pending := none, fn, tmps := a.tmps, params := ps, assign, body, defers := w.heap.size }) = W1 := ⟨_, rfl⟩
  rw [hW1] at hc
  refine ⟨w.heap.size + 1, [{ target := .collected w.heap.size, args := #[] }], W1, { target := .fn (.func gf) lb, args := #[.func (.yield (w.heap.size + 1)) #[] #[]] }, W1, gf, #[.func (.yield (w.heap.size + 1)) #[] #[]] ++ lb, W1, ?_, ?_, fun _ _ => trivial, ?_, fun e => absurd e (by simp [Fence.wide]), ?_⟩
  · rw [← hW1]; exact run_enterLoop_outer fn a.tmps ps assign body
  · simp only [resolve, hg]
    simp [go_sem]
  · simp [invoke, go_sem, eg]
  refine hc.mono ?_
  · rintro e W2 ⟨⟨v, rfl⟩, r, hr, hb, hq⟩
    rcases hq with ⟨hp, hq⟩ | ⟨c, hp, hq⟩
    · exact ⟨none, _, (run_endLoop (P := P) hr hb).trans (by rw [hp]), hq⟩
    · exact ⟨some c, _, (run_endLoop (P := P) hr hb).trans (by rw [hp]), hq⟩
end Go.Proofs.YtekminpoiokgfaaGreatDoor

/- Small lemmas on worlds: blocks, boxes, what a store and a new block leave. -/
namespace Go.Proofs.YtekminpoiokgfaaGreatDoor
open Go.RowKit Cal

theorem below_then {a b c : World} (h : Below a.heap.size a b) (k : Below b.heap.size b c) : Below a.heap.size a c := h.trans (k.mono h.size)
theorem lt_of_cell {w : World} {b o : Nat} {v : Value} (h : w.cell? ⟨b, o, none⟩ = some v) : b < w.heap.size := by
  rcases Nat.lt_or_ge b w.heap.size with hl | hl
  · exact hl
  · simp [World.cell?, Array.getElem?_eq_none hl] at h
theorem cell_step {w w' : World} {b o : Nat} {v : Value} (h : w.cell? ⟨b, o, none⟩ = some v) (hb : Below w.heap.size w w') : w'.cell? ⟨b, o, none⟩ = some v :=
  (hb.cell (p := ⟨b, o, none⟩) (lt_of_cell h)).trans h
theorem below_alloc (w : World) (o : Obj) : Below w.heap.size w (w.alloc o) := (Below.refl _ w).alloc (Nat.le_refl _) _
theorem cell_alloc {w : World} {b o : Nat} {v : Value} (x : Obj) (h : w.cell? ⟨b, o, none⟩ = some v) : (w.alloc x).cell? ⟨b, o, none⟩ = some v := cell_step h (below_alloc w x)
theorem below_box2 (w : World) (o o' : Obj) : Below w.heap.size w ((w.alloc o).alloc o') := below_then (below_alloc w o) (below_alloc _ o')
theorem set_block {W : World} {B i : Nat} {cs : Array Value} {t : TypeId} {fr : Nat × Nat} (v : Value) (h : W.heap[B]? = some (.cells cs t fr)) : (W.setCell ⟨B, i, none⟩ v).heap[B]? = some (.cells (cs.setIfInBounds i v) t fr) := by
  obtain ⟨hlt, hk⟩ := Array.getElem?_eq_some_iff.1 h
  show (W.heap.modify B _)[B]? = _
  rw [Array.getElem?_eq_getElem (by rw [Array.size_modify]; exact hlt), Array.getElem_modify_self, hk]
  rfl
theorem grown_set (W : World) (a : Addr) (v : Value) : W.grownBy (W.setCell a v) (some a.block) :=
  ⟨rfl, rfl, rfl, (KeepsWalks.setCell W a v).size, fun k _ hk => Below.heap_setCell _ _ _ k (fun e => hk (by rw [e]))⟩
theorem grown_then {A B C : World} {r : Option Nat} (h : A.grownBy B r) (k : B.grownBy C r) : A.grownBy C r :=
  ⟨k.os.trans h.os, k.tape.trans h.tape, k.output.trans h.output, Nat.le_trans h.size k.size, fun i hi hr => (k.block i (Nat.lt_of_lt_of_le hi h.size) hr).trans (h.block i hi hr)⟩
theorem grown_below {A B : World} (h : Below A.heap.size A B) (r : Option Nat) : A.grownBy B r := ⟨h.os, h.tape, h.output, h.size, fun i hi _ => h.block i hi⟩
/-- what lies elsewhere -/
theorem grown_cell {A B : World} {r b o : Nat} {v : Value} (h : A.grownBy B (some r)) (hc : A.cell? ⟨b, o, none⟩ = some v) (hne : b ≠ r) : B.cell? ⟨b, o, none⟩ = some v :=
  (World.cell?_of_block (a := ⟨b, o, none⟩) (h.block b (lt_of_cell hc) (fun e => hne (by cases e; rfl)))).trans hc
theorem block_at {W : World} {n : Nat} (o : Obj) (h : W.heap.size = n) : (W.alloc o).heap[n]? = some o := by
  subst h; exact World.alloc_heap_new W o
theorem block_alloc {W : World} {n : Nat} {o : Obj} (o' : Obj) (h : W.heap[n]? = some o) : (W.alloc o').heap[n]? = some o :=
  ((below_alloc W o').block n (Array.getElem?_eq_some_iff.1 h).1).trans h
theorem blk5 {W : World} {n : Nat} {v0 v1 v2 v3 v4 : Value} {t : TypeId} (h : W.heap[n]? = some (.cells #[v0, v1, v2, v3, v4] t (0, 0))) :
    W.cell? ⟨n, 0, none⟩ = some v0 ∧ W.cell? ⟨n, 1, none⟩ = some v1 ∧ W.cell? ⟨n, 2, none⟩ = some v2 ∧ W.cell? ⟨n, 3, none⟩ = some v3 ∧ W.cell? ⟨n, 4, none⟩ = some v4 := by
  refine ⟨?_, ?_, ?_, ?_, ?_⟩ <;> simp [World.cell?, h]
theorem blk5_frozen {W : World} {n : Nat} {cs : Array Value} {t : TypeId} (h : W.heap[n]? = some (.cells cs t (0, 0))) (i : Nat) : W.frozen? ⟨n, i, none⟩ = false := by
  simp [World.frozen?, h]
/-- the box of a rule's value, behind a call -/
theorem box5 {w w1 : World} {v0 v1 v2 v3 v4 : Value} {t : TypeId} (hb : Below (w.alloc (.cells #[v0, v1, v2, v3, v4] t)).heap.size (w.alloc (.cells #[v0, v1, v2, v3, v4] t)) w1) :
    w1.cell? ⟨w.heap.size, 0, none⟩ = some v0 ∧ w1.cell? ⟨w.heap.size, 1, none⟩ = some v1 ∧ w1.cell? ⟨w.heap.size, 2, none⟩ = some v2 ∧ w1.cell? ⟨w.heap.size, 3, none⟩ = some v3 ∧ w1.cell? ⟨w.heap.size, 4, none⟩ = some v4 := by
  have key : ∀ (i : Nat) (v : Value), #[v0, v1, v2, v3, v4][i]? = some v → w1.cell? ⟨w.heap.size, i, none⟩ = some v := fun i v hv => by
    rw [hb.cell (p := ⟨w.heap.size, i, none⟩) (by simp)]
    have hn : (w.alloc (.cells #[v0, v1, v2, v3, v4] t)).heap[w.heap.size]? = some (.cells #[v0, v1, v2, v3, v4] t) := by
      show (w.heap.push _)[w.heap.size]? = _
      simp
    simp only [World.cell?, hn]
    exact hv
  exact ⟨key 0 _ rfl, key 1 _ rfl, key 2 _ rfl, key 3 _ rfl, key 4 _ rfl⟩
theorem set_size (W : World) (a : Addr) (v : Value) : (W.setCell a v).heap.size = W.heap.size := by
  show (W.heap.modify _ _).size = _
  rw [Array.size_modify]
theorem boxed_at {W : World} {n : Nat} (v : Value) (t : TypeId) (h : W.heap.size = n) : Boxed (W.alloc (.cells #[v] t)) n t v := by
  subst h; exact Boxed.new W t v
theorem rec_start (W5 : World) (o : Obj) : ((W5.alloc (.deferred (some []))).alloc o).heap[W5.heap.size + 1]? = some o := by
  have := World.alloc_heap_new (W5.alloc (.deferred (some []))) o
  rwa [World.size_alloc] at this
theorem own_put {w : World} {base l : Nat} {e : TypeId} {size : Nat} {v : Value} {n : Nat} {xs : List Value} (h : w.ownsRow base e size v n xs) (o : Obj) (hne : v.ownBlock ≠ some l) : (w.putObj l o).ownsRow base e size v n xs :=
  h.kept (grownBy_putObj' w l o) (.inr hne)
theorem own_base {w : World} {b b' : Nat} {e : TypeId} {size : Nat} {v : Value} {n : Nat} {xs : List Value} (h : w.ownsRow b' e size v n xs) (hb : b ≤ b') : w.ownsRow b e size v n xs := by
  refine ⟨h.1, ?_⟩
  rcases h.2 with h2 | ⟨g, cap, cur, hv, hg, r⟩
  · exact Or.inl h2
  · exact Or.inr ⟨g, cap, cur, hv, Nat.le_trans hb hg, r⟩
theorem info_int : (Tryz.prog.info? 3).map (fun i => (i.zero, i.size, i.bytes)) = some (some (.int .i64 0), 1, 8) := by kernel_rfl
/-- the days that have been read -/
def Ow (base : Nat) (W : World) (sl : Value) (ds : List Int) : Prop := W.ownsRow base 3 1 sl ds.length (ds.map (Value.int .i64))
theorem Ow.nil (base : Nat) (W : World) : Ow base W (.slice none 0 0) [] := World.ownsRow_nil _ _ _ _
theorem Ow.grown {base B : Nat} {W W' : World} {sl : Value} {ds : List Int} (h : Ow base W sl ds) (hg : W.grownBy W' (some B)) (hB : B < base) : Ow base W' sl ds :=
  World.ownsRow.kept h hg (.inr (fun he => by have := (World.ownsRow.lt h _ he).1; omega))
end Go.Proofs.YtekminpoiokgfaaGreatDoor

/- Plain mathematics of what comes again (no program text in it): the days from one on that a test lets through, the tests of the five kinds of rules, what a count and an end leave. -/
namespace Go.Proofs.YtekminpoiokgfaaGreatDoor.Cal

/-- n days from a on: those that p lets through -/
def fr (p : Int → Bool) : Int → Nat → List Int
  | _, 0 => []
  | a, n + 1 => if p a = true then a :: fr p (a + 1) n else fr p (a + 1) n
/-- the days from a on to the last one: those that p lets through -/
def From (p : Int → Bool) (a : Int) : List Int := fr p a (73049 - a).toNat

theorem mem_fr {p : Int → Bool} {x : Int} : ∀ (n : Nat) (a : Int), x ∈ fr p a n ↔ a ≤ x ∧ x < a + n ∧ p x = true
  | 0, a => by simp [fr]; omega
  | n + 1, a => by
    unfold fr
    by_cases h : p a = true
    · rw [if_pos h, List.mem_cons, mem_fr n (a + 1)]
      constructor
      · rintro (rfl | h2)
        · exact ⟨by omega, by omega, h⟩
        · exact ⟨by omega, by omega, h2.2.2⟩
      · rintro ⟨h1, h2, h3⟩
        rcases Int.lt_or_le a x with h4 | h4
        · exact .inr ⟨by omega, by omega, h3⟩
        · exact .inl (by omega)
    · rw [if_neg h, mem_fr n (a + 1)]
      constructor
      · rintro ⟨h1, h2, h3⟩
        exact ⟨by omega, by omega, h3⟩
      · rintro ⟨h1, h2, h3⟩
        rcases Int.lt_or_le a x with h4 | h4
        · exact ⟨by omega, by omega, h3⟩
        · have : x = a := by omega
          subst this; exact absurd h3 h
theorem fr_rise {p : Int → Bool} : ∀ (n : Nat) (a : Int), (fr p a n).Pairwise (· < ·)
  | 0, a => List.Pairwise.nil
  | n + 1, a => by
    unfold fr
    by_cases h : p a = true
    · rw [if_pos h, List.pairwise_cons]
      exact ⟨fun x hx => by have := (mem_fr n (a + 1)).1 hx; omega, fr_rise n (a + 1)⟩
    · rw [if_neg h]; exact fr_rise n (a + 1)
theorem From_rise (p : Int → Bool) (a : Int) : (From p a).Pairwise (· < ·) := fr_rise _ _

/-- each Every-th day -/
def pD (s e d : Int) : Bool := decide (s ≤ d ∧ (d - s) % e = 0)
/-- each Every-th week, these weekdays -/
def pW (s e : Int) (ds : List Int) (d : Int) : Bool := decide (s ≤ d ∧ ((d - (d + 5) % 7 - (s - (s + 5) % 7)) / 7) % e = 0 ∧ (d + 5) % 7 ∈ ds)
/-- the year and the month of a count of months -/
def yA (s : Int) : Int := 2000 + s / 12
def mA (s : Int) : Int := s % 12 + 1
/-- one day of a month, and the same one so many months later -/
def isM (s e d : Int) (j i dd : Nat) : Bool := decide (s = num (yA j) (mA j) dd ∧ 1 ≤ dd ∧ (dd : Int) ≤ dim (yA j) (mA j) ∧ j ≤ i ∧ ((i : Int) - j) % e = 0 ∧ (dd : Int) ≤ dim (yA i) (mA i) ∧ d = num (yA i) (mA i) dd)
/-- the same day of each Every-th month -/
def pM (s e d : Int) : Bool := (List.range 2400).any fun j => (List.range 2400).any fun i => (List.range 32).any fun dd => isM s e d j i dd
theorem pM_iff {s e d : Int} : pM s e d = true ↔ ∃ j i dd : Nat, j < 2400 ∧ i < 2400 ∧ dd < 32 ∧ isM s e d j i dd = true := by
  unfold pM
  simp only [List.any_eq_true, List.mem_range]
  constructor
  · rintro ⟨j, h1, i, h2, dd, h3, h4⟩; exact ⟨j, i, dd, h1, h2, h3, h4⟩
  · rintro ⟨j, i, dd, h1, h2, h3, h4⟩; exact ⟨j, h1, i, h2, dd, h3, h4⟩
theorem isM_iff {s e d : Int} {j i dd : Nat} : isM s e d j i dd = true ↔ (s = num (yA j) (mA j) dd ∧ 1 ≤ dd ∧ (dd : Int) ≤ dim (yA j) (mA j) ∧ j ≤ i ∧ ((i : Int) - j) % e = 0 ∧ (dd : Int) ≤ dim (yA i) (mA i) ∧ d = num (yA i) (mA i) dd) := by
  unfold isM; exact decide_eq_true_iff
theorem yA_in {s : Int} (h0 : 0 ≤ s) (h1 : s < 2400) : 2000 ≤ yA s ∧ yA s ≤ 2199 ∧ 1 ≤ mA s ∧ mA s ≤ 12 := by unfold yA mA; omega
theorem mo_inj {j k : Int} (h1 : yA j = yA k) (h2 : mA j = mA k) : j = k := by unfold yA mA at *; omega
theorem vld_mo {s dd : Int} (h0 : 0 ≤ s) (h1 : s < 2400) (h2 : 1 ≤ dd) (h3 : dd ≤ dim (yA s) (mA s)) : vld (yA s) (mA s) dd := by
  obtain ⟨a, b, c, d⟩ := yA_in h0 h1
  exact ⟨a, b, c, d, h2, h3⟩

/-- the first day of a month -/
def F (s : Int) : Int := dby (yA s) + cum (yA s) (mA s)
/-- of a day whose date is known: which days the test lets through -/
theorem pM_at {j dd : Int} {e d : Int} (hj0 : 0 ≤ j) (hj1 : j < 2400) (h1 : 1 ≤ dd) (h2 : dd ≤ dim (yA j) (mA j)) :
    pM (num (yA j) (mA j) dd) e d = true ↔ ∃ i : Int, j ≤ i ∧ i < 2400 ∧ (i - j) % e = 0 ∧ dd ≤ dim (yA i) (mA i) ∧ d = num (yA i) (mA i) dd := by
  rw [pM_iff]
  constructor
  · rintro ⟨j', i, dd', hj', hi, _, h⟩
    obtain ⟨e1, e2, e3, e4, e5, e6, e7⟩ := isM_iff.1 h
    have v1 : vld (yA j) (mA j) dd := vld_mo hj0 hj1 h1 h2
    have v2 : vld (yA j') (mA j') dd' := vld_mo (by omega) (by omega) (by omega) e3
    obtain ⟨q1, q2, q3⟩ := num_inj v1 v2 e1
    have q4 := mo_inj q1 q2
    subst q4 q3
    exact ⟨i, by omega, by omega, e5, e6, e7⟩
  · rintro ⟨i, h3, h4, h5, h6, h7⟩
    have h8 := (dim_bd (yA j) (mA j)).2
    have c1 : ((j.toNat : Nat) : Int) = j := by omega
    have c2 : ((i.toNat : Nat) : Int) = i := by omega
    have c3 : ((dd.toNat : Nat) : Int) = dd := by omega
    refine ⟨j.toNat, i.toNat, dd.toNat, by omega, by omega, by omega, isM_iff.2 ?_⟩
    rw [c1, c2, c3]
    exact ⟨rfl, by omega, h2, by omega, h5, h6, h7⟩

/-- the weekdays that a rule's weeks go by -/
def wds (s : Int) (ds : List Int) : List Int := if ds.length = 0 then [(s + 5) % 7] else ds
/-- the words of kinds -/
def onceW : List UInt8 := [111, 110, 99, 101]
def dailyW : List UInt8 := [100, 97, 105, 108, 121]
def weeklyW : List UInt8 := [119, 101, 101, 107, 108, 121]
def monthlyW : List UInt8 := [109, 111, 110, 116, 104, 108, 121]
def yearlyW : List UInt8 := [121, 101, 97, 114, 108, 121]
/-- a rule -/
structure RV where
  freq : List UInt8
  every : Int
  days : List Int
  count : Int
  til : Int

/-- a rule that is well -/
structure Well (r : RV) : Prop where
  fr : r.freq = onceW ∨ r.freq = dailyW ∨ r.freq = weeklyW ∨ r.freq = monthlyW ∨ r.freq = yearlyW
  ds : ∀ d ∈ r.days, 0 ≤ d ∧ d ≤ 6
  ev : 1 ≤ r.every ∧ r.every ≤ 100
  co : 0 ≤ r.count ∧ r.count ≤ 1000
  un : -1 ≤ r.til ∧ r.til ≤ 73048
  on : r.freq = onceW → r.every = 1 ∧ r.count = 0 ∧ r.til = -1
  wk : r.freq ≠ weeklyW → r.days = []
  cu : r.count = 0 ∨ r.til = -1
  ri : ∀ (i : Nat) (h : i + 1 < r.days.length), r.days[i] < r.days[i + 1]
/-- the test of a start and a rule -/
def cnd (f : List UInt8) (s e : Int) (ds : List Int) : Int → Bool :=
  if f = dailyW then pD s e else if f = weeklyW then pW s e (wds s ds) else if f = monthlyW then pM s e else if f = yearlyW then pM s (e * 12) else fun d => decide (d = s)
/-- all candidates -/
def cds (f : List UInt8) (s e : Int) (ds : List Int) : List Int := From (cnd f s e ds) s
/-- what an end leaves, and a count -/
def cutU (u : Int) (l : List Int) : List Int := if 0 ≤ u then l.takeWhile (fun d => decide (d ≤ u)) else l
def cut (c u : Int) (l : List Int) : List Int := if 0 < c then (cutU u l).take c.toNat else cutU u l

theorem cutU_rise {u : Int} {l : List Int} (h : l.Pairwise (· < ·)) : (cutU u l).Pairwise (· < ·) := by
  unfold cutU; split
  · exact h.sublist (List.takeWhile_sublist _)
  · exact h
theorem cut_rise {c u : Int} {l : List Int} (h : l.Pairwise (· < ·)) : (cut c u l).Pairwise (· < ·) := by
  unfold cut; split
  · exact (cutU_rise h).sublist (List.take_sublist _ _)
  · exact cutU_rise h
end Go.Proofs.YtekminpoiokgfaaGreatDoor.Cal
