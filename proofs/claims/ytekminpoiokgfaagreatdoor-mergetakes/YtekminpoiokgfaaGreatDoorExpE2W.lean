/- Which error a rule has: package expand's check, the document's own RuleError -/
import Derived.Test.YtekminpoiokgfaaGreatDoorCodeW
import Derived.Test.YtekminpoiokgfaaGreatDoorYaD
import Derived.Test.YtekminpoiokgfaaGreatDoorYaY
import Derived.Deep.DeepCutAuto
namespace Go.Proofs.YtekminpoiokgfaaGreatDoor
open Go.RowKit Cal

end Go.Proofs.YtekminpoiokgfaaGreatDoor
namespace Go.Proofs.YtekminpoiokgfaaGreatDoor
open Go.RowKit Cal

theorem in_any (n a b : Int) (w : World) : Calls Tryz.prog 58 #[.int .i64 n, .int .i64 a, .int .i64 b] w fun r w' => r = .returned (.bool (decide (a ≤ n ∧ n ≤ b))) ∧ w' = w := by
  by_cases h : a ≤ n ∧ n ≤ b
  · rw [decide_eq_true h]; exact in_yes n a b w h.1 h.2
  · rw [decide_eq_false h]; exact in_no n a b w (by omega)

/-- a rule's error, told by its days' count and values -/
structure ErrZ (f : ByteArray) (e c u : Int) (L : Nat) (z : Nat → Int) (k : Int) : Prop where
  f1 : isF f = false → k = 4
  f2 : isF f = true → ¬ bN e c u = true → k = 2
  f3 : isF f = true → ∀ j, j < L → ¬ (0 ≤ z j ∧ z j ≤ 6) → k = 2
  f4 : isF f = true → bN e c u = true → (∀ j, j < L → 0 ≤ z j ∧ z j ≤ 6) → ¬ shp (f.toList == [111, 110, 99, 101]) (f.toList == [119, 101, 101, 107, 108, 121]) e c u L → k = 3
  f5 : isF f = true → bN e c u = true → (∀ j, j < L → 0 ≤ z j ∧ z j ≤ 6) → shp (f.toList == [111, 110, 99, 101]) (f.toList == [119, 101, 101, 107, 108, 121]) e c u L → ∀ t, t + 1 < L → z (t + 1) ≤ z t → k = 8
  f0 : isF f = true → bN e c u = true → (∀ j, j < L → 0 ≤ z j ∧ z j ≤ 6) → shp (f.toList == [111, 110, 99, 101]) (f.toList == [119, 101, 101, 107, 108, 121]) e c u L → (∀ t, t + 1 < L → z t < z (t + 1)) → k = 0
theorem errZ_of {f : ByteArray} {e : Int} {ds : List Int} {c u k : Int} (h : ErrK f e ds c u k) : ErrZ f e c u ds.length (fun j => ds.getD j 0) k := by
  have hz : ∀ (j : Nat) (hj : j < ds.length), ds.getD j 0 = ds[j] := fun j hj => getD_at hj
  have hbd : (∀ j, j < ds.length → 0 ≤ ds.getD j 0 ∧ ds.getD j 0 ≤ 6) → bD ds := fun q d hd => by
    obtain ⟨j, hj, rfl⟩ := List.mem_iff_getElem.1 hd
    have := q j hj
    rw [hz j hj] at this
    exact this
  refine ⟨errK_1 h, fun h1 h2 => errK_2 h h1 (fun q => h2 q.1), fun h1 j hj h2 => ?_, fun h1 h2 h3 h4 => errK_3 h h1 ⟨h2, hbd h3⟩ h4, fun h1 h2 h3 h4 t ht h5 => errK_4 h h1 ⟨h2, hbd h3⟩ h4 (fun hr => ?_), fun h1 h2 h3 h4 h5 => (errK_0 h).2 (well_of h1 h2 (hbd h3) h4 (fun t ht => ?_))⟩
  · rw [hz j hj] at h2
    exact errK_2 h h1 (fun q => h2 (q.2 ds[j] (List.getElem_mem hj)))
  · have h6 := hr t ht
    have h7 : ds.getD (t + 1) 0 ≤ ds.getD t 0 := h5
    rw [hz t (by omega), hz (t + 1) ht] at h7
    omega
  · have := h5 t ht
    rw [hz t (by omega), hz (t + 1) ht] at this
    exact this

set_option maxHeartbeats 4000000 in
set_option maxRecDepth 100000 in
theorem ruleError_z (f : ByteArray) (e : Int) (a : Option Addr) (L cap : Nat) (z : Nat → Int) (c u k : Int) (w : World) (h20 : L ≤ 20) (hk : ErrZ f e c u L z k)
    (hc : ∀ j, j < L → ∃ ad, a = some ad ∧ (w.alloc (.cells #[.string f, .int .i64 e, .slice a L cap, .int .i64 c, .int .i64 u] 41)).cell? (ad.add j) = some (.int .i64 (z j))) :
    Calls Tryz.prog 59 #[rv f e (.slice a L cap) c u] w fun r w' => r = .returned (.int .i64 k) ∧ Below w.heap.size w w' := by
  have HC : Hid (_) := hc
  obtain ⟨f1, f2, f3, f4, f5, f0⟩ := hk
  have F2 : Hid (_) := f2
  have F3 : Hid (_) := f3
  have F4 : Hid (_) := f4
  have F5 : Hid (_) := f5
  have F0 : Hid (_) := f0
  clear hc f2 f3 f4 f5 f0
  unfold rv
  cases h1 : isF f with
  | false =>
    have K4 : Hid (k = 4) := f1 h1
    have hb : (f.toList == [111, 110, 99, 101]) = false ∧ (f.toList == [100, 97, 105, 108, 121]) = false ∧ (f.toList == [119, 101, 101, 107, 108, 121]) = false ∧ (f.toList == [109, 111, 110, 116, 104, 108, 121]) = false ∧ (f.toList == [121, 101, 97, 114, 108, 121]) = false := by
      unfold isF at h1
      simp only [Bool.or_eq_false_iff] at h1
      exact ⟨h1.1.1.1.1, h1.1.1.1.2, h1.1.1.2, h1.1.2, h1.2⟩
    obtain ⟨b1, b2, b3, b4, b5⟩ := hb
    clear f1
    go_enter Tryz.func59, Tryz.ntmps59
    go_wp2
    go_ret
    exact ⟨ret_int K4.out.symm, below_alloc _ _⟩
  | true =>
    have H1 : Hid (isF f = true) := h1
    have hfive : ((f.toList == [111, 110, 99, 101]) = true ∧ (f.toList == [119, 101, 101, 107, 108, 121]) = false) ∨ ((f.toList == [111, 110, 99, 101]) = false ∧ (f.toList == [119, 101, 101, 107, 108, 121]) = true) ∨
        ((f.toList == [111, 110, 99, 101]) = false ∧ (f.toList == [119, 101, 101, 107, 108, 121]) = false ∧ (f.toList == [100, 97, 105, 108, 121]) = true) ∨
        ((f.toList == [111, 110, 99, 101]) = false ∧ (f.toList == [119, 101, 101, 107, 108, 121]) = false ∧ (f.toList == [100, 97, 105, 108, 121]) = false ∧ (f.toList == [109, 111, 110, 116, 104, 108, 121]) = true) ∨
        ((f.toList == [111, 110, 99, 101]) = false ∧ (f.toList == [119, 101, 101, 107, 108, 121]) = false ∧ (f.toList == [100, 97, 105, 108, 121]) = false ∧ (f.toList == [109, 111, 110, 116, 104, 108, 121]) = false ∧ (f.toList == [121, 101, 97, 114, 108, 121]) = true) := by
      rw [isF_iff] at h1
      unfold onceW dailyW weeklyW monthlyW yearlyW at h1
      rcases h1 with h | h | h | h | h <;> rw [h] <;> decide
    clear h1 f1
    rcases hfive with ⟨b1, b3⟩ | ⟨b1, b3⟩ | ⟨b1, b3, b2⟩ | ⟨b1, b3, b2, b4⟩ | ⟨b1, b3, b2, b4, b5⟩
    case inl =>
      go_enter Tryz.func59, Tryz.ntmps59
      go_upto_region 5 with (fail)
      by_cases hbn : bN e c u = true
      case neg =>
        have K2 : Hid (k = 2) := F2.out H1.out hbn
        have hex : ¬ (1 ≤ e ∧ e ≤ 100 ∧ 0 ≤ c ∧ c ≤ 1000 ∧ -1 ≤ u ∧ u ≤ 73048) := fun h => hbn ((bN_iff e c u).2 h)
        have hc3 : ¬ (1 ≤ e ∧ e ≤ 100) ∨ ((1 ≤ e ∧ e ≤ 100) ∧ ¬ (0 ≤ c ∧ c ≤ 1000)) ∨ ((1 ≤ e ∧ e ≤ 100) ∧ (0 ≤ c ∧ c ≤ 1000) ∧ ¬ (-1 ≤ u ∧ u ≤ 73048)) := by omega
        clear hbn hex
        have J1 := fun w => in_any e 1 100 w
        have J2 := fun w => in_any c 0 1000 w
        have J3 := fun w => in_any u (-1) 73048 w
        rcases hc3 with g1 | ⟨g1, g2⟩ | ⟨g1, g2, g3⟩
        case' inl =>
          simp only [decide_eq_false g1] at J1
          generalize decide (0 ≤ c ∧ c ≤ 1000) = B2 at J2
          generalize decide (-1 ≤ u ∧ u ≤ 73048) = B3 at J3
        case' inr.inl =>
          simp only [decide_eq_true g1] at J1
          simp only [decide_eq_false g2] at J2
          generalize decide (-1 ≤ u ∧ u ≤ 73048) = B3 at J3
        case' inr.inr =>
          simp only [decide_eq_true g1] at J1
          simp only [decide_eq_true g2] at J2
          simp only [decide_eq_false g3] at J3
        all_goals
          have L1 : Hid (_) := J1
          have L2 : Hid (_) := J2
          have L3 : Hid (_) := J3
          clear J1 J2 J3
          go_wp2_with (first
              | (go_at_call_of 58 (Value.int .i64 e); refine (L1.out _).mono ?_; rintro r w' ⟨rfl, rfl⟩)
              | (go_at_call_of 58 (Value.int .i64 c); refine (L2.out _).mono ?_; rintro r w' ⟨rfl, rfl⟩)
              | (go_at_call_of 58 (Value.int .i64 u); refine (L3.out _).mono ?_; rintro r w' ⟨rfl, rfl⟩))
          go_ret
          exact ⟨ret_int K2.out.symm, below_alloc _ _⟩
      case pos =>
        obtain ⟨g1, g2, g3, g4, g5, g6⟩ := (bN_iff e c u).1 hbn
        have HBN : Hid (_) := hbn
        have L1 : Hid (∀ w, _) := fun w => in_yes e 1 100 w g1 g2
        have L2 : Hid (∀ w, _) := fun w => in_yes c 0 1000 w g3 g4
        have L3 : Hid (∀ w, _) := fun w => in_yes u (-1) 73048 w g5 g6
        clear hbn
        go_upto_region 10 with (first
            | (go_at_call_of 58 (Value.int .i64 e); refine (L1.out _).mono ?_; rintro r w' ⟨rfl, rfl⟩)
            | (go_at_call_of 58 (Value.int .i64 c); refine (L2.out _).mono ?_; rintro r w' ⟨rfl, rfl⟩)
            | (go_at_call_of 58 (Value.int .i64 u); refine (L3.out _).mono ?_; rintro r w' ⟨rfl, rfl⟩))
        clear L1 L2 L3
        go_wp2
        go_loop [8] (fun i => ∃ j : Nat, j ≤ L ∧ i = .int .i64 j ∧ Hid (∀ t, t < j → 0 ≤ z t ∧ z t ≤ 6)) (fun i => L - (intOf i).toNat)
        case atStart => exact ⟨0, Nat.zero_le _, rfl, fun t h => absurd h (Nat.not_lt_zero _)⟩
        case round =>
          obtain ⟨j, hj, rfl, HA⟩ := hrel
          by_cases hlt : j < L
          · obtain ⟨ad, rfl, hcell⟩ := HC.out j hlt
            have HN : Hid (0 ≤ z j → z j ≤ 6 → ∀ t, t < j + 1 → 0 ≤ z t ∧ z t ≤ 6) := fun q0 q6 t htj => by
              by_cases et : t = j
              · subst et; exact ⟨q0, q6⟩
              · exact HA.out t (by omega)
            have HF : Hid (¬ (0 ≤ z j ∧ z j ≤ 6) → k = 2) := fun hx => F3.out H1.out j hlt hx
            clear HA
            generalize z j = d at hcell HN HF
            by_cases q0 : d < 0
            · have HF' : Hid (k = 2) := HF.out (by omega)
              clear HF HN
              go_wp2
              go_ret
              exact ⟨ret_int HF'.out.symm, below_alloc _ _⟩
            · by_cases q6 : 6 < d
              · have HF' : Hid (k = 2) := HF.out (by omega)
                clear HF HN
                go_wp2
                go_ret
                exact ⟨ret_int HF'.out.symm, below_alloc _ _⟩
              · have HN' : Hid (_) := HN.out (by omega) (by omega)
                clear HF HN
                go_wp2
                go_round
                case rel => exact ⟨j + 1, by omega, by go_num, HN'.out⟩
                case measure => simp [intOf]; omega
          · have HBD : Hid (∀ t, t < L → 0 ≤ z t ∧ z t ≤ 6) := fun t ht => HA.out t (by omega)
            have F4' : Hid (¬ shp (f.toList == [111, 110, 99, 101]) (f.toList == [119, 101, 101, 107, 108, 121]) e c u L → k = 3) := F4.out H1.out HBN.out HBD.out
            have F0' : Hid (shp (f.toList == [111, 110, 99, 101]) (f.toList == [119, 101, 101, 107, 108, 121]) e c u L → (∀ t, t + 1 < L → z t < z (t + 1)) → k = 0) := F0.out H1.out HBN.out HBD.out
            have F5' : Hid (shp (f.toList == [111, 110, 99, 101]) (f.toList == [119, 101, 101, 107, 108, 121]) e c u L → ∀ t, t + 1 < L → z (t + 1) ≤ z t → k = 8) := F5.out H1.out HBN.out HBD.out
            clear HA F0 F2 F3 F4 F5
            by_cases r1 : e = 1
            · have b_e : (e != 1) = false := by rw [r1]; rfl
              by_cases r2 : c = 0
              · have b_c : (c != 0) = false := by rw [r2]; rfl
                have c_le : c ≤ 0 := by omega
                by_cases r3 : u = -1
                · have b_u : (u != -1) = false := by rw [r3]; rfl
                  by_cases r4 : L = 0
                  · have K0 : Hid (k = 0) := F0'.out ⟨fun _ => ⟨r1, r2, r3⟩, fun _ => r4, .inl r2⟩ (fun t ht => by omega)
                    subst r4
                    clear r1 r2 r3
                    go_wp2
                    go_loop [9] (fun i => i = .int .i64 1) (fun _ => 0)
                    case atStart => rfl
                    case round =>
                      subst hrel
                      go_wp2
                      go_ret
                      exact ⟨ret_int K0.out.symm, below_alloc _ _⟩
                  · have hl : (0 : Int) < L := by omega
                    have hl' : 0 < L := by omega
                    have K3 : Hid (k = 3) := F4'.out (fun h => r4 (h.2.1 b3))
                    clear r1 r2 r3 r4
                    go_wp2
                    go_ret
                    exact ⟨ret_int K3.out.symm, below_alloc _ _⟩
                · have b_u : (u != -1) = true := by rw [bne_iff_ne]; exact r3
                  have K3 : Hid (k = 3) := F4'.out (fun h => r3 (h.1 b1).2.2)
                  clear r1 r2 r3
                  go_wp2
                  go_ret
                  exact ⟨ret_int K3.out.symm, below_alloc _ _⟩
              · have b_c : (c != 0) = true := by rw [bne_iff_ne]; exact r2
                have K3 : Hid (k = 3) := F4'.out (fun h => r2 (h.1 b1).2.1)
                clear r1 r2
                go_wp2
                go_ret
                exact ⟨ret_int K3.out.symm, below_alloc _ _⟩
            · have b_e : (e != 1) = true := by rw [bne_iff_ne]; exact r1
              have K3 : Hid (k = 3) := F4'.out (fun h => r1 (h.1 b1).1)
              clear r1
              go_wp2
              go_ret
              exact ⟨ret_int K3.out.symm, below_alloc _ _⟩
    case inr.inl =>
      go_enter Tryz.func59, Tryz.ntmps59
      go_upto_region 5 with (fail)
      by_cases hbn : bN e c u = true
      case neg =>
        have K2 : Hid (k = 2) := F2.out H1.out hbn
        have hex : ¬ (1 ≤ e ∧ e ≤ 100 ∧ 0 ≤ c ∧ c ≤ 1000 ∧ -1 ≤ u ∧ u ≤ 73048) := fun h => hbn ((bN_iff e c u).2 h)
        have hc3 : ¬ (1 ≤ e ∧ e ≤ 100) ∨ ((1 ≤ e ∧ e ≤ 100) ∧ ¬ (0 ≤ c ∧ c ≤ 1000)) ∨ ((1 ≤ e ∧ e ≤ 100) ∧ (0 ≤ c ∧ c ≤ 1000) ∧ ¬ (-1 ≤ u ∧ u ≤ 73048)) := by omega
        clear hbn hex
        have J1 := fun w => in_any e 1 100 w
        have J2 := fun w => in_any c 0 1000 w
        have J3 := fun w => in_any u (-1) 73048 w
        rcases hc3 with g1 | ⟨g1, g2⟩ | ⟨g1, g2, g3⟩
        case' inl =>
          simp only [decide_eq_false g1] at J1
          generalize decide (0 ≤ c ∧ c ≤ 1000) = B2 at J2
          generalize decide (-1 ≤ u ∧ u ≤ 73048) = B3 at J3
        case' inr.inl =>
          simp only [decide_eq_true g1] at J1
          simp only [decide_eq_false g2] at J2
          generalize decide (-1 ≤ u ∧ u ≤ 73048) = B3 at J3
        case' inr.inr =>
          simp only [decide_eq_true g1] at J1
          simp only [decide_eq_true g2] at J2
          simp only [decide_eq_false g3] at J3
        all_goals
          have L1 : Hid (_) := J1
          have L2 : Hid (_) := J2
          have L3 : Hid (_) := J3
          clear J1 J2 J3
          go_wp2_with (first
              | (go_at_call_of 58 (Value.int .i64 e); refine (L1.out _).mono ?_; rintro r w' ⟨rfl, rfl⟩)
              | (go_at_call_of 58 (Value.int .i64 c); refine (L2.out _).mono ?_; rintro r w' ⟨rfl, rfl⟩)
              | (go_at_call_of 58 (Value.int .i64 u); refine (L3.out _).mono ?_; rintro r w' ⟨rfl, rfl⟩))
          go_ret
          exact ⟨ret_int K2.out.symm, below_alloc _ _⟩
      case pos =>
        obtain ⟨g1, g2, g3, g4, g5, g6⟩ := (bN_iff e c u).1 hbn
        have HBN : Hid (_) := hbn
        have L1 : Hid (∀ w, _) := fun w => in_yes e 1 100 w g1 g2
        have L2 : Hid (∀ w, _) := fun w => in_yes c 0 1000 w g3 g4
        have L3 : Hid (∀ w, _) := fun w => in_yes u (-1) 73048 w g5 g6
        clear hbn
        go_upto_region 10 with (first
            | (go_at_call_of 58 (Value.int .i64 e); refine (L1.out _).mono ?_; rintro r w' ⟨rfl, rfl⟩)
            | (go_at_call_of 58 (Value.int .i64 c); refine (L2.out _).mono ?_; rintro r w' ⟨rfl, rfl⟩)
            | (go_at_call_of 58 (Value.int .i64 u); refine (L3.out _).mono ?_; rintro r w' ⟨rfl, rfl⟩))
        clear L1 L2 L3
        go_wp2
        go_loop [8] (fun i => ∃ j : Nat, j ≤ L ∧ i = .int .i64 j ∧ Hid (∀ t, t < j → 0 ≤ z t ∧ z t ≤ 6)) (fun i => L - (intOf i).toNat)
        case atStart => exact ⟨0, Nat.zero_le _, rfl, fun t h => absurd h (Nat.not_lt_zero _)⟩
        case round =>
          obtain ⟨j, hj, rfl, HA⟩ := hrel
          by_cases hlt : j < L
          · obtain ⟨ad, rfl, hcell⟩ := HC.out j hlt
            have HN : Hid (0 ≤ z j → z j ≤ 6 → ∀ t, t < j + 1 → 0 ≤ z t ∧ z t ≤ 6) := fun q0 q6 t htj => by
              by_cases et : t = j
              · subst et; exact ⟨q0, q6⟩
              · exact HA.out t (by omega)
            have HF : Hid (¬ (0 ≤ z j ∧ z j ≤ 6) → k = 2) := fun hx => F3.out H1.out j hlt hx
            clear HA
            generalize z j = d at hcell HN HF
            by_cases q0 : d < 0
            · have HF' : Hid (k = 2) := HF.out (by omega)
              clear HF HN
              go_wp2
              go_ret
              exact ⟨ret_int HF'.out.symm, below_alloc _ _⟩
            · by_cases q6 : 6 < d
              · have HF' : Hid (k = 2) := HF.out (by omega)
                clear HF HN
                go_wp2
                go_ret
                exact ⟨ret_int HF'.out.symm, below_alloc _ _⟩
              · have HN' : Hid (_) := HN.out (by omega) (by omega)
                clear HF HN
                go_wp2
                go_round
                case rel => exact ⟨j + 1, by omega, by go_num, HN'.out⟩
                case measure => simp [intOf]; omega
          · have HBD : Hid (∀ t, t < L → 0 ≤ z t ∧ z t ≤ 6) := fun t ht => HA.out t (by omega)
            have F4' : Hid (¬ shp (f.toList == [111, 110, 99, 101]) (f.toList == [119, 101, 101, 107, 108, 121]) e c u L → k = 3) := F4.out H1.out HBN.out HBD.out
            have F0' : Hid (shp (f.toList == [111, 110, 99, 101]) (f.toList == [119, 101, 101, 107, 108, 121]) e c u L → (∀ t, t + 1 < L → z t < z (t + 1)) → k = 0) := F0.out H1.out HBN.out HBD.out
            have F5' : Hid (shp (f.toList == [111, 110, 99, 101]) (f.toList == [119, 101, 101, 107, 108, 121]) e c u L → ∀ t, t + 1 < L → z (t + 1) ≤ z t → k = 8) := F5.out H1.out HBN.out HBD.out
            clear HA F0 F2 F3 F4 F5
            by_cases r2 : 0 < c
            · by_cases r3 : u = -1
              · have b_u : (u != -1) = false := by rw [r3]; rfl
                have HSH : Hid (shp (f.toList == [111, 110, 99, 101]) (f.toList == [119, 101, 101, 107, 108, 121]) e c u L) := ⟨fun q => (by rw [b1] at q; exact absurd q (by decide)), fun q => (by rw [b3] at q; exact absurd q (by decide)), .inr r3⟩
                clear r3
                go_wp2
                go_loopw [9] (fun i wr => ∃ m q : Nat, (m + 1 ≤ L ∨ m = 0) ∧ i = .int .i64 ((m : Int) + 1) ∧ wr = (w.alloc (.cells #[.string f, .int .i64 e, .slice a L cap, .int .i64 c, .int .i64 u] 41)).drewN q ∧ Hid (∀ t, t < m → z t < z (t + 1))) (fun i _ => L - (intOf i).toNat)
                case atStart => exact ⟨0, 0, Or.inr rfl, rfl, rfl, fun t h => absurd h (by omega)⟩
                case round =>
                  obtain ⟨m, q, hk, rfl, rfl, HA⟩ := hrel
                  by_cases hlt2 : m + 1 < L
                  · obtain ⟨ad, rfl, hcell⟩ := HC.out (m + 1) hlt2
                    obtain ⟨ad', ea, hcell'⟩ := HC.out m (by omega)
                    have ea' : ad' = ad := by simpa using ea.symm
                    subst ea'
                    have HN : Hid (z m < z (m + 1) → ∀ t, t < m + 1 → z t < z (t + 1)) := fun hx t htj => by
                      by_cases et : t = m
                      · subst et; exact hx
                      · exact HA.out t (by omega)
                    have HF : Hid (¬ z m < z (m + 1) → k = 8) := fun hx => F5'.out HSH.out m hlt2 (by omega)
                    clear HA ea
                    generalize z (m + 1) = d at hcell HN HF
                    generalize z m = d' at hcell' HN HF
                    have hlt' : (m : Int) + 1 < L := by omega
                    cases m with
                    | zero =>
                      have hc1 : (w.alloc (.cells #[.string f, .int .i64 e, .slice (some ad') L cap, .int .i64 c, .int .i64 u] 41)).cell? ⟨ad'.block, ad'.off + 1, none⟩ = some (.int .i64 d) := hcell
                      have hc0 : (w.alloc (.cells #[.string f, .int .i64 e, .slice (some ad') L cap, .int .i64 c, .int .i64 u] 41)).cell? ad' = some (.int .i64 d') := hcell'
                      have hl1 : 1 < L := by omega
                      have hl2 : (1 : Int) < L := by omega
                      clear hcell hcell'
                      by_cases hx : d' < d
                      · have HN' : Hid (_) := HN.out hx
                        clear HF HN
                        go_wp2_with (fail)
                        go_quiet (fail)
                        go_wp2
                        go_roundw
                        case rel => exact ⟨0 + 1, _, by omega, by go_num, rfl, HN'.out⟩
                        case measure => simp [intOf]; omega
                      · have HF' : Hid (k = 8) := HF.out hx
                        clear HF HN
                        have hx' : d ≤ d' := by omega
                        go_wp2_with (fail)
                        go_quiet (fail)
                        go_wp2
                        go_ret
                        exact ⟨ret_int HF'.out.symm, below_then (below_alloc _ _) (below_then (drewN_below _ _) (drewN_below _ _))⟩
                    | succ m =>
                      have hp1 : 0 ≤ ((m + 1 : Nat) : Int) + 1 := by omega
                      have hp2 : 0 ≤ (m : Int) + 1 + 1 := by omega
                      have hp3 : 0 ≤ (m : Int) + 1 := by omega
                      have hl1 : (m : Int) + 1 + 1 < L := by omega
                      have hl2 : (m : Int) + 1 < L := by omega
                      have hl3 : m + 1 < L := by omega
                      have hl4 : m + 1 + 1 < L := by omega
                      have hc1 : (w.alloc (.cells #[.string f, .int .i64 e, .slice (some ad') L cap, .int .i64 c, .int .i64 u] 41)).cell? ⟨ad'.block, ad'.off + (m + 1 + 1), none⟩ = some (.int .i64 d) := hcell
                      have hc0 : (w.alloc (.cells #[.string f, .int .i64 e, .slice (some ad') L cap, .int .i64 c, .int .i64 u] 41)).cell? ⟨ad'.block, ad'.off + (m + 1), none⟩ = some (.int .i64 d') := hcell'
                      clear hcell hcell'
                      by_cases hx : d' < d
                      · have HN' : Hid (_) := HN.out hx
                        clear HF HN
                        go_wp2_with (fail)
                        go_quiet (fail)
                        go_wp2
                        go_roundw
                        case rel => exact ⟨m + 1 + 1, _, by omega, by go_num, rfl, HN'.out⟩
                        case measure => simp [intOf]; omega
                      · have HF' : Hid (k = 8) := HF.out hx
                        clear HF HN
                        have hx' : d ≤ d' := by omega
                        go_wp2_with (fail)
                        go_quiet (fail)
                        go_wp2
                        go_ret
                        exact ⟨ret_int HF'.out.symm, below_then (below_alloc _ _) (below_then (drewN_below _ _) (drewN_below _ _))⟩
                  · have K0 : Hid (k = 0) := F0'.out HSH.out (fun t ht => HA.out t (by omega))
                    clear HA
                    have hlt' : ¬ (m : Int) + 1 < L := by omega
                    go_wp2
                    go_ret
                    exact ⟨ret_int K0.out.symm, below_then (below_alloc _ _) (drewN_below _ _)⟩
              · have b_u : (u != -1) = true := by rw [bne_iff_ne]; exact r3
                have K3 : Hid (k = 3) := F4'.out (fun h => by rcases h.2.2 with q | q <;> omega)
                clear r3
                go_wp2
                go_ret
                exact ⟨ret_int K3.out.symm, below_alloc _ _⟩
            · have HSH : Hid (shp (f.toList == [111, 110, 99, 101]) (f.toList == [119, 101, 101, 107, 108, 121]) e c u L) := ⟨fun q => (by rw [b1] at q; exact absurd q (by decide)), fun q => (by rw [b3] at q; exact absurd q (by decide)), .inl (by omega)⟩
              have r2' : c ≤ 0 := by omega
              clear r2
              go_wp2
              go_loopw [9] (fun i wr => ∃ m q : Nat, (m + 1 ≤ L ∨ m = 0) ∧ i = .int .i64 ((m : Int) + 1) ∧ wr = (w.alloc (.cells #[.string f, .int .i64 e, .slice a L cap, .int .i64 c, .int .i64 u] 41)).drewN q ∧ Hid (∀ t, t < m → z t < z (t + 1))) (fun i _ => L - (intOf i).toNat)
              case atStart => exact ⟨0, 0, Or.inr rfl, rfl, rfl, fun t h => absurd h (by omega)⟩
              case round =>
                obtain ⟨m, q, hk, rfl, rfl, HA⟩ := hrel
                by_cases hlt2 : m + 1 < L
                · obtain ⟨ad, rfl, hcell⟩ := HC.out (m + 1) hlt2
                  obtain ⟨ad', ea, hcell'⟩ := HC.out m (by omega)
                  have ea' : ad' = ad := by simpa using ea.symm
                  subst ea'
                  have HN : Hid (z m < z (m + 1) → ∀ t, t < m + 1 → z t < z (t + 1)) := fun hx t htj => by
                    by_cases et : t = m
                    · subst et; exact hx
                    · exact HA.out t (by omega)
                  have HF : Hid (¬ z m < z (m + 1) → k = 8) := fun hx => F5'.out HSH.out m hlt2 (by omega)
                  clear HA ea
                  generalize z (m + 1) = d at hcell HN HF
                  generalize z m = d' at hcell' HN HF
                  have hlt' : (m : Int) + 1 < L := by omega
                  cases m with
                  | zero =>
                    have hc1 : (w.alloc (.cells #[.string f, .int .i64 e, .slice (some ad') L cap, .int .i64 c, .int .i64 u] 41)).cell? ⟨ad'.block, ad'.off + 1, none⟩ = some (.int .i64 d) := hcell
                    have hc0 : (w.alloc (.cells #[.string f, .int .i64 e, .slice (some ad') L cap, .int .i64 c, .int .i64 u] 41)).cell? ad' = some (.int .i64 d') := hcell'
                    have hl1 : 1 < L := by omega
                    have hl2 : (1 : Int) < L := by omega
                    clear hcell hcell'
                    by_cases hx : d' < d
                    · have HN' : Hid (_) := HN.out hx
                      clear HF HN
                      go_wp2_with (fail)
                      go_quiet (fail)
                      go_wp2
                      go_roundw
                      case rel => exact ⟨0 + 1, _, by omega, by go_num, rfl, HN'.out⟩
                      case measure => simp [intOf]; omega
                    · have HF' : Hid (k = 8) := HF.out hx
                      clear HF HN
                      have hx' : d ≤ d' := by omega
                      go_wp2_with (fail)
                      go_quiet (fail)
                      go_wp2
                      go_ret
                      exact ⟨ret_int HF'.out.symm, below_then (below_alloc _ _) (below_then (drewN_below _ _) (drewN_below _ _))⟩
                  | succ m =>
                    have hp1 : 0 ≤ ((m + 1 : Nat) : Int) + 1 := by omega
                    have hp2 : 0 ≤ (m : Int) + 1 + 1 := by omega
                    have hp3 : 0 ≤ (m : Int) + 1 := by omega
                    have hl1 : (m : Int) + 1 + 1 < L := by omega
                    have hl2 : (m : Int) + 1 < L := by omega
                    have hl3 : m + 1 < L := by omega
                    have hl4 : m + 1 + 1 < L := by omega
                    have hc1 : (w.alloc (.cells #[.string f, .int .i64 e, .slice (some ad') L cap, .int .i64 c, .int .i64 u] 41)).cell? ⟨ad'.block, ad'.off + (m + 1 + 1), none⟩ = some (.int .i64 d) := hcell
                    have hc0 : (w.alloc (.cells #[.string f, .int .i64 e, .slice (some ad') L cap, .int .i64 c, .int .i64 u] 41)).cell? ⟨ad'.block, ad'.off + (m + 1), none⟩ = some (.int .i64 d') := hcell'
                    clear hcell hcell'
                    by_cases hx : d' < d
                    · have HN' : Hid (_) := HN.out hx
                      clear HF HN
                      go_wp2_with (fail)
                      go_quiet (fail)
                      go_wp2
                      go_roundw
                      case rel => exact ⟨m + 1 + 1, _, by omega, by go_num, rfl, HN'.out⟩
                      case measure => simp [intOf]; omega
                    · have HF' : Hid (k = 8) := HF.out hx
                      clear HF HN
                      have hx' : d ≤ d' := by omega
                      go_wp2_with (fail)
                      go_quiet (fail)
                      go_wp2
                      go_ret
                      exact ⟨ret_int HF'.out.symm, below_then (below_alloc _ _) (below_then (drewN_below _ _) (drewN_below _ _))⟩
                · have K0 : Hid (k = 0) := F0'.out HSH.out (fun t ht => HA.out t (by omega))
                  clear HA
                  have hlt' : ¬ (m : Int) + 1 < L := by omega
                  go_wp2
                  go_ret
                  exact ⟨ret_int K0.out.symm, below_then (below_alloc _ _) (drewN_below _ _)⟩
    all_goals
      go_enter Tryz.func59, Tryz.ntmps59
      go_upto_region 5 with (fail)
      by_cases hbn : bN e c u = true
      case neg =>
        have K2 : Hid (k = 2) := F2.out H1.out hbn
        have hex : ¬ (1 ≤ e ∧ e ≤ 100 ∧ 0 ≤ c ∧ c ≤ 1000 ∧ -1 ≤ u ∧ u ≤ 73048) := fun h => hbn ((bN_iff e c u).2 h)
        have hc3 : ¬ (1 ≤ e ∧ e ≤ 100) ∨ ((1 ≤ e ∧ e ≤ 100) ∧ ¬ (0 ≤ c ∧ c ≤ 1000)) ∨ ((1 ≤ e ∧ e ≤ 100) ∧ (0 ≤ c ∧ c ≤ 1000) ∧ ¬ (-1 ≤ u ∧ u ≤ 73048)) := by omega
        clear hbn hex
        have J1 := fun w => in_any e 1 100 w
        have J2 := fun w => in_any c 0 1000 w
        have J3 := fun w => in_any u (-1) 73048 w
        rcases hc3 with g1 | ⟨g1, g2⟩ | ⟨g1, g2, g3⟩
        case' inl =>
          simp only [decide_eq_false g1] at J1
          generalize decide (0 ≤ c ∧ c ≤ 1000) = B2 at J2
          generalize decide (-1 ≤ u ∧ u ≤ 73048) = B3 at J3
        case' inr.inl =>
          simp only [decide_eq_true g1] at J1
          simp only [decide_eq_false g2] at J2
          generalize decide (-1 ≤ u ∧ u ≤ 73048) = B3 at J3
        case' inr.inr =>
          simp only [decide_eq_true g1] at J1
          simp only [decide_eq_true g2] at J2
          simp only [decide_eq_false g3] at J3
        all_goals
          have L1 : Hid (_) := J1
          have L2 : Hid (_) := J2
          have L3 : Hid (_) := J3
          clear J1 J2 J3
          go_wp2_with (first
              | (go_at_call_of 58 (Value.int .i64 e); refine (L1.out _).mono ?_; rintro r w' ⟨rfl, rfl⟩)
              | (go_at_call_of 58 (Value.int .i64 c); refine (L2.out _).mono ?_; rintro r w' ⟨rfl, rfl⟩)
              | (go_at_call_of 58 (Value.int .i64 u); refine (L3.out _).mono ?_; rintro r w' ⟨rfl, rfl⟩))
          go_ret
          exact ⟨ret_int K2.out.symm, below_alloc _ _⟩
      case pos =>
        obtain ⟨g1, g2, g3, g4, g5, g6⟩ := (bN_iff e c u).1 hbn
        have HBN : Hid (_) := hbn
        have L1 : Hid (∀ w, _) := fun w => in_yes e 1 100 w g1 g2
        have L2 : Hid (∀ w, _) := fun w => in_yes c 0 1000 w g3 g4
        have L3 : Hid (∀ w, _) := fun w => in_yes u (-1) 73048 w g5 g6
        clear hbn
        go_upto_region 10 with (first
            | (go_at_call_of 58 (Value.int .i64 e); refine (L1.out _).mono ?_; rintro r w' ⟨rfl, rfl⟩)
            | (go_at_call_of 58 (Value.int .i64 c); refine (L2.out _).mono ?_; rintro r w' ⟨rfl, rfl⟩)
            | (go_at_call_of 58 (Value.int .i64 u); refine (L3.out _).mono ?_; rintro r w' ⟨rfl, rfl⟩))
        clear L1 L2 L3
        go_wp2
        go_loop [8] (fun i => ∃ j : Nat, j ≤ L ∧ i = .int .i64 j ∧ Hid (∀ t, t < j → 0 ≤ z t ∧ z t ≤ 6)) (fun i => L - (intOf i).toNat)
        case atStart => exact ⟨0, Nat.zero_le _, rfl, fun t h => absurd h (Nat.not_lt_zero _)⟩
        case round =>
          obtain ⟨j, hj, rfl, HA⟩ := hrel
          by_cases hlt : j < L
          · obtain ⟨ad, rfl, hcell⟩ := HC.out j hlt
            have HN : Hid (0 ≤ z j → z j ≤ 6 → ∀ t, t < j + 1 → 0 ≤ z t ∧ z t ≤ 6) := fun q0 q6 t htj => by
              by_cases et : t = j
              · subst et; exact ⟨q0, q6⟩
              · exact HA.out t (by omega)
            have HF : Hid (¬ (0 ≤ z j ∧ z j ≤ 6) → k = 2) := fun hx => F3.out H1.out j hlt hx
            clear HA
            generalize z j = d at hcell HN HF
            by_cases q0 : d < 0
            · have HF' : Hid (k = 2) := HF.out (by omega)
              clear HF HN
              go_wp2
              go_ret
              exact ⟨ret_int HF'.out.symm, below_alloc _ _⟩
            · by_cases q6 : 6 < d
              · have HF' : Hid (k = 2) := HF.out (by omega)
                clear HF HN
                go_wp2
                go_ret
                exact ⟨ret_int HF'.out.symm, below_alloc _ _⟩
              · have HN' : Hid (_) := HN.out (by omega) (by omega)
                clear HF HN
                go_wp2
                go_round
                case rel => exact ⟨j + 1, by omega, by go_num, HN'.out⟩
                case measure => simp [intOf]; omega
          · have HBD : Hid (∀ t, t < L → 0 ≤ z t ∧ z t ≤ 6) := fun t ht => HA.out t (by omega)
            have F4' : Hid (¬ shp (f.toList == [111, 110, 99, 101]) (f.toList == [119, 101, 101, 107, 108, 121]) e c u L → k = 3) := F4.out H1.out HBN.out HBD.out
            have F0' : Hid (shp (f.toList == [111, 110, 99, 101]) (f.toList == [119, 101, 101, 107, 108, 121]) e c u L → (∀ t, t + 1 < L → z t < z (t + 1)) → k = 0) := F0.out H1.out HBN.out HBD.out
            have F5' : Hid (shp (f.toList == [111, 110, 99, 101]) (f.toList == [119, 101, 101, 107, 108, 121]) e c u L → ∀ t, t + 1 < L → z (t + 1) ≤ z t → k = 8) := F5.out H1.out HBN.out HBD.out
            clear HA F0 F2 F3 F4 F5
            by_cases r4 : L = 0
            · subst r4
              by_cases r2 : 0 < c
              · by_cases r3 : u = -1
                · have b_u : (u != -1) = false := by rw [r3]; rfl
                  have K0 : Hid (k = 0) := F0'.out ⟨fun q => (by rw [b1] at q; exact absurd q (by decide)), fun _ => rfl, .inr r3⟩ (fun t ht => by omega)
                  clear r3
                  go_wp2
                  go_loop [9] (fun i => i = .int .i64 1) (fun _ => 0)
                  case atStart => rfl
                  case round =>
                    subst hrel
                    go_wp2
                    go_ret
                    exact ⟨ret_int K0.out.symm, below_alloc _ _⟩
                · have b_u : (u != -1) = true := by rw [bne_iff_ne]; exact r3
                  have K3 : Hid (k = 3) := F4'.out (fun h => by rcases h.2.2 with q | q <;> omega)
                  clear r3
                  go_wp2
                  go_ret
                  exact ⟨ret_int K3.out.symm, below_alloc _ _⟩
              · have K0 : Hid (k = 0) := F0'.out ⟨fun q => (by rw [b1] at q; exact absurd q (by decide)), fun _ => rfl, .inl (by omega)⟩ (fun t ht => by omega)
                have r2' : c ≤ 0 := by omega
                clear r2
                go_wp2
                go_loop [9] (fun i => i = .int .i64 1) (fun _ => 0)
                case atStart => rfl
                case round =>
                  subst hrel
                  go_wp2
                  go_ret
                  exact ⟨ret_int K0.out.symm, below_alloc _ _⟩
            · have hl : (0 : Int) < L := by omega
              have hl' : 0 < L := by omega
              have K3 : Hid (k = 3) := F4'.out (fun h => r4 (h.2.1 b3))
              clear r4
              go_wp2
              go_ret
              exact ⟨ret_int K3.out.symm, below_alloc _ _⟩

theorem ruleError_k (f : ByteArray) (e : Int) (sl : Value) (c u : Int) (ds : List Int) (k : Int) (w : World) (hg : Got w sl ds) (h20 : ds.length ≤ 20) (hk : ErrK f e ds c u k) :
    Calls Tryz.prog 59 #[rv f e sl c u] w fun r w' => r = .returned (.int .i64 k) ∧ Below w.heap.size w w' := by
  obtain ⟨a, cap, rfl, hn, hs⟩ := hg
  refine ruleError_z f e a ds.length cap (fun j => ds.getD j 0) c u k w h20 (errZ_of hk) (fun j hj => ?_)
  cases a with
  | none => exact absurd (hn rfl).1 (by omega)
  | some ad =>
    obtain ⟨p1, p2⟩ := hs ad rfl j hj
    refine ⟨ad, rfl, ?_⟩
    show _ = some (Value.int .i64 (ds.getD j 0))
    rw [getD_at hj]
    exact (World.cell?_of_block (a := ad.add j) ((below_alloc w _).block _ (by rw [addr_add_block]; exact p1))).trans p2
end Go.Proofs.YtekminpoiokgfaaGreatDoor
