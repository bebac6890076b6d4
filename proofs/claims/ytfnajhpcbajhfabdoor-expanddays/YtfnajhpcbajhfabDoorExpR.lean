/- The document's own answers to what comes again: dates, isIn, stepOf, isCandidate -/
import Derived.Test.YtfnajhpcbajhfabDoorRefE
import Derived.Test.YtfnajhpcbajhfabDoorExpM2
import Derived.Test.YtfnajhpcbajhfabDoorExpO
namespace Go.Proofs.YtfnajhpcbajhfabDoor
open Go.RowKit Cal

theorem dim2E (k : Int) (h0 : 2000 ≤ k) (h1 : k ≤ 2199) : ((dim k 2 == 29) = true ∧ yd k = 366) ∨ ((dim k 2 == 29) = false ∧ yd k = 365) := by
  have h := dim_feb k h0 h1
  rcases lp_eq k with ⟨_, hl⟩ | ⟨_, hl⟩
  · exact Or.inl ⟨by simp; omega, by unfold yd; omega⟩
  · exact Or.inr ⟨by simp; omega, by unfold yd; omega⟩

set_option maxHeartbeats 1000000 in
theorem dateOf_okE (n y m d : Int) (w : World) (h : vld y m d) (hn : num y m d = n) :
    Calls Tryd.prog 37 #[.int .i64 n] w fun e w' => e = .returned (.tuple #[.int .i64 y, .int .i64 m, .int .i64 d]) ∧ w' = w := by
  have hnb := num_bd h
  have hny := num_year h
  have hnm := num_month h
  have hdd : d = n - dby y - cum y m + 1 := by unfold num at hn; omega
  rw [hn] at hnb hny hnm
  obtain ⟨hy0, hy1, hm0, hm1, hd0, hd1⟩ := h
  have HD : Hid (_) := hdd
  clear hdd hn
  obtain ⟨hn0, hn1⟩ := hnb
  obtain ⟨ha, hb⟩ := hny
  obtain ⟨hc, hd⟩ := hnm
  go_enter Tryd.func37, Tryd.ntmps37
  go_wp2
  go_loop [0, 5] (fun r t => ∃ k : Int, 2000 ≤ k ∧ k ≤ y ∧ t = .int .i64 k ∧ r = .int .i64 (n - dby k)) (fun _ t => (y - intOf t).toNat)
  case atStart => exact ⟨2000, by omega, by omega, rfl, by rw [dby_zero]; go_num⟩
  case round =>
    obtain ⟨k, hk0, hk1, rfl, rfl⟩ := hrel
    have kb := dby_bd k hk0 (by omega)
    have ks := dby_succ k
    by_cases hlt : k < y
    · have hm := dby_mono (k + 1) y (by omega)
      rcases dim2E k hk0 (by omega) with ⟨h29, hyd⟩ | ⟨h29, hyd⟩
      · rw [hyd] at ks
        have hge : 366 ≤ n - dby k := by omega
        have KS : Hid (_) := ks
        clear ks hyd
        go_wp2_with (go_at_call 49; refine (monthOf_any _ _ _).mono ?_; rintro e w' ⟨rfl, rfl⟩)
        go_round
        case rel => exact ⟨k + 1, by omega, by omega, rfl, by rw [KS.out]; go_num⟩
        case measure => simp [intOf]; omega
      · rw [hyd] at ks
        have hge : 365 ≤ n - dby k := by omega
        have KS : Hid (_) := ks
        clear ks hyd
        go_wp2_with (go_at_call 49; refine (monthOf_any _ _ _).mono ?_; rintro e w' ⟨rfl, rfl⟩)
        go_round
        case rel => exact ⟨k + 1, by omega, by omega, rfl, by rw [KS.out]; go_num⟩
        case measure => simp [intOf]; omega
    · obtain rfl : k = y := by omega
      rcases dim2E k hk0 (by omega) with ⟨h29, hyd⟩ | ⟨h29, hyd⟩
      · rw [hyd] at ks
        have hl : n - dby k < 366 := by omega
        clear ks hlt hyd
        go_wp2_with (go_at_call 49; refine (monthOf_any _ _ _).mono ?_; rintro e w' ⟨rfl, rfl⟩)
        go_loop [0, 7] (fun r t => ∃ i : Int, 1 ≤ i ∧ i ≤ m ∧ t = .int .i64 i ∧ r = .int .i64 (n - dby k - cum k i)) (fun _ t => (m - intOf t).toNat)
        case atStart => exact ⟨1, by omega, by omega, rfl, by rw [cum_one]; go_num⟩
        case round =>
          obtain ⟨i, hi0, hi1, rfl, rfl⟩ := hrel
          have ib := cum_bd k i hi0 (by omega)
          have id := dim_bd k i
          have is := cum_succ k i hy0 hy1 hi0 (by omega)
          by_cases hlt : i < m
          · have hm := cum_mono k (i + 1) m (by omega) (by omega)
            have hge : dim k i ≤ n - dby k - cum k i := by omega
            have IS : Hid (_) := is
            clear is
            go_wp2_with (go_at_call 49; refine (monthOf_any _ _ _).mono ?_; rintro e w' ⟨rfl, rfl⟩)
            go_round
            case rel => exact ⟨i + 1, by omega, by omega, rfl, by rw [IS.out]; go_num⟩
            case measure => simp [intOf]; omega
          · obtain rfl : i = m := by omega
            have hl : n - dby k - cum k i < dim k i := by omega
            clear is hlt
            go_wp2_with (go_at_call 49; refine (monthOf_any _ _ _).mono ?_; rintro e w' ⟨rfl, rfl⟩)
            go_ret3
            exact ⟨by rw [HD.out]; rfl, rfl⟩
      · rw [hyd] at ks
        have hl : n - dby k < 365 := by omega
        clear ks hlt hyd
        go_wp2_with (go_at_call 49; refine (monthOf_any _ _ _).mono ?_; rintro e w' ⟨rfl, rfl⟩)
        go_loop [0, 7] (fun r t => ∃ i : Int, 1 ≤ i ∧ i ≤ m ∧ t = .int .i64 i ∧ r = .int .i64 (n - dby k - cum k i)) (fun _ t => (m - intOf t).toNat)
        case atStart => exact ⟨1, by omega, by omega, rfl, by rw [cum_one]; go_num⟩
        case round =>
          obtain ⟨i, hi0, hi1, rfl, rfl⟩ := hrel
          have ib := cum_bd k i hi0 (by omega)
          have id := dim_bd k i
          have is := cum_succ k i hy0 hy1 hi0 (by omega)
          by_cases hlt : i < m
          · have hm := cum_mono k (i + 1) m (by omega) (by omega)
            have hge : dim k i ≤ n - dby k - cum k i := by omega
            have IS : Hid (_) := is
            clear is
            go_wp2_with (go_at_call 49; refine (monthOf_any _ _ _).mono ?_; rintro e w' ⟨rfl, rfl⟩)
            go_round
            case rel => exact ⟨i + 1, by omega, by omega, rfl, by rw [IS.out]; go_num⟩
            case measure => simp [intOf]; omega
          · obtain rfl : i = m := by omega
            have hl : n - dby k - cum k i < dim k i := by omega
            clear is hlt
            go_wp2_with (go_at_call 49; refine (monthOf_any _ _ _).mono ?_; rintro e w' ⟨rfl, rfl⟩)
            go_ret3
            exact ⟨by rw [HD.out]; rfl, rfl⟩
end Go.Proofs.YtfnajhpcbajhfabDoor
namespace Go.Proofs.YtfnajhpcbajhfabDoor.Cal

theorem mo_of {y m d : Int} (h : vld y m d) : yA ((y - 2000) * 12 + m - 1) = y ∧ mA ((y - 2000) * 12 + m - 1) = m ∧ 0 ≤ (y - 2000) * 12 + m - 1 ∧ (y - 2000) * 12 + m - 1 < 2400 := by
  obtain ⟨a, b, c, e, _, _⟩ := h
  unfold yA mA
  omega
theorem pM_dates {y m a z n b s d e : Int} (h1 : vld y m a) (hs : num y m a = s) (h2 : vld z n b) (hd : num z n b = d) (hle : s ≤ d) :
    (pM s e d = true ↔ a = b ∧ (12 * (z - y) + n - m) % e = 0) ∧ (a = b → 0 ≤ 12 * (z - y) + n - m) := by
  obtain ⟨e1, e2, j0, j1⟩ := mo_of h1
  obtain ⟨e3, e4, i0, i1⟩ := mo_of h2
  have hj : (y - 2000) * 12 + m - 1 = (y - 2000) * 12 + m - 1 := rfl
  generalize hjj : (y - 2000) * 12 + m - 1 = j at e1 e2 j0 j1
  generalize hii : (z - 2000) * 12 + n - 1 = i at e3 e4 i0 i1
  have hij : 12 * (z - y) + n - m = i - j := by omega
  rw [hij]
  have hs' : s = num (yA j) (mA j) a := by rw [e1, e2]; exact hs.symm
  have hd' : d = num (yA i) (mA i) b := by rw [e3, e4]; exact hd.symm
  have ha : 1 ≤ a := h1.2.2.2.2.1
  have ha2 : a ≤ dim (yA j) (mA j) := by rw [e1, e2]; exact h1.2.2.2.2.2
  have hb : 1 ≤ b := h2.2.2.2.2.1
  have hb2 : b ≤ dim (yA i) (mA i) := by rw [e3, e4]; exact h2.2.2.2.2.2
  have hge : a = b → j ≤ i := fun hab => by
    rcases Int.lt_or_le i j with h | h
    · have f1 := F_succ (s := i) i0 i1
      have f2 := F_le (s := i + 1) (t := j) (by omega) (by omega) (by omega)
      rw [num_F] at hs' hd'
      omega
    · exact h
  refine ⟨?_, fun hab => by have := hge hab; omega⟩
  rw [hs', pM_at j0 j1 ha ha2]
  constructor
  · rintro ⟨k, k0, k1, k2, k3, k4⟩
    rw [hd'] at k4
    obtain ⟨q1, q2, q3⟩ := num_inj (vld_mo i0 i1 hb hb2) (vld_mo (by omega) k1 ha k3) k4
    have := mo_inj q1 q2
    subst this
    exact ⟨q3.symm, k2⟩
  · rintro ⟨hab, hm⟩
    subst hab
    exact ⟨i, hge rfl, i1, hm, hb2, hd'⟩
theorem year_mod {y z m n e : Int} (hm0 : 1 ≤ m) (hm1 : m ≤ 12) (hn0 : 1 ≤ n) (hn1 : n ≤ 12) : (12 * (z - y) + n - m) % (e * 12) = 0 ↔ n = m ∧ (z - y) % e = 0 := by
  constructor
  · intro h
    have h1 : (12 : Int) ∣ 12 * (z - y) + n - m := Int.dvd_trans ⟨e, by omega⟩ (Int.dvd_of_emod_eq_zero h)
    have h2 : n = m := by omega
    subst h2
    refine ⟨rfl, ?_⟩
    have h3 : 12 * (z - y) + n - n = 12 * (z - y) := by omega
    rw [h3, Int.mul_comm e 12, Int.mul_emod_mul_of_pos _ _ (by decide)] at h
    omega
  · rintro ⟨rfl, h⟩
    have h3 : 12 * (z - y) + n - n = 12 * (z - y) := by omega
    rw [h3, Int.mul_comm e 12, Int.mul_emod_mul_of_pos _ _ (by decide), h]
    rfl
end Go.Proofs.YtfnajhpcbajhfabDoor.Cal
namespace Go.Proofs.YtfnajhpcbajhfabDoor
open Go.RowKit Cal

/-- the cells of a list of numbers, wherever it lies -/
def Gcl (w : World) (ad : Addr) (ds : List Int) : Prop := ∀ (j : Nat) (h : j < ds.length), w.cell? (ad.add j) = some (.int .i64 ds[j])

/-- is it one of these? -/
def inB (ds : List Int) (x : Int) : Bool := ds.contains x

theorem isIn_some (x : Int) (ad : Addr) (cap : Nat) (ds : List Int) (w : World) (hn : ds.length ≤ 100000) (hc : Gcl w ad ds) :
    Calls Tryd.prog 26 #[.int .i64 x, .slice (some ad) ds.length cap] w fun r w' => r = .returned (.bool (inB ds x)) ∧ w' = w := by
  have HC : Hid (_) := hc
  clear hc
  go_enter Tryd.func26, Tryd.ntmps26
  go_wp2
  go_loop [5] (fun i => ∃ k : Nat, k ≤ ds.length ∧ i = .int .i64 k ∧ Hid (inB ds x = inB (ds.drop k) x)) (fun i => ds.length - (intOf i).toNat)
  case atStart => exact ⟨0, Nat.zero_le _, rfl, rfl⟩
  case round =>
    obtain ⟨k, hk, rfl, HA⟩ := hrel
    by_cases hlt : k < ds.length
    · have hcell := HC.out k hlt
      have HD : Hid (inB (ds.drop k) x = ((x == ds[k]) || inB (ds.drop (k + 1)) x)) := by
        show _ = _
        unfold inB
        rw [List.drop_eq_getElem_cons hlt, List.contains_cons]
      by_cases hx : ds[k] = x
      · have hb : (ds[k] == x) = true := by rw [beq_iff_eq]; exact hx
        have HR : Hid (inB ds x = true) := by
          show _ = _
          rw [HA.out, HD.out, hx]; simp
        clear hx HA HD
        go_wp2
        go_ret
        exact ⟨ret_bool HR.out.symm, rfl⟩
      · have hb : (ds[k] == x) = false := by rw [beq_eq_false_iff_ne]; exact hx
        have HR : Hid (inB ds x = inB (ds.drop (k + 1)) x) := by
          show _ = _
          rw [HA.out, HD.out, beq_eq_false_iff_ne.2 (Ne.symm hx), Bool.false_or]
        clear hx HA HD
        go_wp2
        go_round
        case rel => exact ⟨k + 1, by omega, by go_num, HR⟩
        case measure => simp [intOf]; omega
    · have HR : Hid (inB ds x = false) := by
        show _ = _
        rw [HA.out, List.drop_eq_nil_of_le (by omega)]; rfl
      clear HA
      go_wp2
      go_ret
      exact ⟨ret_bool HR.out.symm, rfl⟩
theorem isIn_none (x : Int) (w : World) :
    Calls Tryd.prog 26 #[.int .i64 x, .slice none 0 0] w fun r w' => r = .returned (.bool false) ∧ w' = w := by
  go_enter Tryd.func26, Tryd.ntmps26
  go_wp2
  go_loop [5] (fun i => i = .int .i64 0) (fun i => 0)
  case atStart => rfl
  case round =>
    subst hrel
    go_wp2
    go_ret
    exact ⟨rfl, rfl⟩

/-- how many days behind a candidate the next one is at least -/
def stp (f : List UInt8) : Int := if f = monthlyW then 28 else if f = yearlyW then 365 else 1
theorem stepOf_any (f : ByteArray) (e : Int) (a : Option Addr) (n cap : Nat) (c u : Int) (w : World) :
    Calls Tryd.prog 25 #[rv f e (.slice a n cap) c u] w fun r w' => r = .returned (.int .i64 (stp f.toList)) ∧ Below w.heap.size w w' := by
  unfold rv
  cases h3 : (f.toList == [109, 111, 110, 116, 104, 108, 121]) with
  | true =>
    have HS : Hid (stp f.toList = 28) := by show _ = _; rw [beq_iff_eq] at h3; unfold stp; rw [if_pos (show f.toList = monthlyW from h3)]
    go_enter Tryd.func25, Tryd.ntmps25
    go_wp2
    go_ret
    exact ⟨ret_int HS.out.symm, below_alloc _ _⟩
  | false =>
  have n3 : Hid (f.toList ≠ monthlyW) := by show _ ≠ _; rw [beq_eq_false_iff_ne] at h3; exact h3
  cases h4 : (f.toList == [121, 101, 97, 114, 108, 121]) with
  | true =>
    have HS : Hid (stp f.toList = 365) := by show _ = _; rw [beq_iff_eq] at h4; unfold stp; rw [if_neg n3.out, if_pos (show f.toList = yearlyW from h4)]
    go_enter Tryd.func25, Tryd.ntmps25
    go_wp2
    go_ret
    exact ⟨ret_int HS.out.symm, below_alloc _ _⟩
  | false =>
    have HS : Hid (stp f.toList = 1) := by show _ = _; rw [beq_eq_false_iff_ne] at h4; unfold stp; rw [if_neg n3.out, if_neg (show f.toList ≠ yearlyW from h4)]
    go_enter Tryd.func25, Tryd.ntmps25
    go_wp2
    go_ret
    exact ⟨ret_int HS.out.symm, below_alloc _ _⟩

theorem rem_nn {a b : Int} (h : 0 ≤ a) : Int.tmod a b = a % b := Int.tmod_eq_emod_of_nonneg h
set_option maxHeartbeats 1000000 in
theorem isCand_any (f : ByteArray) (e : Int) (sl : Value) (c u : Int) (ds : List Int) (s d : Int) (w : World) (hg : Got w sl ds) (hw : Well (rd f e ds c u)) (h20 : ds.length ≤ 20) (h0 : 0 ≤ s) (h1 : s ≤ d) (h2 : d ≤ 73048) :
    Calls Tryd.prog 24 #[.int .i64 s, rv f e sl c u, .int .i64 d] w fun r w' => r = .returned (.bool (cnd f.toList s e ds d)) ∧ Below w.heap.size w w' := by
  obtain ⟨a, cap, rfl, hn, hs⟩ := hg
  have he0 : 1 ≤ e := hw.ev.1
  have he1 : e ≤ 100 := hw.ev.2
  have HFR : Hid (f.toList = onceW ∨ f.toList = dailyW ∨ f.toList = weeklyW ∨ f.toList = monthlyW ∨ f.toList = yearlyW) := hw.fr
  have HS : Hid (_) := hs
  have HN : Hid (_) := hn
  clear hs hn hw
  unfold rv
  cases h5 : (f.toList == [111, 110, 99, 101]) with
  | true =>
    have E : Hid (cnd f.toList s e ds d = (d == s)) := by
      show _ = _
      rw [beq_iff_eq] at h5
      unfold cnd
      rw [if_neg (by rw [h5]; decide), if_neg (by rw [h5]; decide), if_neg (by rw [h5]; decide), if_neg (by rw [h5]; decide)]
      rfl
    go_enter Tryd.func24, Tryd.ntmps24
    go_wp2
    go_ret
    exact ⟨ret_bool E.out.symm, below_alloc _ _⟩
  | false =>
  cases h1' : (f.toList == [100, 97, 105, 108, 121]) with
  | true =>
    have E : Hid (cnd f.toList s e ds d = ((d - s) % e == 0)) := by
      show _ = _
      rw [beq_iff_eq] at h1'
      unfold cnd
      rw [if_pos (show f.toList = dailyW from h1')]
      unfold pD
      rw [Bool.eq_iff_iff, decide_eq_true_iff, beq_iff_eq]
      exact ⟨fun h => h.2, fun h => ⟨h1, h⟩⟩
    have hm := rem_nn (a := d - s) (b := e) (by omega)
    go_enter Tryd.func24, Tryd.ntmps24
    go_wp2
    go_ret
    exact ⟨ret_bool E.out.symm, below_alloc _ _⟩
  | false =>
  have n1 : Hid (f.toList ≠ dailyW) := by show _ ≠ _; rw [beq_eq_false_iff_ne] at h1'; exact h1'
  cases h2' : (f.toList == [119, 101, 101, 107, 108, 121]) with
  | true =>
    have E : Hid (∀ b, (b = true ↔ (((d - (d + 5) % 7 - (s - (s + 5) % 7)) / 7) % e = 0 ∧ (d + 5) % 7 ∈ wds s ds)) → b = cnd f.toList s e ds d) := fun b hb => by
      rw [beq_iff_eq] at h2'
      unfold cnd
      rw [if_neg n1.out, if_pos (show f.toList = weeklyW from h2')]
      unfold pW
      rw [Bool.eq_iff_iff, decide_eq_true_iff, hb]
      exact ⟨fun h => ⟨h1, h.1, h.2⟩, fun h => h.2⟩
    have hq0 : 0 ≤ d - (d + 5) % 7 - (s - (s + 5) % 7) := by omega
    have hq : Int.tdiv (d - (d + 5) % 7 - (s - (s + 5) % 7)) 7 = (d - (d + 5) % 7 - (s - (s + 5) % 7)) / 7 := Int.tdiv_eq_ediv_of_nonneg hq0
    have hq1 : 0 ≤ (d - (d + 5) % 7 - (s - (s + 5) % 7)) / 7 := by omega
    have hq2 : (d - (d + 5) % 7 - (s - (s + 5) % 7)) / 7 ≤ 20000 := by omega
    have hm := rem_nn (a := (d - (d + 5) % 7 - (s - (s + 5) % 7)) / 7) (b := e) hq1
    by_cases hz : ((d - (d + 5) % 7 - (s - (s + 5) % 7)) / 7) % e = 0
    · have hz' : (((d - (d + 5) % 7 - (s - (s + 5) % 7)) / 7) % e != 0) = false := by rw [hz]; rfl
      have HZ : Hid (_) := hz
      clear hz
      by_cases hl : ds.length = 0
      · have hl2 : ((ds.length : Int) == 0) = true := by rw [hl]; rfl
        have HE : Hid (((d + 5) % 7 == (s + 5) % 7) = cnd f.toList s e ds d) := by
          refine E.out _ ?_
          rw [beq_iff_eq]
          unfold wds
          rw [if_pos hl, List.mem_singleton]
          exact ⟨fun h => ⟨HZ.out, h⟩, fun h => h.2⟩
        go_enter Tryd.func24, Tryd.ntmps24
        go_wp2
        go_ret
        exact ⟨ret_bool HE.out, below_alloc _ _⟩
      · have hl2 : ((ds.length : Int) == 0) = false := by rw [beq_eq_false_iff_ne]; omega
        have HE : Hid (inB ds ((d + 5) % 7) = cnd f.toList s e ds d) := by
          refine E.out _ ?_
          unfold wds inB
          rw [if_neg hl, List.contains_iff_mem]
          exact ⟨fun h => ⟨HZ.out, h⟩, fun h => h.2⟩
        cases a with
        | none => exact absurd (HN.out rfl).1 hl
        | some ad =>
          have hc : Gcl (w.alloc (.cells #[.string f, .int .i64 e, .slice (some ad) ds.length cap, .int .i64 c, .int .i64 u] 24)) ad ds := fun j hj => by
            obtain ⟨p1, p2⟩ := HS.out ad rfl j hj
            exact (World.cell?_of_block (a := ad.add j) ((below_alloc w _).block _ (by rw [addr_add_block]; exact p1))).trans p2
          have HC : Hid (_) := isIn_some ((d + 5) % 7) ad cap ds _ (by omega) hc
          clear hc hl
          go_enter Tryd.func24, Tryd.ntmps24
          go_wp2_with (go_at_call 26; refine Calls.mono HC.out ?_; rintro r w' ⟨rfl, rfl⟩)
          go_ret
          exact ⟨ret_bool HE.out, below_alloc _ _⟩
    · have hz' : (((d - (d + 5) % 7 - (s - (s + 5) % 7)) / 7) % e != 0) = true := by rw [bne_iff_ne]; exact hz
      have HE : Hid (false = cnd f.toList s e ds d) := E.out false ⟨fun h => absurd h (by decide), fun h => absurd h.1 hz⟩
      clear hz
      go_enter Tryd.func24, Tryd.ntmps24
      go_wp2
      go_ret
      exact ⟨ret_bool HE.out, below_alloc _ _⟩
  | false =>
  have n2 : Hid (f.toList ≠ weeklyW) := by show _ ≠ _; rw [beq_eq_false_iff_ne] at h2'; exact h2'
  obtain ⟨y, m, x, hv, hy⟩ := exists_date s h0 (by omega)
  obtain ⟨z, n, b, hv2, hz⟩ := exists_date d (by omega) h2
  obtain ⟨P1, P2⟩ := pM_dates (e := e) hv hy hv2 hz h1
  have Q1 := (pM_dates (e := e * 12) hv hy hv2 hz h1).1
  have D1 : Hid (∀ w, _) := fun w => dateOf_okE s y m x w hv hy
  have D2 : Hid (∀ w, _) := fun w => dateOf_okE d z n b w hv2 hz
  obtain ⟨hy0, hy1, hm0, hm1, hx0, hx1⟩ := hv
  obtain ⟨hz0, hz1, hn0, hn1, hb0, hb1⟩ := hv2
  rw [year_mod hm0 hm1 hn0 hn1] at Q1
  have P : Hid (_) := P1
  have Q : Hid (_) := Q1
  have PP : Hid (_) := P2
  have hx31 := (dim_bd y m).2
  have hb31 := (dim_bd z n).2
  have hx2 : x ≤ 31 := by omega
  have hb2 : b ≤ 31 := by omega
  clear P1 P2 Q1 hx1 hb1 hy hz hx31 hb31
  by_cases hab : x = b
  · have hab' : (x != b) = false := by rw [hab]; simp
    have hge := PP.out hab
    have HAB : Hid (_) := hab
    clear hab
    cases h4 : (f.toList == [121, 101, 97, 114, 108, 121]) with
    | true =>
      have E : Hid (∀ v, (v = true ↔ (n = m ∧ (z - y) % e = 0)) → v = cnd f.toList s e ds d) := fun v hb => by
        rw [beq_iff_eq] at h4
        unfold cnd
        rw [if_neg n1.out, if_neg n2.out, if_neg (by rw [h4]; decide), if_pos (show f.toList = yearlyW from h4), Bool.eq_iff_iff, hb, Q.out]
        exact ⟨fun h => ⟨HAB.out, h⟩, fun h => h.2⟩
      by_cases hnm : n = m
      · have hnm' : (n == m) = true := by rw [beq_iff_eq]; exact hnm
        have hzy : 0 ≤ z - y := by omega
        have hm := rem_nn (a := z - y) (b := e) hzy
        have HE : Hid (((z - y) % e == 0) = cnd f.toList s e ds d) := E.out _ (by rw [beq_iff_eq]; exact ⟨fun h => ⟨hnm, h⟩, fun h => h.2⟩)
        clear hnm
        go_enter Tryd.func24, Tryd.ntmps24
        go_wp2_with (first
          | (go_at_call_of 37 (Value.int .i64 s); refine (D1.out _).mono ?_; rintro r w' ⟨rfl, rfl⟩)
          | (go_at_call_of 37 (Value.int .i64 d); refine (D2.out _).mono ?_; rintro r w' ⟨rfl, rfl⟩))
        go_ret
        exact ⟨ret_bool HE.out, below_alloc _ _⟩
      · have hnm' : (n == m) = false := by rw [beq_eq_false_iff_ne]; exact hnm
        have HE : Hid (false = cnd f.toList s e ds d) := E.out false ⟨fun h => absurd h (by decide), fun h => absurd h.1 hnm⟩
        clear hnm
        go_enter Tryd.func24, Tryd.ntmps24
        go_wp2_with (first
          | (go_at_call_of 37 (Value.int .i64 s); refine (D1.out _).mono ?_; rintro r w' ⟨rfl, rfl⟩)
          | (go_at_call_of 37 (Value.int .i64 d); refine (D2.out _).mono ?_; rintro r w' ⟨rfl, rfl⟩))
        go_ret
        exact ⟨ret_bool HE.out, below_alloc _ _⟩
    | false =>
      have HE : Hid (((12 * (z - y) + n - m) % e == 0) = cnd f.toList s e ds d) := by
        show _ = _
        rw [beq_eq_false_iff_ne] at h4
        have h3 : f.toList = monthlyW := by
          rcases HFR.out with h | h | h | h | h
          · rw [beq_eq_false_iff_ne] at h5; exact absurd h h5
          · exact absurd h n1.out
          · exact absurd h n2.out
          · exact h
          · exact absurd h h4
        unfold cnd
        rw [if_neg n1.out, if_neg n2.out, if_pos h3, Bool.eq_iff_iff, beq_iff_eq, P.out]
        exact ⟨fun h => ⟨HAB.out, h⟩, fun h => h.2⟩
      have hm := rem_nn (a := 12 * (z - y) + n - m) (b := e) hge
      go_enter Tryd.func24, Tryd.ntmps24
      go_wp2_with (first
        | (go_at_call_of 37 (Value.int .i64 s); refine (D1.out _).mono ?_; rintro r w' ⟨rfl, rfl⟩)
        | (go_at_call_of 37 (Value.int .i64 d); refine (D2.out _).mono ?_; rintro r w' ⟨rfl, rfl⟩))
      go_ret
      exact ⟨ret_bool HE.out, below_alloc _ _⟩
  · have hab' : (x != b) = true := by rw [bne_iff_ne]; exact hab
    have HE : Hid (false = cnd f.toList s e ds d) := by
      show _ = _
      unfold cnd
      rw [if_neg n1.out, if_neg n2.out]
      by_cases h3 : f.toList = monthlyW
      · rw [if_pos h3]
        symm
        rw [← Bool.not_eq_true, P.out]
        exact fun h => hab h.1
      · have h4 : f.toList = yearlyW := by
          rcases HFR.out with h | h | h | h | h
          · rw [beq_eq_false_iff_ne] at h5; exact absurd h h5
          · exact absurd h n1.out
          · exact absurd h n2.out
          · exact absurd h h3
          · exact h
        rw [if_neg h3, if_pos h4]
        symm
        rw [← Bool.not_eq_true, Q.out]
        exact fun h => hab h.1
    clear hab
    go_enter Tryd.func24, Tryd.ntmps24
    go_wp2_with (first
      | (go_at_call_of 37 (Value.int .i64 s); refine (D1.out _).mono ?_; rintro r w' ⟨rfl, rfl⟩)
      | (go_at_call_of 37 (Value.int .i64 d); refine (D2.out _).mono ?_; rintro r w' ⟨rfl, rfl⟩))
    go_ret
    exact ⟨ret_bool HE.out, below_alloc _ _⟩
end Go.Proofs.YtfnajhpcbajhfabDoor
