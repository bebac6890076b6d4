/- The document's own answers to what comes again: dates, isIn, stepOf, isCandidate -/
import Derived.Test.YtppckmahhmnjpaaGreatDoorRefEJ
import Derived.Test.YtppckmahhmnjpaaGreatDoorExpM2
import Derived.Test.YtppckmahhmnjpaaGreatDoorExpOJ
namespace Go.Proofs.YtppckmahhmnjpaaGreatDoor
open Go.RowKit Cal

theorem dim2 (k : Int) (h0 : 2000 ≤ k) (h1 : k ≤ 2199) : ((dim k 2 == 29) = true ∧ yd k = 366) ∨ ((dim k 2 == 29) = false ∧ yd k = 365) := by
  have h := dim_feb k h0 h1
  rcases lp_eq k with ⟨_, hl⟩ | ⟨_, hl⟩
  · exact Or.inl ⟨by simp; omega, by unfold yd; omega⟩
  · exact Or.inr ⟨by simp; omega, by unfold yd; omega⟩

end Go.Proofs.YtppckmahhmnjpaaGreatDoor
namespace Go.Proofs.YtppckmahhmnjpaaGreatDoor.Cal

theorem mo_of {y m d : Int} (h : vld y m d) : yA ((y - 2000) * 12 + m - 1) = y ∧ mA ((y - 2000) * 12 + m - 1) = m ∧ 0 ≤ (y - 2000) * 12 + m - 1 ∧ (y - 2000) * 12 + m - 1 < 2400 := by
  obtain ⟨a, b, c, e, _, _⟩ := h
  unfold yA mA
  omega
theorem pM_dates {y m a z n b s d e : Int} (h1 : vld y m a) (hs : num y m a = s) (h2 : vld z n b) (hd : num z n b = d) (hle : s ≤ d) :
    (pM s e d = true ↔ a = b ∧ (12 * (z - y) + n - m) % e = 0) ∧ (a = b → 0 ≤ 12 * (z - y) + n - m) := by
  obtain ⟨e1, e2, j0, j1⟩ := mo_of h1
  obtain ⟨e3, e4, i0, i1⟩ := mo_of h2
  have hj : (y - 2000) * 12 + m - 1 = (y - 2000) * 12 + m - 1 := rfl
  generalize hjj : (y - 2000) * 12 + m - 1 = j at e1 e2 j0 j1
  generalize hii : (z - 2000) * 12 + n - 1 = i at e3 e4 i0 i1
  have hij : 12 * (z - y) + n - m = i - j := by omega
  rw [hij]
  have hs' : s = num (yA j) (mA j) a := by rw [e1, e2]; exact hs.symm
  have hd' : d = num (yA i) (mA i) b := by rw [e3, e4]; exact hd.symm
  have ha : 1 ≤ a := h1.2.2.2.2.1
  have ha2 : a ≤ dim (yA j) (mA j) := by rw [e1, e2]; exact h1.2.2.2.2.2
  have hb : 1 ≤ b := h2.2.2.2.2.1
  have hb2 : b ≤ dim (yA i) (mA i) := by rw [e3, e4]; exact h2.2.2.2.2.2
  have hge : a = b → j ≤ i := fun hab => by
    rcases Int.lt_or_le i j with h | h
    · have f1 := F_succ (s := i) i0 i1
      have f2 := F_le (s := i + 1) (t := j) (by omega) (by omega) (by omega)
      rw [num_F] at hs' hd'
      omega
    · exact h
  refine ⟨?_, fun hab => by have := hge hab; omega⟩
  rw [hs', pM_at j0 j1 ha ha2]
  constructor
  · rintro ⟨k, k0, k1, k2, k3, k4⟩
    rw [hd'] at k4
    obtain ⟨q1, q2, q3⟩ := num_inj (vld_mo i0 i1 hb hb2) (vld_mo (by omega) k1 ha k3) k4
    have := mo_inj q1 q2
    subst this
    exact ⟨q3.symm, k2⟩
  · rintro ⟨hab, hm⟩
    subst hab
    exact ⟨i, hge rfl, i1, hm, hb2, hd'⟩
theorem year_mod {y z m n e : Int} (hm0 : 1 ≤ m) (hm1 : m ≤ 12) (hn0 : 1 ≤ n) (hn1 : n ≤ 12) : (12 * (z - y) + n - m) % (e * 12) = 0 ↔ n = m ∧ (z - y) % e = 0 := by
  constructor
  · intro h
    have h1 : (12 : Int) ∣ 12 * (z - y) + n - m := Int.dvd_trans ⟨e, by omega⟩ (Int.dvd_of_emod_eq_zero h)
    have h2 : n = m := by omega
    subst h2
    refine ⟨rfl, ?_⟩
    have h3 : 12 * (z - y) + n - n = 12 * (z - y) := by omega
    rw [h3, Int.mul_comm e 12, Int.mul_emod_mul_of_pos _ _ (by decide)] at h
    omega
  · rintro ⟨rfl, h⟩
    have h3 : 12 * (z - y) + n - n = 12 * (z - y) := by omega
    rw [h3, Int.mul_comm e 12, Int.mul_emod_mul_of_pos _ _ (by decide), h]
    rfl
end Go.Proofs.YtppckmahhmnjpaaGreatDoor.Cal
namespace Go.Proofs.YtppckmahhmnjpaaGreatDoor
open Go.RowKit Cal

/-- the cells of a list of numbers, wherever it lies -/
def Gcl (w : World) (ad : Addr) (ds : List Int) : Prop := ∀ (j : Nat) (h : j < ds.length), w.cell? (ad.add j) = some (.int .i64 ds[j])

/-- is it one of these? -/
def inB (ds : List Int) (x : Int) : Bool := ds.contains x

theorem isIn_some (x : Int) (ad : Addr) (cap : Nat) (ds : List Int) (w : World) (hn : ds.length ≤ 100000) (hc : Gcl w ad ds) :
    Calls Tryz.prog 53 #[.int .i64 x, .slice (some ad) ds.length cap] w fun r w' => r = .returned (.bool (inB ds x)) ∧ w' = w := by
  have HC : Hid (_) := hc
  clear hc
  go_enter Tryz.func53, Tryz.ntmps53
  go_wp2
  go_loop [5] (fun i => ∃ k : Nat, k ≤ ds.length ∧ i = .int .i64 k ∧ Hid (inB ds x = inB (ds.drop k) x)) (fun i => ds.length - (intOf i).toNat)
  case atStart => exact ⟨0, Nat.zero_le _, rfl, rfl⟩
  case round =>
    obtain ⟨k, hk, rfl, HA⟩ := hrel
    by_cases hlt : k < ds.length
    · have hcell := HC.out k hlt
      have HD : Hid (inB (ds.drop k) x = ((x == ds[k]) || inB (ds.drop (k + 1)) x)) := by
        show _ = _
        unfold inB
        rw [List.drop_eq_getElem_cons hlt, List.contains_cons]
      by_cases hx : ds[k] = x
      · have hb : (ds[k] == x) = true := by rw [beq_iff_eq]; exact hx
        have HR : Hid (inB ds x = true) := by
          show _ = _
          rw [HA.out, HD.out, hx]; simp
        clear hx HA HD
        go_wp2
        go_ret
        exact ⟨ret_bool HR.out.symm, rfl⟩
      · have hb : (ds[k] == x) = false := by rw [beq_eq_false_iff_ne]; exact hx
        have HR : Hid (inB ds x = inB (ds.drop (k + 1)) x) := by
          show _ = _
          rw [HA.out, HD.out, beq_eq_false_iff_ne.2 (Ne.symm hx), Bool.false_or]
        clear hx HA HD
        go_wp2
        go_round
        case rel => exact ⟨k + 1, by omega, by go_num, HR⟩
        case measure => simp [intOf]; omega
    · have HR : Hid (inB ds x = false) := by
        show _ = _
        rw [HA.out, List.drop_eq_nil_of_le (by omega)]; rfl
      clear HA
      go_wp2
      go_ret
      exact ⟨ret_bool HR.out.symm, rfl⟩
theorem isIn_none (x : Int) (w : World) :
    Calls Tryz.prog 53 #[.int .i64 x, .slice none 0 0] w fun r w' => r = .returned (.bool false) ∧ w' = w := by
  go_enter Tryz.func53, Tryz.ntmps53
  go_wp2
  go_loop [5] (fun i => i = .int .i64 0) (fun i => 0)
  case atStart => rfl
  case round =>
    subst hrel
    go_wp2
    go_ret
    exact ⟨rfl, rfl⟩

/-- how many days behind a candidate the next one is at least -/
def stp (f : List UInt8) : Int := if f = monthlyW then 28 else if f = yearlyW then 365 else 1
theorem rem_nn {a b : Int} (h : 0 ≤ a) : Int.tmod a b = a % b := Int.tmod_eq_emod_of_nonneg h
end Go.Proofs.YtppckmahhmnjpaaGreatDoor
