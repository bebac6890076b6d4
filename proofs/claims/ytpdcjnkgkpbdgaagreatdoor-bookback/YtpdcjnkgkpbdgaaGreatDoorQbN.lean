/- Contracts of the document's own answer to days: MonthOf, MakeDay, DateOf, AddMonths: each returns what the plain mathematics (Cal) says. -/
import Derived.Test.YtpdcjnkgkpbdgaaGreatDoorExpLP
import Derived.Deep.RegionWith
import Derived.Test.YtpdcjnkgkpbdgaaGreatDoorExpM2P
import Derived.Test.YtpdcjnkgkpbdgaaGreatDoorQbK
namespace Go.Proofs.YtpdcjnkgkpbdgaaGreatDoor
open Go.RowKit Cal

theorem in_yes (n a b : Int) (w : World) (h0 : a ≤ n) (h1 : n ≤ b) :
    Calls Tryz.prog 159 #[.int .i64 n, .int .i64 a, .int .i64 b] w fun e w' => e = .returned (.bool true) ∧ w' = w := by
  go_enter Tryz.func159, Tryz.ntmps159
  go_wp2
  go_ret
  exact ⟨rfl, rfl⟩
theorem in_no (n a b : Int) (w : World) (h : n < a ∨ b < n) :
    Calls Tryz.prog 159 #[.int .i64 n, .int .i64 a, .int .i64 b] w fun e w' => e = .returned (.bool false) ∧ w' = w := by
  by_cases h0 : n < a
  · clear h
    go_enter Tryz.func159, Tryz.ntmps159
    go_wp2
    go_ret
    exact ⟨rfl, rfl⟩
  · have h1 : b < n := by omega
    have h2 : a ≤ n := by omega
    clear h h0
    go_enter Tryz.func159, Tryz.ntmps159
    go_wp2
    go_ret
    exact ⟨ret_bool (by simp; omega), rfl⟩
theorem isDayR_yes (n : Int) (w : World) (h0 : 0 ≤ n) (h1 : n ≤ 73048) :
    Calls Tryz.prog 158 #[.int .i64 n] w fun e w' => e = .returned (.bool true) ∧ w' = w := by
  go_enter Tryz.func158, Tryz.ntmps158
  go_wp2_with (go_at_call 159; refine (in_yes _ _ _ _ h0 h1).mono ?_; rintro e w' ⟨rfl, rfl⟩)
  go_ret
  exact ⟨rfl, rfl⟩
theorem isDayR_no (n : Int) (w : World) (h : n < 0 ∨ 73048 < n) :
    Calls Tryz.prog 158 #[.int .i64 n] w fun e w' => e = .returned (.bool false) ∧ w' = w := by
  go_enter Tryz.func158, Tryz.ntmps158
  go_wp2_with (go_at_call 159; refine (in_no _ _ _ _ h).mono ?_; rintro e w' ⟨rfl, rfl⟩)
  go_ret
  exact ⟨rfl, rfl⟩

end Go.Proofs.YtpdcjnkgkpbdgaaGreatDoor

/- The document's own answers to what comes again: dates, isIn, stepOf, isCandidate -/
namespace Go.Proofs.YtpdcjnkgkpbdgaaGreatDoor
open Go.RowKit Cal

end Go.Proofs.YtpdcjnkgkpbdgaaGreatDoor
namespace Go.Proofs.YtpdcjnkgkpbdgaaGreatDoor.Cal

end Go.Proofs.YtpdcjnkgkpbdgaaGreatDoor.Cal
namespace Go.Proofs.YtpdcjnkgkpbdgaaGreatDoor
open Go.RowKit Cal

/-- the cells of a list of numbers, wherever it lies -/
def Gcl (w : World) (ad : Addr) (ds : List Int) : Prop := ∀ (j : Nat) (h : j < ds.length), w.cell? (ad.add j) = some (.int .i64 ds[j])

/-- is it one of these? -/
def inB (ds : List Int) (x : Int) : Bool := ds.contains x

theorem isIn_some (x : Int) (ad : Addr) (cap : Nat) (ds : List Int) (w : World) (hn : ds.length ≤ 100000) (hc : Gcl w ad ds) :
    Calls Tryz.prog 161 #[.int .i64 x, .slice (some ad) ds.length cap] w fun r w' => r = .returned (.bool (inB ds x)) ∧ w' = w := by
  have HC : Hid (_) := hc
  clear hc
  go_enter Tryz.func161, Tryz.ntmps161
  go_wp2
  go_loop [5] (fun i => ∃ k : Nat, k ≤ ds.length ∧ i = .int .i64 k ∧ Hid (inB ds x = inB (ds.drop k) x)) (fun i => ds.length - (intOf i).toNat)
  case atStart => exact ⟨0, Nat.zero_le _, rfl, rfl⟩
  case round =>
    obtain ⟨k, hk, rfl, HA⟩ := hrel
    by_cases hlt : k < ds.length
    · have hcell := HC.out k hlt
      have HD : Hid (inB (ds.drop k) x = ((x == ds[k]) || inB (ds.drop (k + 1)) x)) := by
        show _ = _
        unfold inB
        rw [List.drop_eq_getElem_cons hlt, List.contains_cons]
      by_cases hx : ds[k] = x
      · have hb : (ds[k] == x) = true := by rw [beq_iff_eq]; exact hx
        have HR : Hid (inB ds x = true) := by
          show _ = _
          rw [HA.out, HD.out, hx]; simp
        clear hx HA HD
        go_wp2
        go_ret
        exact ⟨ret_bool HR.out.symm, rfl⟩
      · have hb : (ds[k] == x) = false := by rw [beq_eq_false_iff_ne]; exact hx
        have HR : Hid (inB ds x = inB (ds.drop (k + 1)) x) := by
          show _ = _
          rw [HA.out, HD.out, beq_eq_false_iff_ne.2 (Ne.symm hx), Bool.false_or]
        clear hx HA HD
        go_wp2
        go_round
        case rel => exact ⟨k + 1, by omega, by go_num, HR⟩
        case measure => simp [intOf]; omega
    · have HR : Hid (inB ds x = false) := by
        show _ = _
        rw [HA.out, List.drop_eq_nil_of_le (by omega)]; rfl
      clear HA
      go_wp2
      go_ret
      exact ⟨ret_bool HR.out.symm, rfl⟩
theorem isIn_none (x : Int) (w : World) :
    Calls Tryz.prog 161 #[.int .i64 x, .slice none 0 0] w fun r w' => r = .returned (.bool false) ∧ w' = w := by
  go_enter Tryz.func161, Tryz.ntmps161
  go_wp2
  go_loop [5] (fun i => i = .int .i64 0) (fun i => 0)
  case atStart => rfl
  case round =>
    subst hrel
    go_wp2
    go_ret
    exact ⟨rfl, rfl⟩

end Go.Proofs.YtpdcjnkgkpbdgaaGreatDoor
