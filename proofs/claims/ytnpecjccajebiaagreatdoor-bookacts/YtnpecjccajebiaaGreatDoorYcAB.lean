/- Contracts of the document's own answer to days: MakeDay, DateOf, AddMonths. -/
import Derived.Test.YtnpecjccajebiaaGreatDoorYcAA
import Derived.Test.YtnpecjccajebiaaGreatDoorYbAA
import Derived.Test.YtnpecjccajebiaaGreatDoorYaAI
import Derived.Lib.ItoaLen
import Derived.Test.YtnpecjccajebiaaGreatDoorEvR3W
import Derived.Test.YtnpecjccajebiaaGreatDoorExpE2W
import Derived.Test.YtnpecjccajebiaaGreatDoorYaAR
import Derived.Deep.RegionHeld3
import Derived.Deep.RegionWith
import Derived.Lib.QuietBelow
namespace Go.Proofs.YtnpecjccajebiaaGreatDoor
open Go.RowKit Cal

theorem dim2 (k : Int) (h0 : 2000 ≤ k) (h1 : k ≤ 2199) : ((dim k 2 == 29) = true ∧ yd k = 366) ∨ ((dim k 2 == 29) = false ∧ yd k = 365) := by
  have h := dim_feb k h0 h1
  rcases lp_eq k with ⟨_, hl⟩ | ⟨_, hl⟩
  · exact Or.inl ⟨by simp; omega, by unfold yd; omega⟩
  · exact Or.inr ⟨by simp; omega, by unfold yd; omega⟩

set_option maxHeartbeats 1000000 in
theorem dateOf_ok (n y m d : Int) (w : World) (h : vld y m d) (hn : num y m d = n) :
    Calls Tryz.prog 216 #[.int .i64 n] w fun e w' => e = .returned (.tuple #[.int .i64 y, .int .i64 m, .int .i64 d]) ∧ w' = w := by
  have hnb := num_bd h
  have hny := num_year h
  have hnm := num_month h
  have hdd : d = n - dby y - cum y m + 1 := by unfold num at hn; omega
  rw [hn] at hnb hny hnm
  obtain ⟨hy0, hy1, hm0, hm1, hd0, hd1⟩ := h
  have HD : Hid (_) := hdd
  clear hdd hn
  obtain ⟨hn0, hn1⟩ := hnb
  obtain ⟨ha, hb⟩ := hny
  obtain ⟨hc, hd⟩ := hnm
  go_enter Tryz.func216, Tryz.ntmps216
  go_wp2
  go_loop [0, 5] (fun r t => ∃ k : Int, 2000 ≤ k ∧ k ≤ y ∧ t = .int .i64 k ∧ r = .int .i64 (n - dby k)) (fun _ t => (y - intOf t).toNat)
  case atStart => exact ⟨2000, by omega, by omega, rfl, by rw [dby_zero]; go_num⟩
  case round =>
    obtain ⟨k, hk0, hk1, rfl, rfl⟩ := hrel
    have kb := dby_bd k hk0 (by omega)
    have ks := dby_succ k
    by_cases hlt : k < y
    · have hm := dby_mono (k + 1) y (by omega)
      rcases dim2 k hk0 (by omega) with ⟨h29, hyd⟩ | ⟨h29, hyd⟩
      · rw [hyd] at ks
        have hge : 366 ≤ n - dby k := by omega
        have KS : Hid (_) := ks
        clear ks hyd
        go_wp2_with (go_at_call 245; refine (monthOf_any _ _ _).mono ?_; rintro e w' ⟨rfl, rfl⟩)
        go_round
        case rel => exact ⟨k + 1, by omega, by omega, rfl, by rw [KS.out]; go_num⟩
        case measure => simp [intOf]; omega
      · rw [hyd] at ks
        have hge : 365 ≤ n - dby k := by omega
        have KS : Hid (_) := ks
        clear ks hyd
        go_wp2_with (go_at_call 245; refine (monthOf_any _ _ _).mono ?_; rintro e w' ⟨rfl, rfl⟩)
        go_round
        case rel => exact ⟨k + 1, by omega, by omega, rfl, by rw [KS.out]; go_num⟩
        case measure => simp [intOf]; omega
    · obtain rfl : k = y := by omega
      rcases dim2 k hk0 (by omega) with ⟨h29, hyd⟩ | ⟨h29, hyd⟩
      · rw [hyd] at ks
        have hl : n - dby k < 366 := by omega
        clear ks hlt hyd
        go_wp2_with (go_at_call 245; refine (monthOf_any _ _ _).mono ?_; rintro e w' ⟨rfl, rfl⟩)
        go_loop [0, 7] (fun r t => ∃ i : Int, 1 ≤ i ∧ i ≤ m ∧ t = .int .i64 i ∧ r = .int .i64 (n - dby k - cum k i)) (fun _ t => (m - intOf t).toNat)
        case atStart => exact ⟨1, by omega, by omega, rfl, by rw [cum_one]; go_num⟩
        case round =>
          obtain ⟨i, hi0, hi1, rfl, rfl⟩ := hrel
          have ib := cum_bd k i hi0 (by omega)
          have id := dim_bd k i
          have is := cum_succ k i hy0 hy1 hi0 (by omega)
          by_cases hlt : i < m
          · have hm := cum_mono k (i + 1) m (by omega) (by omega)
            have hge : dim k i ≤ n - dby k - cum k i := by omega
            have IS : Hid (_) := is
            clear is
            go_wp2_with (go_at_call 245; refine (monthOf_any _ _ _).mono ?_; rintro e w' ⟨rfl, rfl⟩)
            go_round
            case rel => exact ⟨i + 1, by omega, by omega, rfl, by rw [IS.out]; go_num⟩
            case measure => simp [intOf]; omega
          · obtain rfl : i = m := by omega
            have hl : n - dby k - cum k i < dim k i := by omega
            clear is hlt
            go_wp2_with (go_at_call 245; refine (monthOf_any _ _ _).mono ?_; rintro e w' ⟨rfl, rfl⟩)
            go_ret3
            exact ⟨by rw [HD.out]; rfl, rfl⟩
      · rw [hyd] at ks
        have hl : n - dby k < 365 := by omega
        clear ks hlt hyd
        go_wp2_with (go_at_call 245; refine (monthOf_any _ _ _).mono ?_; rintro e w' ⟨rfl, rfl⟩)
        go_loop [0, 7] (fun r t => ∃ i : Int, 1 ≤ i ∧ i ≤ m ∧ t = .int .i64 i ∧ r = .int .i64 (n - dby k - cum k i)) (fun _ t => (m - intOf t).toNat)
        case atStart => exact ⟨1, by omega, by omega, rfl, by rw [cum_one]; go_num⟩
        case round =>
          obtain ⟨i, hi0, hi1, rfl, rfl⟩ := hrel
          have ib := cum_bd k i hi0 (by omega)
          have id := dim_bd k i
          have is := cum_succ k i hy0 hy1 hi0 (by omega)
          by_cases hlt : i < m
          · have hm := cum_mono k (i + 1) m (by omega) (by omega)
            have hge : dim k i ≤ n - dby k - cum k i := by omega
            have IS : Hid (_) := is
            clear is
            go_wp2_with (go_at_call 245; refine (monthOf_any _ _ _).mono ?_; rintro e w' ⟨rfl, rfl⟩)
            go_round
            case rel => exact ⟨i + 1, by omega, by omega, rfl, by rw [IS.out]; go_num⟩
            case measure => simp [intOf]; omega
          · obtain rfl : i = m := by omega
            have hl : n - dby k - cum k i < dim k i := by omega
            clear is hlt
            go_wp2_with (go_at_call 245; refine (monthOf_any _ _ _).mono ?_; rintro e w' ⟨rfl, rfl⟩)
            go_ret3
            exact ⟨by rw [HD.out]; rfl, rfl⟩
end Go.Proofs.YtnpecjccajebiaaGreatDoor

/- Contracts of the document's own answer to days: AddMonths. -/
namespace Go.Proofs.YtnpecjccajebiaaGreatDoor
open Go.RowKit Cal

theorem ret_ib {x : Value} {b c : Bool} (h : b = c) : Ending.returned (.tuple #[x, .bool b]) = .returned (.tuple #[x, .bool c]) := by rw [h]
end Go.Proofs.YtnpecjccajebiaaGreatDoor

/- Contracts of the document's own answer to a day's text: Byte, below, Decimal, pad, DayText. -/
namespace Go.Proofs.YtnpecjccajebiaaGreatDoor
open Go.RowKit Cal

set_option maxRecDepth 100000 in
theorem byte_any (n : Int) (w : World) (h0 : 48 ≤ n) (h1 : n ≤ 57) :
    Calls Tryz.prog 246 #[.int .i64 n] w fun e w' => e = .returned (.string ⟨#[dgt (n - 48)]⟩) ∧ Below w.heap.size w w' := by
  have hcv := run_convert_bytes_arg (P := Tryz.prog) (w.alloc (.cells #[.int .u8 n] 5)) 73 5 Tryz.underlying73 Tryz.underlying5 w.heap.size 0 1 1 [n] rfl (fun i hi => by
    obtain rfl : i = 0 := by omega
    simp) 9 Tryz.underlying9
  have hs : strOfNums [n] = ⟨#[dgt (n - 48)]⟩ := by
    unfold strOfNums dgt
    have e : n.toNat = 48 + (n - 48).toNat := by omega
    simp [e]
  rw [hs] at hcv
  clear hs
  go_enter Tryz.func246, Tryz.ntmps246
  go_wp2
  go_ret
  exact ⟨rfl, (Below.refl _ _).alloc (Nat.le_refl _) _⟩

theorem below_any (u : Nat) : ∀ (w : World), u ≤ 9999 →
    Calls Tryz.prog 218 #[.int .i64 (-(u : Int))] w fun e w' => e = .returned (.string ⟨(Lib.decDigits u).toArray⟩) ∧ Below w.heap.size w w' := by
  induction u using Nat.strongRecOn with
  | ind u ih =>
    intro w hu
    by_cases h10 : u < 10
    · have HD : Hid (Lib.decDigits u = [dgt (48 + (u : Int) - 48)]) := by
        show _ = _
        rw [Lib.decDigits_one h10]; unfold dgt
        have e : ((48 : Int) + (u : Int) - 48).toNat = u := by omega
        rw [e]
      clear ih
      go_enter Tryz.func218, Tryz.ntmps218
      go_wp2_with fail
      go_at_call 246
      refine (byte_any _ _ (by omega) (by omega)).mono ?_
      rintro e w' ⟨rfl, hb⟩
      go_wp2
      go_ret
      exact ⟨ret_str (by rw [HD.out]), hb⟩
    · have hc := fun w => ih (u / 10) (by omega) w (by omega)
      have e : ((u / 10 : Nat) : Int) = (u : Int) / 10 := by omega
      rw [e] at hc
      have HC : Hid (_) := hc
      have HD : Hid (Lib.decDigits u = Lib.decDigits (u / 10) ++ [dgt (48 + (u : Int) % 10 - 48)]) := by
        show _ = _
        rw [Lib.decDigits, dif_neg h10]; unfold dgt
        have e : ((48 : Int) + (u : Int) % 10 - 48).toNat = u % 10 := by omega
        rw [e]
      have hl : (Lib.decDigits (u / 10)).length ≤ 21 := by
        have := Lib.itoa_length_le ((u / 10 : Nat) : Int) (by omega) (by omega)
        rw [Lib.itoa_nonneg] at this
        exact this
      clear hc e ih
      go_enter Tryz.func218, Tryz.ntmps218
      go_wp2_with fail
      go_at_call 218
      refine (HC.out _).mono ?_
      rintro e w1 ⟨rfl, k1⟩
      go_wp2_with fail
      go_at_call 246
      refine (byte_any _ _ (by omega) (by omega)).mono ?_
      rintro e w2 ⟨rfl, k2⟩
      go_wp2
      go_ret
      exact ⟨ret_str (by rw [HD.out]; exact ByteArray.mk_append_mk _ [_]), below_then k1 k2⟩

theorem decimal_any (u : Nat) (w : World) (hu : u ≤ 9999) :
    Calls Tryz.prog 180 #[.int .i64 (u : Int)] w fun e w' => e = .returned (.string ⟨(Lib.decDigits u).toArray⟩) ∧ Below w.heap.size w w' := by
  go_enter Tryz.func180, Tryz.ntmps180
  go_wp2_with fail
  go_at_call 218
  refine (below_any u _ hu).mono ?_
  rintro e w1 ⟨rfl, k1⟩
  go_wp2
  go_ret
  exact ⟨rfl, k1⟩

theorem pad_any (k : Int) (w : World) (h0 : 0 ≤ k) (h1 : k < 100) :
    Calls Tryz.prog 217 #[.int .i64 k] w fun e w' => e = .returned (.string ⟨(two k).toArray⟩) ∧ Below w.heap.size w w' := by
  obtain ⟨u, rfl⟩ : ∃ u : Nat, k = u := ⟨k.toNat, by omega⟩
  by_cases hu : u < 10
  · have ht := dec_low u hu
    have hl : (Lib.decDigits u).length = 1 := by rw [Lib.decDigits_one hu]; rfl
    have HT : Hid (_) := ht
    clear ht
    go_enter Tryz.func217, Tryz.ntmps217
    go_wp2_with (go_at_call 180; refine (decimal_any u _ (by omega)).mono ?_; rintro e w' ⟨rfl, hb⟩)
    go_ret
    exact ⟨ret_str (by rw [← HT.out]; exact ByteArray.mk_append_mk [48] _), hb⟩
  · have ht := dec_two u hu (by omega)
    have HT : Hid (_) := ht
    clear ht
    go_enter Tryz.func217, Tryz.ntmps217
    go_wp2_with (go_at_call 180; refine (decimal_any u _ (by omega)).mono ?_; rintro e w' ⟨rfl, hb⟩)
    go_ret
    exact ⟨ret_str (by rw [← HT.out]), hb⟩

theorem dayText_no (n : Int) (w : World) (h : n < 0 ∨ 73048 < n) :
    Calls Tryz.prog 179 #[.int .i64 n] w fun e w' => e = .returned (.string ⟨#[]⟩) ∧ w' = w := by
  go_enter Tryz.func179, Tryz.ntmps179
  go_wp2_with (go_at_call 56; refine (isDayR_no _ _ h).mono ?_; rintro e w' ⟨rfl, rfl⟩)
  go_ret
  exact ⟨rfl, rfl⟩

theorem dayText_ok (n y m d : Int) (w : World) (h : vld y m d) (hn : num y m d = n) :
    Calls Tryz.prog 179 #[.int .i64 n] w fun e w' => e = .returned (.string ⟨(txt y m d).toArray⟩) ∧ Below w.heap.size w w' := by
  have hnb := num_bd h
  rw [hn] at hnb
  obtain ⟨hn0, hn1⟩ := hnb
  have hh := h
  obtain ⟨hy0, hy1, hm0, hm1, hd0, hd1⟩ := hh
  have hd31 := (dim_bd y m).2
  have hl4 := four_length y
  have hl2 := two_length m
  have hl3 := two_length d
  have hdec : ∀ w, Calls Tryz.prog 180 #[.int .i64 y] w fun e w' => e = .returned (.string ⟨(four y).toArray⟩) ∧ Below w.heap.size w w' := by
    intro w
    obtain ⟨u, rfl⟩ : ∃ u : Nat, y = u := ⟨y.toNat, by omega⟩
    have := decimal_any u w (by omega)
    rw [← Lib.itoa_nonneg, itoa_four _ (by omega) (by omega)] at this
    exact this
  have HD : Hid (_) := hdec
  clear hdec
  go_enter Tryz.func179, Tryz.ntmps179
  go_wp2_with (first
    | (go_at_call 56; refine (isDayR_yes _ _ hn0 hn1).mono ?_; rintro e w' ⟨rfl, rfl⟩)
    | (go_at_call 216; refine (dateOf_ok n y m d _ h hn).mono ?_; rintro e w' ⟨rfl, rfl⟩)
    | (go_at_call 180; refine (HD.out _).mono ?_; rintro e w1 ⟨rfl, k1⟩)
    | (go_at_call_of 217 (Value.int .i64 m); refine (pad_any m _ (by omega) (by omega)).mono ?_; rintro e w2 ⟨rfl, k2⟩)
    | (go_at_call_of 217 (Value.int .i64 d); refine (pad_any d _ (by omega) (by omega)).mono ?_; rintro e w3 ⟨rfl, k3⟩))
  go_ret
  exact ⟨ret_str (by unfold txt; simp [ByteArray.mk_append_mk]), below_then k1 (below_then k2 k3)⟩
end Go.Proofs.YtnpecjccajebiaaGreatDoor

/- The document's own texts of rules and events: WeekNames, RuleText, Fields, FieldOf, EventText, of lists at any address. -/
namespace Go.Proofs.YtnpecjccajebiaaGreatDoor
open Go Go.RowKit Go.Sort Cal
attribute [local go_sem] Oper.semAt_some

theorem decimal_int (n : Int) (w : World) (h0 : 0 ≤ n) (h1 : n ≤ 9999) :
    Calls Tryz.prog 180 #[.int .i64 n] w fun e w' => e = .returned (.string (bs (Lib.itoa n))) ∧ Below w.heap.size w w' := by
  obtain ⟨u, rfl⟩ : ∃ u : Nat, n = u := ⟨n.toNat, by omega⟩
  rw [Lib.itoa_nonneg]
  exact decimal_any u w (by omega)
theorem dayTextR_any (n : Int) (w : World) (h0 : 0 ≤ n) (h1 : n ≤ 73048) :
    Calls Tryz.prog 179 #[.int .i64 n] w fun e w' => e = .returned (.string (bs (dtx n))) ∧ Below w.heap.size w w' := by
  obtain ⟨y, m, d, hv, hn, e⟩ := dtx_ok h0 h1
  rw [e]
  exact dayText_ok n y m d w hv hn

def wkO : Obj := .cells #[.string ⟨#[109, 111]⟩, .string ⟨#[116, 117]⟩, .string ⟨#[119, 101]⟩, .string ⟨#[116, 104]⟩, .string ⟨#[102, 114]⟩, .string ⟨#[115, 97]⟩, .string ⟨#[115, 117]⟩] 9
theorem wk_cell (w : World) (i : Nat) (h : i < 7) : (w.alloc wkO).cell? ⟨w.heap.size, i, none⟩ = some (.string (bs (nm i))) := by
  unfold wkO
  rw [World.cell?_alloc_new]
  match i, h with
  | 0, _ => rfl
  | 1, _ => rfl
  | 2, _ => rfl
  | 3, _ => rfl
  | 4, _ => rfl
  | 5, _ => rfl
  | 6, _ => rfl
theorem weekNames_any (w : World) : Calls Tryz.prog 219 #[] w fun r w' => ∃ B : Nat, r = .returned (.slice (some ⟨B, 0, none⟩) 7 7) ∧ Below w.heap.size w w' ∧ ∀ i, i < 7 → w'.cell? ⟨B, i, none⟩ = some (.string (bs (nm i))) := by
  have hA := below_alloc w wkO
  have hC := wk_cell w
  have HC : Hid (Below w.heap.size w (w.alloc wkO) ∧ ∀ i, i < 7 → (w.alloc wkO).cell? ⟨w.heap.size, i, none⟩ = some (.string (bs (nm i)))) := ⟨hA, hC⟩
  clear hA hC
  unfold wkO at HC
  go_enter Tryz.func219, Tryz.ntmps219
  go_wp2
  go_ret
  exact ⟨_, rfl, HC.out.1, HC.out.2⟩
theorem rfields_any (w : World) : Calls Tryz.prog 129 #[] w fun r w' => r = .returned (.slice (some ⟨w.heap.size, 0, none⟩) 6 6) ∧ w' = w.alloc fldO := by
  unfold fldO
  go_enter Tryz.func129, Tryz.ntmps129
  go_wp2
  go_ret
  exact ⟨rfl, rfl⟩

theorem bs_app (a b : List UInt8) : bs a ++ bs b = bs (a ++ b) := by
  unfold bs
  exact ByteArray.mk_append_mk _ _
theorem bs_size (a : List UInt8) : (bs a).size = a.length := by
  show a.toArray.size = _
  simp

set_option maxHeartbeats 2000000 in
set_option maxRecDepth 100000 in
theorem ruleText_more (f : ByteArray) (e : Int) (sl : Value) (c u : Int) (ds : List Int) (t : List UInt8) (w : World) (hg : Got w sl ds) (h20 : ds.length ≤ 20) (hw : Well (rd f e ds c u)) (ht : UT (rd f e ds c u) t)
    (hne : (f.toList == [111, 110, 99, 101]) = false) :
    Calls Tryz.prog 181 #[rv f e sl c u] w fun r w' => r = .returned (.string (bs (rtext (rd f e ds c u) t))) ∧ Below w.heap.size w w' := by
  have HF : Hid (bs (rtext (rd f e ds c u) t) = bs (f.data.toList ++ 32 :: Lib.itoa e ++ dP ds ds.length ++ cP c ++ uP u t)) := by
    show _ = _
    rw [rtext_form _ _ (by rw [beq_eq_false_iff_ne] at hne; exact hne)]
    have e1 : (rd f e ds c u).freq = f.data.toList := ByteArray.toList_eq ..
    rw [e1]
    rfl
  obtain ⟨ra, rc, rfl⟩ := got_form hg
  have he := hw.ev
  have hco := hw.co
  have hun := hw.un
  obtain ⟨he0, he1⟩ : 1 ≤ e ∧ e ≤ 100 := he
  obtain ⟨hc0, hc1⟩ : 0 ≤ c ∧ c ≤ 1000 := hco
  obtain ⟨hu0, hu1⟩ : -1 ≤ u ∧ u ≤ 73048 := hun
  have hcu : c = 0 ∨ u = -1 := hw.cu
  have hf7 : f.size ≤ 7 := by
    have h1 : f.toList.length ≤ 7 := by
      have h := hw.fr
      have e1 : (rd f e ds c u).freq = f.toList := rfl
      rw [e1] at h
      rcases h with h | h | h | h | h <;> rw [h] <;> decide
    rw [ByteArray.toList_eq, Array.length_toList] at h1
    exact h1
  have ZS : Hid (∀ j, j < ds.length → ∃ ad, ra = some ad ∧ ∀ W, Below w.heap.size w W → W.cell? (ad.add j) = some (.int .i64 (zS ds j))) := got_z hg
  have HD : Hid (∀ j, j < ds.length → 0 ≤ zS ds j ∧ zS ds j ≤ 6) := fun j hj => by
    have e1 : zS ds j = ds[j] := zS_at hj
    have := hw.ds ds[j] (List.getElem_mem hj)
    exact ⟨by rw [e1]; exact this.1, by rw [e1]; exact this.2⟩
  have DE : Hid (∀ W, Calls Tryz.prog 180 #[.int .i64 e] W fun r w' => r = .returned (.string (bs (Lib.itoa e))) ∧ Below W.heap.size W w') := fun W => decimal_int e W (by omega) (by omega)
  have DC : Hid (∀ W, Calls Tryz.prog 180 #[.int .i64 c] W fun r w' => r = .returned (.string (bs (Lib.itoa c))) ∧ Below W.heap.size W w') := fun W => decimal_int c W (by omega) (by omega)
  have DU : Hid (0 ≤ u → ∀ W, Calls Tryz.prog 179 #[.int .i64 u] W fun r w' => r = .returned (.string (bs t)) ∧ Below W.heap.size W w') := fun h0 W => by
    rcases ht with ⟨e1, _⟩ | ⟨_, y, m, d, hv, hn, rfl⟩
    · have e2 : u = -1 := e1
      omega
    · exact dayText_ok u y m d W hv hn
  have htl : (bs t).size ≤ 10 := by rw [bs_size]; exact ut_len ht
  have hel : (bs (Lib.itoa e)).size ≤ 6 := by rw [bs_size]; exact itoa_len e (by omega) (by omega)
  have hcl : (bs (Lib.itoa c)).size ≤ 6 := by rw [bs_size]; exact itoa_len c (by omega) (by omega)
  have HB0 : Hid (∀ j, bs (f.data.toList ++ 32 :: Lib.itoa e ++ dP ds j) = f ++ ⟨#[32]⟩ ++ bs (Lib.itoa e) ++ bs (dP ds j)) := fun j => by
    show _ = bs f.data.toList ++ bs [32] ++ bs _ ++ bs _
    rw [bs_app, bs_app, bs_app]
    simp
  have HCP : Hid (cP c = if c = 0 then [] else 32 :: (countW ++ 32 :: Lib.itoa c)) := rfl
  have HUP : Hid (uP u t = if u = -1 then [] else 32 :: (untilW ++ 32 :: t)) := rfl
  have HDL : Hid (∀ j, (bs (dP ds j)).size ≤ 100) := fun j => by rw [bs_size]; exact dP_len ds j h20
  have HD1 : Hid (∀ (j : Nat) (h : j < ds.length), dP ds (j + 1) = dP ds j ++ (if j = 0 then [32] else [44]) ++ nm (zS ds j)) := fun j h => by
    rw [zS_at h]
    cases j with
    | zero => rw [dP_one ds h, if_pos rfl]; rfl
    | succ j => rw [dP_succ ds (j + 1) (by omega) h, if_neg (by omega)]; simp
  have hA := below_alloc w (.cells #[.string f, .int .i64 e, .slice ra ds.length rc, .int .i64 c, .int .i64 u] 41)
  have k0 : (w.alloc (.cells #[.string f, .int .i64 e, .slice ra ds.length rc, .int .i64 c, .int .i64 u] 41)).heap[w.heap.size]? = some (.cells #[.string f, .int .i64 e, .slice ra ds.length rc, .int .i64 c, .int .i64 u] 41 (0, 0)) := block_at _ rfl
  have HA : Hid (_) := hA
  clear hg hw ht hA
  unfold rv
  generalize hw0 : w.alloc (.cells #[.string f, .int .i64 e, .slice ra ds.length rc, .int .i64 c, .int .i64 u] 41) = w0 at HA k0
  have BX : Hid (∀ W, Below w0.heap.size w0 W → W.heap[w.heap.size]? = some (.cells #[.string f, .int .i64 e, .slice ra ds.length rc, .int .i64 c, .int .i64 u] 41 (0, 0))) := fun W h => (h.block _ (Array.getElem?_eq_some_iff.1 k0).1).trans k0
  obtain ⟨x0, x1, x2, x3, x4⟩ := blk5 k0
  clear k0
  generalize hL : ds.length = L at ZS HD HD1 h20 x2 BX HF hw0 ⊢
  generalize bs (rtext (rd f e ds c u) t) = fin at HF ⊢
  clear hL
  have X0 := cell_regrown x0
  have X1 := cell_regrown x1
  have T1 : Hid (∀ d os, Calls Tryz.prog 180 #[.int .i64 e] (grow (redrawn w0 d) os) fun r w'' => r = .returned (.string (bs (Lib.itoa e))) ∧ ∃ p : Regrown, w'' = grow (redrawn w0 p.d) p.os) := fun d os => Calls.regrown_of (DE.out _)
  generalize hEB : bs (Lib.itoa e) = eb at T1 hel HB0
  have q1 : ¬ 9223372036854775807 < f.size + 1 := by omega
  have q2 : ¬ 9223372036854775807 < f.size + 1 + eb.size := by omega
  go_enter Tryz.func181, Tryz.ntmps181
  go_upto_region 3 with (fail)
  refine wp_region_quiet_below (by kernel_rfl) (by kernel_rfl) ?_
  repeat (quiet_step ((go_at_call 180; exact T1.out _ _)))
  refine wpQuiet_nil ?_
  intro w2 hw'
  have hb2 : Below w0.heap.size w0 w2 := by
    obtain ⟨⟨dq, osq⟩, hw''⟩ := hw'
    subst hw''
    exact below_regrown _ _ _
  clear hw' X0 X1 x0 x1 x2 x3 x4 T1
  go_wp2
  go_loopw [3, 4] (fun o i wr => ∃ (m : Nat) (os : ByteArray), m ≤ L ∧ i = .int .i64 m ∧ o = .string os ∧ os.size ≤ 150 ∧ Hid (os = f ++ ⟨#[32]⟩ ++ eb ++ bs (dP ds m)) ∧ Hid (Below w2.heap.size w2 wr)) (fun _ i _ => L - (intOf i).toNat)
  case atStart =>
    refine ⟨0, _, Nat.zero_le _, rfl, rfl, ?_, ?_, Below.refl _ _⟩
    · simp only [ByteArray.size_append]
      show f.size + 1 + eb.size ≤ 150
      omega
    · show _ = _ ++ bs []
      show _ = _ ++ ByteArray.empty
      rw [ByteArray.append_empty]
  case round =>
    obtain ⟨m, os, hm, rfl, rfl, hos, HO, HBr⟩ := hrel
    obtain ⟨x0, x1, x2, x3, x4⟩ := blk5 (BX.out wr (below_then hb2 HBr.out))
    by_cases hlt : m < L
    · obtain ⟨ad, rfl, hc⟩ := ZS.out m hlt
      have c1 := hc wr (below_then HA.out (below_then hb2 HBr.out))
      have J1 : Hid (dP ds (m + 1) = dP ds m ++ (if m = 0 then [32] else [44]) ++ nm (zS ds m)) := HD1.out m hlt
      obtain ⟨hd0, hd6⟩ := HD.out m hlt
      have JL1 := HDL.out (m + 1)
      obtain ⟨k, hk⟩ : ∃ k : Nat, zS ds m = k := ⟨(zS ds m).toNat, by omega⟩
      rw [hk] at c1 J1
      have hk7 : k < 7 := by omega
      have hk7' : (k : Int) < 7 := by omega
      have hl0 : (m : Int) < L := by omega
      have hnl : (bs (nm k)).size = 2 := by rw [bs_size]; exact nm_len _
      clear hc hd0 hd6 hk
      cases m with
      | zero =>
        have hc0 : wr.cell? ad = some (.int .i64 k) := c1
        have hl1 : 0 < L := by omega
        have q3 : ¬ 9223372036854775807 < os.size + 1 := by omega
        have q4 : ¬ 9223372036854775807 < os.size + 1 + (bs (nm k)).size := by omega
        go_upto_region 10 with (fail)
        go_region_with (go_at_call 219; refine Calls.mono (weekNames_any _) ?_; rintro r w20 ⟨B, rfl, hb20, hc20⟩; have zc := hc20 k hk7; have hw20 : Below wr.heap.size wr w20 := below_then (drew_below _) hb20; have y2 := cell_step x2 hw20; have y0 := cellA_step hc0 hw20)
        all_goals
          go_wp2
          go_roundw
          case rel =>
            have hj : f ++ ⟨#[32]⟩ ++ eb ++ bs (dP ds (0 + 1)) = os ++ ⟨#[32]⟩ ++ bs (nm k) := by
              rw [J1.out, if_pos True.intro, HO.out]
              show _ = _ ++ bs [32] ++ _
              rw [← bs_app, ← bs_app, ByteArray.append_assoc, ByteArray.append_assoc, ByteArray.append_assoc]
              simp only [ByteArray.append_assoc]
            refine ⟨0 + 1, _, by omega, by go_num, rfl, ?_, hj.symm, below_then HBr.out hw20⟩
            rw [← hj]
            simp only [ByteArray.size_append]
            show f.size + 1 + eb.size + _ ≤ 150
            omega
          case measure => simp [intOf]; omega
      | succ m =>
        have hc0 : wr.cell? ⟨ad.block, ad.off + (m + 1), none⟩ = some (.int .i64 k) := c1
        have hl1 : (m : Int) + 1 < L := by omega
        have hl2 : m + 1 < L := by omega
        have hq0 : 0 ≤ (m : Int) + 1 := by omega
        have hq1 : ((m : Int) + 1).toNat = m + 1 := by omega
        have hq2 : ((m : Int) + 1 == 0) = false := by rw [beq_eq_false_iff_ne]; omega
        have q3 : ¬ 9223372036854775807 < os.size + 1 := by omega
        have q4 : ¬ 9223372036854775807 < os.size + 1 + (bs (nm k)).size := by omega
        go_upto_region 10 with (fail)
        go_region_with (go_at_call 219; refine Calls.mono (weekNames_any _) ?_; rintro r w20 ⟨B, rfl, hb20, hc20⟩; have zc := hc20 k hk7; have hw20 : Below wr.heap.size wr w20 := below_then (drew_below _) hb20; have y2 := cell_step x2 hw20; have y0 := cellA_step hc0 hw20)
        all_goals
          go_wp2
          go_roundw
          case rel =>
            have hj : f ++ ⟨#[32]⟩ ++ eb ++ bs (dP ds (m + 1 + 1)) = os ++ ⟨#[44]⟩ ++ bs (nm k) := by
              rw [J1.out, if_neg (Nat.succ_ne_zero m), HO.out]
              show _ = _ ++ bs [44] ++ _
              rw [← bs_app, ← bs_app, ByteArray.append_assoc, ByteArray.append_assoc, ByteArray.append_assoc]
              simp only [ByteArray.append_assoc]
            refine ⟨m + 1 + 1, _, by omega, by go_num, rfl, ?_, hj.symm, below_then HBr.out hw20⟩
            rw [← hj]
            simp only [ByteArray.size_append]
            show f.size + 1 + eb.size + _ ≤ 150
            omega
          case measure => simp [intOf]; omega
    · have hml : m = L := by omega
      have HO2 : Hid (os = bs (f.data.toList ++ 32 :: Lib.itoa e ++ dP ds L)) := by
        show _ = _
        rw [HB0.out, HO.out, hml]
      have hz2 : Below w.heap.size w wr := below_then HA.out (below_then hb2 HBr.out)
      have hf1 : Hid (fin = os ++ bs (cP c) ++ bs (uP u t)) := by
        show _ = _
        rw [HF.out, HO2.out, bs_app, bs_app]
      clear HO HB0 ZS HD HD1 HO2 HF BX hm hlt
      by_cases hcz : c = 0
      · have hcn : ¬ 0 < c := by omega
        have e1 : bs (cP c) = ⟨#[]⟩ := by unfold cP; rw [if_pos hcz]; rfl
        by_cases huz : u = -1
        · have hun : ¬ 0 ≤ u := by omega
          have HE : Hid (fin = os) := by
            show _ = _
            rw [hf1.out, e1]
            unfold uP
            rw [if_pos huz]
            show os ++ ByteArray.empty ++ ByteArray.empty = _
            rw [ByteArray.append_empty, ByteArray.append_empty]
          clear hf1 e1 huz hcz
          go_wp2
          go_ret
          exact ⟨ret_str HE.out.symm, hz2⟩
        · have hun : 0 ≤ u := by omega
          have D1 : Hid (∀ W, Calls Tryz.prog 179 #[.int .i64 u] W fun r w' => r = .returned (.string (bs t)) ∧ Below W.heap.size W w') := DU.out hun
          have HE : Hid (fin = os ++ ⟨#[32, 117, 110, 116, 105, 108, 32]⟩ ++ bs t) := by
            show _ = _
            rw [hf1.out, e1]
            unfold uP
            rw [if_neg huz]
            show os ++ ByteArray.empty ++ _ = _ ++ bs [32, 117, 110, 116, 105, 108, 32] ++ _
            rw [ByteArray.append_empty, ByteArray.append_assoc, bs_app]
            rfl
          clear hf1 e1 huz hcz DU
          generalize bs t = bt at D1 HE htl
          have q3 : ¬ 9223372036854775807 < os.size + 7 := by omega
          have q4 : ¬ 9223372036854775807 < os.size + 7 + bt.size := by omega
          go_wp2_with (go_at_call 179; refine Calls.mono (D1.out _) ?_; rintro r w3 ⟨rfl, hb3⟩)
          go_ret
          exact ⟨ret_str HE.out.symm, below_then hz2 hb3⟩
      · have hcn : 0 < c := by omega
        have huz : u = -1 := by rcases hcu with h | h <;> omega
        have hun : ¬ 0 ≤ u := by omega
        have HE : Hid (fin = os ++ ⟨#[32, 99, 111, 117, 110, 116, 32]⟩ ++ bs (Lib.itoa c)) := by
          show _ = _
          rw [hf1.out]
          unfold uP cP
          rw [if_neg hcz, if_pos huz]
          show _ ++ ByteArray.empty = _ ++ bs [32, 99, 111, 117, 110, 116, 32] ++ _
          rw [ByteArray.append_empty, ByteArray.append_assoc, bs_app]
          rfl
        clear hf1 huz hcz DU
        generalize bs (Lib.itoa c) = bt at DC HE hcl
        have q3 : ¬ 9223372036854775807 < os.size + 7 := by omega
        have q4 : ¬ 9223372036854775807 < os.size + 7 + bt.size := by omega
        go_wp2_with (go_at_call 180; refine Calls.mono (DC.out _) ?_; rintro r w3 ⟨rfl, hb3⟩; have y4 := cell_step x4 hb3)
        go_ret
        exact ⟨ret_str HE.out.symm, below_then hz2 hb3⟩

theorem ruleText_once (f : ByteArray) (e : Int) (sl : Value) (c u : Int) (ds : List Int) (t : List UInt8) (w : World) (hg : Got w sl ds)
    (hne : (f.toList == [111, 110, 99, 101]) = true) :
    Calls Tryz.prog 181 #[rv f e sl c u] w fun r w' => r = .returned (.string (bs (rtext (rd f e ds c u) t))) ∧ Below w.heap.size w w' := by
  obtain ⟨ra, rc, rfl⟩ := got_form hg
  have HR : Hid (bs (rtext (rd f e ds c u) t) = ⟨#[111, 110, 99, 101]⟩) := by
    unfold rtext words
    rw [if_pos (show (rd f e ds c u).freq = onceW by rw [beq_iff_eq] at hne; exact hne), Lib.join_one]
    exact rfl
  rw [HR.out]
  clear hg HR
  unfold rv
  go_enter Tryz.func181, Tryz.ntmps181
  go_wp2
  go_ret
  exact ⟨rfl, below_alloc _ _⟩
theorem ruleText_any (f : ByteArray) (e : Int) (sl : Value) (c u : Int) (ds : List Int) (t : List UInt8) (w : World) (hg : Got w sl ds) (h20 : ds.length ≤ 20) (hw : Well (rd f e ds c u)) (ht : UT (rd f e ds c u) t) :
    Calls Tryz.prog 181 #[rv f e sl c u] w fun r w' => r = .returned (.string (bs (rtext (rd f e ds c u) t))) ∧ Below w.heap.size w w' := by
  cases hne : (f.toList == [111, 110, 99, 101]) with
  | true => exact ruleText_once f e sl c u ds t w hg hne
  | false => exact ruleText_more f e sl c u ds t w hg h20 hw ht hne
end Go.Proofs.YtnpecjccajebiaaGreatDoor
