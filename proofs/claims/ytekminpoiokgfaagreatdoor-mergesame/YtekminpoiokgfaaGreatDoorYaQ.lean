/- Contracts of package day's isDateText, number and Read: any text as a day. -/
import Derived.Test.YtekminpoiokgfaaGreatDoorYaL
import Derived.Test.YtekminpoiokgfaaGreatDoorYaO
import Derived.Test.YtekminpoiokgfaaGreatDoorYaP
import Derived.Test.YtekminpoiokgfaaGreatDoorYaA
import Derived.OrdersIn
import Derived.Orders
namespace Go.Proofs.YtekminpoiokgfaaGreatDoor
open Go.RowKit Cal

set_option maxHeartbeats 400000 in
theorem number_any (s : ByteArray) (w : World) (hs : s.size ≤ 4) (hd : digs s.data.toList) :
    Calls Tryz.prog 144 #[.string s] w fun e w' => e = .returned (.int .i64 (val s.data.toList)) ∧ w' = w := by
  go_enter Tryz.func144, Tryz.ntmps144
  go_wp2
  go_loop [3, 7] (fun n i => ∃ k : Nat, k ≤ s.size ∧ i = .int .i64 k ∧ n = .int .i64 (val (s.data.toList.take k))) (fun _ i => s.size - (intOf i).toNat)
  case atStart => exact ⟨0, Nat.zero_le _, rfl, rfl⟩
  case round =>
    obtain ⟨k, hk, rfl, rfl⟩ := hrel
    have hb := val_bd _ (digs_take hd k) (by rw [List.length_take]; omega)
    by_cases hlt : k < s.size
    · have hc := digs_at hd k hlt
      have HS : Hid (val (s.data.toList.take (k + 1)) = val (s.data.toList.take k) * 10 + ((s[k].toNat : Int) - 48)) := by rw [take_snoc s k hlt]; exact val_snoc _ _
      go_wp2
      go_round
      case rel => exact ⟨k + 1, by omega, by go_num, by rw [HS.out]⟩
      case measure => simp [intOf]; omega
    · go_wp2
      go_ret
      exact ⟨ret_int (by rw [List.take_of_length_le (by simp; omega)]), rfl⟩

set_option maxHeartbeats 1000000 in
theorem isDT_ten (s : ByteArray) (w : World) (b : Bool) (h : s.size = 10) (hb : b = true ↔ isDT s) :
    Calls Tryz.prog 142 #[.string s] w fun e w' => e = .returned (.bool b) ∧ w' = w := by
  have HB : Hid (b = true ↔ isDT s) := hb
  clear hb
  have H10 : Hid (s.size = 10) := h
  have hlo : (10 : Int) ≤ s.size := by omega
  have hhi : (s.size : Int) ≤ 10 := by omega
  clear h
  go_enter Tryz.func142, Tryz.ntmps142
  go_wp2
  go_loop [9] (fun i => ∃ k : Nat, k ≤ 10 ∧ i = .int .i64 k ∧ ∀ (j : Nat) (hj : j < s.size), j < k → sgn j s[j]) (fun i => 10 - (intOf i).toNat)
  case atStart => exact ⟨0, Nat.zero_le _, rfl, fun j _ h => absurd h (Nat.not_lt_zero _)⟩
  case round =>
    obtain ⟨k, hk, rfl, hall⟩ := hrel
    have HA : Hid (∀ (j : Nat) (hj : j < s.size), j < k → sgn j s[j]) := hall
    clear hall
    by_cases hlt : k < 10
    · have hks : k < s.size := by omega
      have HN : Hid (sgn k s[k] → ∀ (j : Nat) (hj : j < s.size), j < k + 1 → sgn j s[j]) := fun hc j hj hjk => by
        by_cases e : j = k
        · subst e; exact hc
        · exact HA.out j hj (by omega)
      have HF : Hid (¬ sgn k s[k] → b = false) := fun hc => by
        cases b with
        | false => rfl
        | true => exact absurd ((HB.out.1 rfl).2 k hks) hc
      clear HA HB
      by_cases h47 : k = 4 ∨ k = 7
      · have HL : Hid (sgn k s[k] ↔ (s[k].toNat : Int) = 45) := sgn_line h47
        by_cases hc : (s[k].toNat : Int) = 45
        · have hc' : ((s[k].toNat : Int) == 45) = true := by simpa using hc
          have HG : Hid (∀ (j : Nat) (hj : j < s.size), j < k + 1 → sgn j s[j]) := HN.out (HL.out.2 hc)
          clear HN HF HL hc
          rcases h47 with e | e
          · have e1 : ((k : Int) == 4) = true := by simp; omega
            clear e
            go_wp2
            go_round
            case rel => exact ⟨k + 1, by omega, by go_num, HG.out⟩
            case measure => simp [intOf]; omega
          · have e1 : ((k : Int) == 4) = false := by simp; omega
            have e2 : ((k : Int) == 7) = true := by simp; omega
            clear e
            go_wp2
            go_round
            case rel => exact ⟨k + 1, by omega, by go_num, HG.out⟩
            case measure => simp [intOf]; omega
        · have hc' : ((s[k].toNat : Int) == 45) = false := by simpa using hc
          have HG : Hid (b = false) := HF.out (fun x => hc (HL.out.1 x))
          clear HN HF HL hc
          rcases h47 with e | e
          · have e1 : ((k : Int) == 4) = true := by simp; omega
            clear e
            go_wp2
            go_ret
            exact ⟨ret_bool HG.out.symm, rfl⟩
          · have e1 : ((k : Int) == 4) = false := by simp; omega
            have e2 : ((k : Int) == 7) = true := by simp; omega
            clear e
            go_wp2
            go_ret
            exact ⟨ret_bool HG.out.symm, rfl⟩
      · have HL : Hid (sgn k s[k] ↔ (48 ≤ (s[k].toNat : Int) ∧ (s[k].toNat : Int) ≤ 57)) := sgn_digit h47
        have e1 : ((k : Int) == 4) = false := by simp; omega
        have e2 : ((k : Int) == 7) = false := by simp; omega
        clear h47
        by_cases hc : 48 ≤ (s[k].toNat : Int) ∧ (s[k].toNat : Int) ≤ 57
        · have HG : Hid (∀ (j : Nat) (hj : j < s.size), j < k + 1 → sgn j s[j]) := HN.out (HL.out.2 hc)
          clear HN HF HL
          obtain ⟨hc1, hc2⟩ := hc
          go_wp2
          go_round
          case rel => exact ⟨u2, .int .i64 k, .int .i64 ((k : Int) + 1), ⟨k + 1, by omega, by go_num, HG.out⟩, rfl, rfl, rfl⟩
          case measure => simp [intOf]; omega
        · have HG : Hid (b = false) := HF.out (fun x => hc (HL.out.1 x))
          clear HN HF HL
          by_cases hc1 : (s[k].toNat : Int) < 48
          · clear hc
            go_wp2
            go_ret
            exact ⟨ret_bool HG.out.symm, rfl⟩
          · have hc2 : 57 < (s[k].toNat : Int) := by omega
            clear hc
            go_wp2
            go_ret
            exact ⟨ret_bool HG.out.symm, rfl⟩
    · go_wp2
      go_ret
      refine ⟨ret_bool ((HB.out.2 ⟨H10.out, fun j hj => HA.out j hj (by have := H10.out; omega)⟩).symm), rfl⟩

theorem isDT_yes (s : ByteArray) (w : World) (h : isDT s) :
    Calls Tryz.prog 142 #[.string s] w fun e w' => e = .returned (.bool true) ∧ w' = w :=
  isDT_ten s w true h.1 ⟨fun _ => h, fun _ => rfl⟩

set_option maxHeartbeats 400000 in
theorem read_ok (s : ByteArray) (w : World) (h : isDT s) (hv : vld (yS s) (mS s) (dS s)) :
    Calls Tryz.prog 110 #[.string s] w fun e w' => e = .returned (.tuple #[.int .i64 (num (yS s) (mS s) (dS s)), .nilIface]) ∧ Below w.heap.size w w' := by
  obtain ⟨p0, p1, p2, z0, z1, z2⟩ := isDT_parts h
  have n0 := fun w => number_any (s.extract 0 4) w (by omega) p0
  have n1 := fun w => number_any (s.extract 5 7) w (by omega) p1
  have n2 := fun w => number_any (s.extract 8 s.size) w (by omega) p2
  have mk := fun w => make_ok (yS s) (mS s) (dS s) w hv
  change ∀ w, Calls _ _ _ w fun e w' => e = .returned (.int .i64 (yS s)) ∧ w' = w at n0
  change ∀ w, Calls _ _ _ w fun e w' => e = .returned (.int .i64 (mS s)) ∧ w' = w at n1
  change ∀ w, Calls _ _ _ w fun e w' => e = .returned (.int .i64 (dS s)) ∧ w' = w at n2
  have N0 : Hid (_) := n0
  have N1 : Hid (_) := n1
  have N2 : Hid (_) := n2
  have M : Hid (_) := mk
  have hlo : (10 : Int) ≤ s.size := by have := h.1; omega
  have hhi : (s.size : Int) ≤ 10 := by have := h.1; omega
  clear n0 n1 n2 mk p0 p1 p2 z0 z1 z2 hv
  go_enter Tryz.func110, Tryz.ntmps110
  go_wp2_with (go_at_call 142; refine (isDT_yes _ _ h).mono ?_; rintro e w' ⟨rfl, rfl⟩)
  go_quiet (first
    | (go_at_call_of 144 (Value.string (s.extract 0 4)); exact Calls.quiet_of_same (N0.out _))
    | (go_at_call_of 144 (Value.string (s.extract 5 7)); exact Calls.quiet_of_same (N1.out _))
    | (go_at_call_of 144 (Value.string (s.extract 8 s.size)); exact Calls.quiet_of_same (N2.out _))
    | (go_at_call 143; exact Calls.quiet_of_same (M.out _)))
  go_wp2
  go_ret2
  exact ⟨rfl, drewN_below _ _⟩

end Go.Proofs.YtekminpoiokgfaaGreatDoor

/- The reader of a rule's text in memory; contracts of takeFreq, number.Read, takeNumber, takeUntil, mayEnd at the words of a rule that is well. -/
namespace Go.Proofs.YtekminpoiokgfaaGreatDoor
open Go.RowKit Cal

/-- the reader's block -/
def Rd (w : World) (B : Nat) (f : ByteArray) (e : Int) (sl : Value) (c u p : Int) : Prop :=
  w.heap[B]? = some (.cells #[.string f, .int .i64 e, sl, .int .i64 c, .int .i64 u, .int .i64 p] 185 (0, 0))

theorem rd_cell {w : World} {B : Nat} {f : ByteArray} {e : Int} {sl : Value} {c u p : Int} (h : Rd w B f e sl c u p) :
    w.cell? ⟨B, 0, none⟩ = some (.string f) ∧ w.cell? ⟨B, 1, none⟩ = some (.int .i64 e) ∧ w.cell? ⟨B, 2, none⟩ = some sl ∧ w.cell? ⟨B, 3, none⟩ = some (.int .i64 c) ∧ w.cell? ⟨B, 4, none⟩ = some (.int .i64 u) ∧ w.cell? ⟨B, 5, none⟩ = some (.int .i64 p) := by
  refine ⟨?_, ?_, ?_, ?_, ?_, ?_⟩ <;> simp [World.cell?, show w.heap[B]? = _ from h]
theorem rd_frozen {w : World} {B : Nat} {f : ByteArray} {e : Int} {sl : Value} {c u p : Int} (h : Rd w B f e sl c u p) (i : Nat) : w.frozen? ⟨B, i, none⟩ = false := by
  simp [World.frozen?, show w.heap[B]? = _ from h]
theorem rd_lt {w : World} {B : Nat} {f : ByteArray} {e : Int} {sl : Value} {c u p : Int} (h : Rd w B f e sl c u p) : B < w.heap.size := (Array.getElem?_eq_some_iff.1 h).1
theorem rd_set0 {w : World} {B : Nat} {f : ByteArray} {e : Int} {sl : Value} {c u p : Int} (h : Rd w B f e sl c u p) (f' : ByteArray) : Rd (w.setCell ⟨B, 0, none⟩ (.string f')) B f' e sl c u p := set_block _ h
theorem rd_set1 {w : World} {B : Nat} {f : ByteArray} {e : Int} {sl : Value} {c u p : Int} (h : Rd w B f e sl c u p) (e' : Int) : Rd (w.setCell ⟨B, 1, none⟩ (.int .i64 e')) B f e' sl c u p := set_block _ h
theorem rd_set2 {w : World} {B : Nat} {f : ByteArray} {e : Int} {sl : Value} {c u p : Int} (h : Rd w B f e sl c u p) (sl' : Value) : Rd (w.setCell ⟨B, 2, none⟩ sl') B f e sl' c u p := set_block _ h
theorem rd_set3 {w : World} {B : Nat} {f : ByteArray} {e : Int} {sl : Value} {c u p : Int} (h : Rd w B f e sl c u p) (c' : Int) : Rd (w.setCell ⟨B, 3, none⟩ (.int .i64 c')) B f e sl c' u p := set_block _ h
theorem rd_set4 {w : World} {B : Nat} {f : ByteArray} {e : Int} {sl : Value} {c u p : Int} (h : Rd w B f e sl c u p) (u' : Int) : Rd (w.setCell ⟨B, 4, none⟩ (.int .i64 u')) B f e sl c u' p := set_block _ h
theorem rd_set5 {w : World} {B : Nat} {f : ByteArray} {e : Int} {sl : Value} {c u p : Int} (h : Rd w B f e sl c u p) (p' : Int) : Rd (w.setCell ⟨B, 5, none⟩ (.int .i64 p')) B f e sl c u p' := set_block _ h
theorem rd_step {w w' : World} {B : Nat} {f : ByteArray} {e : Int} {sl : Value} {c u p : Int} (h : Rd w B f e sl c u p) (hb : Below w.heap.size w w') : Rd w' B f e sl c u p := (hb.block B (rd_lt h)).trans h

theorem takeFreq_any (B : Nat) (x : ByteArray) (sl : Value) (w : World) (hx : isF x = true) (h : Rd w B ⟨#[]⟩ 0 sl 0 (-1) 0) :
    Calls Tryz.prog 165 #[.pointer (some ⟨B, 0, none⟩), .string x] w fun r w' => r = .returned (.bool true) ∧ w.grownBy w' (some B) ∧
      ((x.toList == [111, 110, 99, 101]) = true → Rd w' B x 1 sl 0 (-1) 7) ∧ ((x.toList == [111, 110, 99, 101]) = false → Rd w' B x 0 sl 0 (-1) 1) := by
  have c1 := fun w => isFreq_any x w
  rw [hx] at c1
  have C1 : Hid (_) := c1
  clear c1 hx
  obtain ⟨x0, x1, x2, x3, x4, x5⟩ := rd_cell h
  have z0 := rd_frozen h 0
  have z1 := rd_frozen h 1
  have z5 := rd_frozen h 5
  cases ho : (x.toList == [111, 110, 99, 101]) with
  | false =>
    go_enter Tryz.func165, Tryz.ntmps165
    go_wp2_with (go_at_call 74; refine (C1.out _).mono ?_; rintro r w' ⟨rfl, rfl⟩)
    go_ret
    exact ⟨rfl, grown_then (grown_set _ _ _) (grown_set _ ⟨B, 5, none⟩ _), fun e => absurd e (by decide), fun _ => rd_set5 (rd_set0 h x) 1⟩
  | true =>
    go_enter Tryz.func165, Tryz.ntmps165
    go_wp2_with (go_at_call 74; refine (C1.out _).mono ?_; rintro r w' ⟨rfl, rfl⟩)
    go_ret
    exact ⟨rfl, grown_then (grown_then (grown_then (grown_set _ _ _) (grown_set _ ⟨B, 5, none⟩ _)) (grown_set _ ⟨B, 1, none⟩ _)) (grown_set _ ⟨B, 5, none⟩ _), fun _ => rd_set5 (rd_set1 (rd_set5 (rd_set0 h x) 1) 1) 7, fun e => absurd e (by decide)⟩

theorem bytes_below (w : World) (b : TypeId) (t : ByteArray) : Below w.heap.size w (Lib.bytesWorld w b t) := by
  have h := below_then (drew_below w) (below_alloc w.drew (.cells (Lib.bytesCells w b t) b))
  refine ⟨rfl, rfl, rfl, ?_, fun k hk => ?_⟩
  · show w.heap.size ≤ ((w.heap.push _).modify _ _).size
    simp
  · show ((w.heap.push _).modify w.heap.size _)[k]? = w.heap[k]?
    rw [Array.getElem?_modify, if_neg (by omega), Array.getElem?_push_lt hk, Array.getElem?_eq_getElem hk]
theorem numRead_any (m : Int) (w : World) (h0 : 0 ≤ m) (h1 : m ≤ 100000) (ht : Tab w) :
    Calls Tryz.prog 188 #[.string (bs (Lib.itoa m)), .int .i64 9] w fun r w' => r = .returned (.tuple #[.int .i64 m, .bool true]) ∧ Below w.heap.size w w' := by
  have hl := itoa_len m h0 (by omega)
  have hsz : (bs (Lib.itoa m)).size ≤ 6 := by rw [Lib.size_eq, bs_data]; exact hl
  have ha := Tryz.strconv_Atoi (bs (Lib.itoa m)) m (by omega) (by rw [bs_data]; exact itoa_atoi m h0) w
  have A : Hid (Calls Tryz.prog 140 #[.string (bs (Lib.itoa m))] w fun e w' => e = .returned (.tuple #[.int .i64 m, .nilIface]) ∧ Below w.heap.size w w') := by
    refine ha.mono ?_
    rintro e w' ⟨rfl, t, rfl⟩
    exact ⟨rfl, bytes_below _ _ _⟩
  have I : Hid (∀ w, Tab w → Calls Tryz.prog 99 #[.int .i64 m] w fun e w' => e = .returned (.string (bs (Lib.itoa m))) ∧ Below w.heap.size w w') := fun w t => itoa_any m w h0 h1 t
  generalize bs (Lib.itoa m) = sb at hsz A I
  have T : Hid (Tab w) := ht
  have hsz' : (sb.size : Int) ≤ 6 := by omega
  clear ha ht hl
  go_enter Tryz.func188, Tryz.ntmps188
  go_wp2_with (first
    | (go_at_call 140; refine Calls.mono A.out ?_; rintro r w1 ⟨rfl, hb1⟩)
    | (go_at_call 99; refine (I.out _ (T.out.step hb1)).mono ?_; rintro r w2 ⟨rfl, hb2⟩))
  go_ret2
  exact ⟨rfl, below_then hb1 hb2⟩

theorem takeNumber_any (B : Nat) (m p0 : Int) (i : Nat) (w : World) (f : ByteArray) (e : Int) (sl : Value) (c u p : Int) (h0 : 0 ≤ m) (h1 : m ≤ 100000) (hi : i = 1 ∨ i = 3) (ht : Tab w) (h : Rd w B f e sl c u p) :
    Calls Tryz.prog 166 #[.pointer (some ⟨B, 0, none⟩), .string (bs (Lib.itoa m)), .pointer (some ⟨B, i, none⟩), .int .i64 p0] w fun r w' => r = .returned (.bool true) ∧ w.grownBy w' (some B) ∧
      (i = 1 → Rd w' B f m sl c u p0) ∧ (i = 3 → Rd w' B f e sl m u p0) := by
  have C := numRead_any m w h0 h1 ht
  generalize bs (Lib.itoa m) = sb at C
  have CC : Hid (Calls Tryz.prog 188 #[.string sb, .int .i64 9] w fun r w' => r = .returned (.tuple #[.int .i64 m, .bool true]) ∧ Below w.heap.size w w') := C
  have H : Hid (Rd w B f e sl c u p) := h
  clear C h ht
  rcases hi with rfl | rfl
  · go_enter Tryz.func166, Tryz.ntmps166
    go_wp2_with (go_at_call 188; refine Calls.mono CC.out ?_; rintro r w1 ⟨rfl, hb1⟩; obtain ⟨x0, x1, x2, x3, x4, x5⟩ := rd_cell (rd_step H.out hb1); have z1 := rd_frozen (rd_step H.out hb1) 1; have z5 := rd_frozen (rd_step H.out hb1) 5)
    go_ret
    exact ⟨rfl, grown_then (grown_then (grown_below hb1 _) (grown_set _ ⟨B, 1, none⟩ _)) (grown_set _ ⟨B, 5, none⟩ _), fun _ => rd_set5 (rd_set1 (rd_step H.out hb1) m) p0, fun e => absurd e (by decide)⟩
  · go_enter Tryz.func166, Tryz.ntmps166
    go_wp2_with (go_at_call 188; refine Calls.mono CC.out ?_; rintro r w1 ⟨rfl, hb1⟩; obtain ⟨x0, x1, x2, x3, x4, x5⟩ := rd_cell (rd_step H.out hb1); have z3 := rd_frozen (rd_step H.out hb1) 3; have z5 := rd_frozen (rd_step H.out hb1) 5)
    go_ret
    exact ⟨rfl, grown_then (grown_then (grown_below hb1 _) (grown_set _ ⟨B, 3, none⟩ _)) (grown_set _ ⟨B, 5, none⟩ _), fun e => absurd e (by decide), fun _ => rd_set5 (rd_set3 (rd_step H.out hb1) m) p0⟩

set_option maxRecDepth 100000 in
theorem isNil_any (q : Addr) (w : World) :
    Calls Tryz.prog 189 #[.nilIface, .iface 250 (.pointer (some q))] w fun r w' => r = .returned (.bool false) ∧ w' = w := by
  have hbin : (binOp BinOp.eql 50 .nilIface (.iface 250 (.pointer (some q)))).run Tryz.prog w = .ok (.bool false) w := by kernel_rfl
  go_enter Tryz.func189, Tryz.ntmps189
  go_wp2
  go_ret
  exact ⟨rfl, rfl⟩

theorem takeUntil_any (B : Nat) (n y m d : Int) (w : World) (f : ByteArray) (e : Int) (sl : Value) (c u p : Int) (hv : vld y m d) (hn : num y m d = n) (g : GlobR w) (h : Rd w B f e sl c u p) :
    Calls Tryz.prog 167 #[.pointer (some ⟨B, 0, none⟩), .string (bs (txt y m d))] w fun r w' => r = .returned (.bool true) ∧ w.grownBy w' (some B) ∧ Rd w' B f e sl c n 7 := by
  have hv' := hv
  obtain ⟨h1, h2, h3, h4, h5, h6⟩ := hv
  have h7 := (dim_bd y m).2
  have hD := txt_isDT y m d (by omega) (by omega) (by omega) (by omega) (by omega) (by omega)
  have hN := txt_nums y m d (by omega) (by omega) (by omega) (by omega) (by omega) (by omega)
  have C := read_ok (bs (txt y m d)) w hD (by unfold bs; rw [hN.1, hN.2.1, hN.2.2]; exact hv')
  unfold bs at C
  rw [hN.1, hN.2.1, hN.2.2, hn] at C
  change Calls _ _ #[.string (bs (txt y m d))] _ _ at C
  generalize bs (txt y m d) = sb at C
  have CC : Hid (Calls Tryz.prog 110 #[.string sb] w fun r w' => r = .returned (.tuple #[.int .i64 n, .nilIface]) ∧ Below w.heap.size w w') := C
  have H : Hid (Rd w B f e sl c u p) := h
  obtain ⟨q, hq⟩ := g.text
  clear C h hD hN hv' h1 h2 h3 h4 h5 h6 h7 hn g
  go_enter Tryz.func167, Tryz.ntmps167
  go_wp2_with (first
    | (go_at_call 110; refine Calls.mono CC.out ?_; rintro r w1 ⟨rfl, hb1⟩; obtain ⟨x0, x1, x2, x3, x4, x5⟩ := rd_cell (rd_step H.out hb1); have z4 := rd_frozen (rd_step H.out hb1) 4; have z5 := rd_frozen (rd_step H.out hb1) 5; have q1 := cell_step hq hb1)
    | (go_at_call 189; refine (isNil_any _ _).mono ?_; rintro r w' ⟨rfl, rfl⟩))
  go_ret
  exact ⟨rfl, grown_then (grown_then (grown_below hb1 _) (grown_set _ ⟨B, 4, none⟩ _)) (grown_set _ ⟨B, 5, none⟩ _), rd_set5 (rd_set4 (rd_step H.out hb1) n) 7⟩

theorem mayEnd_any (B : Nat) (p : Int) (w : World) (f : ByteArray) (e : Int) (sl : Value) (c u : Int) (hp : p = 2 ∨ p = 3 ∨ p = 5 ∨ p = 7) (h : Rd w B f e sl c u p) :
    Calls Tryz.prog 147 #[.pointer (some ⟨B, 0, none⟩)] w fun r w' => r = .returned (.bool true) ∧ w' = w := by
  obtain ⟨x0, x1, x2, x3, x4, x5⟩ := rd_cell h
  clear h
  rcases hp with rfl | rfl | rfl | rfl
  all_goals
    go_enter Tryz.func147, Tryz.ntmps147
    go_wp2
    go_ret
    exact ⟨rfl, rfl⟩
end Go.Proofs.YtekminpoiokgfaaGreatDoor

/- Contract of rule.readName: a weekday's name is read as it. -/
namespace Go.Proofs.YtekminpoiokgfaaGreatDoor
open Go Go.RowKit Cal

set_option maxRecDepth 100000 in
theorem readName_any (d : Nat) (hd : d < 7) (w : World) (g : GlobR w) :
    Calls Tryz.prog 211 #[.string (bs (nm d))] w fun r w' => r = .returned (.tuple #[.int .i64 d, .bool true]) ∧ w' = w := by
  have n0 : w.cell? ⟨7, 0, none⟩ = some (.string ⟨#[109, 111]⟩) := g.days 0 (by omega)
  have n1 : w.cell? ⟨7, 1, none⟩ = some (.string ⟨#[116, 117]⟩) := g.days 1 (by omega)
  have n2 : w.cell? ⟨7, 2, none⟩ = some (.string ⟨#[119, 101]⟩) := g.days 2 (by omega)
  have n3 : w.cell? ⟨7, 3, none⟩ = some (.string ⟨#[116, 104]⟩) := g.days 3 (by omega)
  have n4 : w.cell? ⟨7, 4, none⟩ = some (.string ⟨#[102, 114]⟩) := g.days 4 (by omega)
  have n5 : w.cell? ⟨7, 5, none⟩ = some (.string ⟨#[115, 97]⟩) := g.days 5 (by omega)
  have n6 : w.cell? ⟨7, 6, none⟩ = some (.string ⟨#[115, 117]⟩) := g.days 6 (by omega)
  have hx0 : ∀ w, (Instr.index 196 (.agg #[.string ⟨#[109, 111]⟩, .string ⟨#[116, 117]⟩, .string ⟨#[119, 101]⟩, .string ⟨#[116, 104]⟩, .string ⟨#[102, 114]⟩, .string ⟨#[115, 97]⟩, .string ⟨#[115, 117]⟩]) (.int .i64 0)).run Tryz.prog w = .ok (.string ⟨#[109, 111]⟩) w := fun w => by kernel_rfl
  have hx1 : ∀ w, (Instr.index 196 (.agg #[.string ⟨#[109, 111]⟩, .string ⟨#[116, 117]⟩, .string ⟨#[119, 101]⟩, .string ⟨#[116, 104]⟩, .string ⟨#[102, 114]⟩, .string ⟨#[115, 97]⟩, .string ⟨#[115, 117]⟩]) (.int .i64 1)).run Tryz.prog w = .ok (.string ⟨#[116, 117]⟩) w := fun w => by kernel_rfl
  have hx2 : ∀ w, (Instr.index 196 (.agg #[.string ⟨#[109, 111]⟩, .string ⟨#[116, 117]⟩, .string ⟨#[119, 101]⟩, .string ⟨#[116, 104]⟩, .string ⟨#[102, 114]⟩, .string ⟨#[115, 97]⟩, .string ⟨#[115, 117]⟩]) (.int .i64 2)).run Tryz.prog w = .ok (.string ⟨#[119, 101]⟩) w := fun w => by kernel_rfl
  have hx3 : ∀ w, (Instr.index 196 (.agg #[.string ⟨#[109, 111]⟩, .string ⟨#[116, 117]⟩, .string ⟨#[119, 101]⟩, .string ⟨#[116, 104]⟩, .string ⟨#[102, 114]⟩, .string ⟨#[115, 97]⟩, .string ⟨#[115, 117]⟩]) (.int .i64 3)).run Tryz.prog w = .ok (.string ⟨#[116, 104]⟩) w := fun w => by kernel_rfl
  have hx4 : ∀ w, (Instr.index 196 (.agg #[.string ⟨#[109, 111]⟩, .string ⟨#[116, 117]⟩, .string ⟨#[119, 101]⟩, .string ⟨#[116, 104]⟩, .string ⟨#[102, 114]⟩, .string ⟨#[115, 97]⟩, .string ⟨#[115, 117]⟩]) (.int .i64 4)).run Tryz.prog w = .ok (.string ⟨#[102, 114]⟩) w := fun w => by kernel_rfl
  have hx5 : ∀ w, (Instr.index 196 (.agg #[.string ⟨#[109, 111]⟩, .string ⟨#[116, 117]⟩, .string ⟨#[119, 101]⟩, .string ⟨#[116, 104]⟩, .string ⟨#[102, 114]⟩, .string ⟨#[115, 97]⟩, .string ⟨#[115, 117]⟩]) (.int .i64 5)).run Tryz.prog w = .ok (.string ⟨#[115, 97]⟩) w := fun w => by kernel_rfl
  have hx6 : ∀ w, (Instr.index 196 (.agg #[.string ⟨#[109, 111]⟩, .string ⟨#[116, 117]⟩, .string ⟨#[119, 101]⟩, .string ⟨#[116, 104]⟩, .string ⟨#[102, 114]⟩, .string ⟨#[115, 97]⟩, .string ⟨#[115, 117]⟩]) (.int .i64 6)).run Tryz.prog w = .ok (.string ⟨#[115, 117]⟩) w := fun w => by kernel_rfl
  clear g
  have hcases : d = 0 ∨ d = 1 ∨ d = 2 ∨ d = 3 ∨ d = 4 ∨ d = 5 ∨ d = 6 := by omega
  rcases hcases with rfl | rfl | rfl | rfl | rfl | rfl | rfl
  · change Calls _ _ #[.string ⟨#[109, 111]⟩] _ _
    go_enter Tryz.func211, Tryz.ntmps211
    go_wp2
    go_loop [4, 5, 7] (fun _ _ i => ∃ k : Nat, k ≤ 0 ∧ i = .int .i64 k) (fun _ _ i => 7 - (intOf i).toNat)
    case atStart => exact ⟨0, by omega, rfl⟩
    case round =>
      obtain ⟨k, hk, rfl⟩ := hrel
      have hkc : k = 0 := by omega
      clear hk
      rcases hkc with rfl
      · go_wp2
        go_ret2
        exact ⟨rfl, rfl⟩
  · change Calls _ _ #[.string ⟨#[116, 117]⟩] _ _
    go_enter Tryz.func211, Tryz.ntmps211
    go_wp2
    go_loop [4, 5, 7] (fun _ _ i => ∃ k : Nat, k ≤ 1 ∧ i = .int .i64 k) (fun _ _ i => 7 - (intOf i).toNat)
    case atStart => exact ⟨0, by omega, rfl⟩
    case round =>
      obtain ⟨k, hk, rfl⟩ := hrel
      have hkc : k = 0 ∨ k = 1 := by omega
      clear hk
      rcases hkc with rfl | rfl
      · go_wp2
        go_round
        case rel => exact ⟨1, by omega, rfl⟩
        case measure => simp [intOf]
      · go_wp2
        go_ret2
        exact ⟨rfl, rfl⟩
  · change Calls _ _ #[.string ⟨#[119, 101]⟩] _ _
    go_enter Tryz.func211, Tryz.ntmps211
    go_wp2
    go_loop [4, 5, 7] (fun _ _ i => ∃ k : Nat, k ≤ 2 ∧ i = .int .i64 k) (fun _ _ i => 7 - (intOf i).toNat)
    case atStart => exact ⟨0, by omega, rfl⟩
    case round =>
      obtain ⟨k, hk, rfl⟩ := hrel
      have hkc : k = 0 ∨ k = 1 ∨ k = 2 := by omega
      clear hk
      rcases hkc with rfl | rfl | rfl
      · go_wp2
        go_round
        case rel => exact ⟨1, by omega, rfl⟩
        case measure => simp [intOf]
      · go_wp2
        go_round
        case rel => exact ⟨2, by omega, rfl⟩
        case measure => simp [intOf]
      · go_wp2
        go_ret2
        exact ⟨rfl, rfl⟩
  · change Calls _ _ #[.string ⟨#[116, 104]⟩] _ _
    go_enter Tryz.func211, Tryz.ntmps211
    go_wp2
    go_loop [4, 5, 7] (fun _ _ i => ∃ k : Nat, k ≤ 3 ∧ i = .int .i64 k) (fun _ _ i => 7 - (intOf i).toNat)
    case atStart => exact ⟨0, by omega, rfl⟩
    case round =>
      obtain ⟨k, hk, rfl⟩ := hrel
      have hkc : k = 0 ∨ k = 1 ∨ k = 2 ∨ k = 3 := by omega
      clear hk
      rcases hkc with rfl | rfl | rfl | rfl
      · go_wp2
        go_round
        case rel => exact ⟨1, by omega, rfl⟩
        case measure => simp [intOf]
      · go_wp2
        go_round
        case rel => exact ⟨2, by omega, rfl⟩
        case measure => simp [intOf]
      · go_wp2
        go_round
        case rel => exact ⟨3, by omega, rfl⟩
        case measure => simp [intOf]
      · go_wp2
        go_ret2
        exact ⟨rfl, rfl⟩
  · change Calls _ _ #[.string ⟨#[102, 114]⟩] _ _
    go_enter Tryz.func211, Tryz.ntmps211
    go_wp2
    go_loop [4, 5, 7] (fun _ _ i => ∃ k : Nat, k ≤ 4 ∧ i = .int .i64 k) (fun _ _ i => 7 - (intOf i).toNat)
    case atStart => exact ⟨0, by omega, rfl⟩
    case round =>
      obtain ⟨k, hk, rfl⟩ := hrel
      have hkc : k = 0 ∨ k = 1 ∨ k = 2 ∨ k = 3 ∨ k = 4 := by omega
      clear hk
      rcases hkc with rfl | rfl | rfl | rfl | rfl
      · go_wp2
        go_round
        case rel => exact ⟨1, by omega, rfl⟩
        case measure => simp [intOf]
      · go_wp2
        go_round
        case rel => exact ⟨2, by omega, rfl⟩
        case measure => simp [intOf]
      · go_wp2
        go_round
        case rel => exact ⟨3, by omega, rfl⟩
        case measure => simp [intOf]
      · go_wp2
        go_round
        case rel => exact ⟨4, by omega, rfl⟩
        case measure => simp [intOf]
      · go_wp2
        go_ret2
        exact ⟨rfl, rfl⟩
  · change Calls _ _ #[.string ⟨#[115, 97]⟩] _ _
    go_enter Tryz.func211, Tryz.ntmps211
    go_wp2
    go_loop [4, 5, 7] (fun _ _ i => ∃ k : Nat, k ≤ 5 ∧ i = .int .i64 k) (fun _ _ i => 7 - (intOf i).toNat)
    case atStart => exact ⟨0, by omega, rfl⟩
    case round =>
      obtain ⟨k, hk, rfl⟩ := hrel
      have hkc : k = 0 ∨ k = 1 ∨ k = 2 ∨ k = 3 ∨ k = 4 ∨ k = 5 := by omega
      clear hk
      rcases hkc with rfl | rfl | rfl | rfl | rfl | rfl
      · go_wp2
        go_round
        case rel => exact ⟨1, by omega, rfl⟩
        case measure => simp [intOf]
      · go_wp2
        go_round
        case rel => exact ⟨2, by omega, rfl⟩
        case measure => simp [intOf]
      · go_wp2
        go_round
        case rel => exact ⟨3, by omega, rfl⟩
        case measure => simp [intOf]
      · go_wp2
        go_round
        case rel => exact ⟨4, by omega, rfl⟩
        case measure => simp [intOf]
      · go_wp2
        go_round
        case rel => exact ⟨5, by omega, rfl⟩
        case measure => simp [intOf]
      · go_wp2
        go_ret2
        exact ⟨rfl, rfl⟩
  · change Calls _ _ #[.string ⟨#[115, 117]⟩] _ _
    go_enter Tryz.func211, Tryz.ntmps211
    go_wp2
    go_loop [4, 5, 7] (fun _ _ i => ∃ k : Nat, k ≤ 6 ∧ i = .int .i64 k) (fun _ _ i => 7 - (intOf i).toNat)
    case atStart => exact ⟨0, by omega, rfl⟩
    case round =>
      obtain ⟨k, hk, rfl⟩ := hrel
      have hkc : k = 0 ∨ k = 1 ∨ k = 2 ∨ k = 3 ∨ k = 4 ∨ k = 5 ∨ k = 6 := by omega
      clear hk
      rcases hkc with rfl | rfl | rfl | rfl | rfl | rfl | rfl
      · go_wp2
        go_round
        case rel => exact ⟨1, by omega, rfl⟩
        case measure => simp [intOf]
      · go_wp2
        go_round
        case rel => exact ⟨2, by omega, rfl⟩
        case measure => simp [intOf]
      · go_wp2
        go_round
        case rel => exact ⟨3, by omega, rfl⟩
        case measure => simp [intOf]
      · go_wp2
        go_round
        case rel => exact ⟨4, by omega, rfl⟩
        case measure => simp [intOf]
      · go_wp2
        go_round
        case rel => exact ⟨5, by omega, rfl⟩
        case measure => simp [intOf]
      · go_wp2
        go_round
        case rel => exact ⟨6, by omega, rfl⟩
        case measure => simp [intOf]
      · go_wp2
        go_ret2
        exact ⟨rfl, rfl⟩

end Go.Proofs.YtekminpoiokgfaaGreatDoor

/- A region that draws its order, in a round of a loop over an iterator: what is shown of every order outside a round holds in it. Conditions: no operation of it is a defer; nothing is let out. -/
namespace Go.Proofs.YtekminpoiokgfaaGreatDoor
open Go Go.RowKit

theorem rowsIn_round {P : Program} {l n : Nat} {row : String} {args : Array Value} {w : World} {R : Value → World → Prop} (h : Rows P row args w R) : RowsIn (Fence.wide.inRound l) n P row args w R := by
  intro c cs _
  obtain ⟨v, w', hR, hs⟩ := h c cs
  exact ⟨v, w', hR, stepsIn_wide.2 hs⟩

theorem oper_in {P : Program} {l n : Nat} {o : Oper} {a : Act} {w : World} {K K' : Act → World → Prop} {Q : Exit → Act → World → Prop} (hd : ∀ c, o.op ≠ .defer c) (hK : ∀ a w, K a w → K' a w) (h : o.wp P a w K Q) : o.wpIn (Fence.wide.inRound l) n P a w K' Q := by
  refine ⟨fun _ _ => trivial, ?_⟩
  have e : o.semAt (Fence.wide.inRound l).round a.eval = execOp a.eval o := Oper.semAt_eq _ _ _ hd
  rw [e]
  unfold Oper.wp at h
  generalize (execOp a.eval o).run P w = r at h
  cases r with
  | ok x w' =>
    cases x <;> simp only [Oper.upon, Oper.uponIn] at h ⊢ <;>
      first
        | exact hK _ _ h
        | exact ⟨fun e => absurd e (by simp [Fence.wide]), CallsIn.inRound l (callsIn_wide.2 (h.mono (fun e w'' he => by cases e <;> first | exact hK _ _ he | exact he)))⟩
        | exact ⟨fun e => absurd e (by simp [Fence.wide]), rowsIn_round (Rows.mono h (fun _ _ he => hK _ _ he))⟩
  | halt x w' => cases x <;> simp only [Oper.upon, Oper.uponIn] at h ⊢ <;> exact h

theorem any_in {P : Program} {md : Region.Mode} {ops : Array Oper} {Q : Exit → Act → World → Prop} {l n : Nat} (hd : ∀ (i : Nat) (o : Oper), ops[i]? = some o → ∀ c, o.op ≠ .defer c) (hQ : ¬ LetsOut Q) :
    ∀ (fuel : Nat) (listed : Array Bool) (a : Act) (w : World), wpAny P md ops Q fuel listed a w → wpAnyIn (Fence.wide.inRound l) n P md ops Q fuel listed a w
  | 0, _, _, _, h => h
  | fuel + 1, listed, a, w, h => by
    refine ⟨h.1, fun i hi => ?_⟩
    have h2 := h.2 i hi
    unfold wpOp at h2
    unfold wpOpIn
    cases ho : ops[i]? with
    | none => rw [ho] at h2; exact any_in hd hQ fuel _ _ _ h2
    | some o =>
      rw [ho] at h2
      simp only at h2 ⊢
      by_cases hw : Region.wanted o (yielded ops a.tmps) = true
      · rw [if_pos hw] at h2 ⊢
        rcases h2 with h2 | ⟨_, h3⟩
        · exact oper_in (hd i o ho) (fun a w hk => any_in hd hQ fuel _ a w hk) h2
        · exact absurd h3 hQ
      · rw [if_neg hw] at h2 ⊢
        exact ⟨fun _ _ => trivial, any_in hd hQ fuel _ _ _ h2⟩

theorem region_round {P : Program} {id : Nat} {ops : Array Oper} {Q : Exit → Act → World → Prop} {l n : Nat} {a : Act} {w : World} (hm : P.follows .mixedOrders = true) (hd : ∀ (i : Nat) (o : Oper), ops[i]? = some o → ∀ c, o.op ≠ .defer c) (hQ : ¬ LetsOut Q)
    (h : wpAny P .any ops Q ops.size (Array.replicate ops.size false) a w.drew) : (Code.region id ops true).wpIn (Fence.wide.inRound l) n P Q a w :=
  wpIn_region_any hm (any_in hd hQ _ _ _ _ h)
theorem no_defer {ops : Array Oper} (h : ops.all (fun o => match o.op with | .defer _ => false | _ => true) = true) : ∀ (i : Nat) (o : Oper), ops[i]? = some o → ∀ c, o.op ≠ .defer c := by
  intro i o ho c e
  obtain ⟨hi, rfl⟩ := Array.getElem?_eq_some_iff.1 ho
  have := Array.all_eq_true.1 h i hi
  rw [e] at this
  exact absurd this (by simp)
end Go.Proofs.YtekminpoiokgfaaGreatDoor
