/- The reader of a rule's text in memory; contracts of takeFreq, number.Read, takeNumber, takeUntil, mayEnd at the words of a rule that is well. -/
import Derived.Test.YtfnajhpcbajhfaaGreatDoorRuleX
import Derived.Test.YtfnajhpcbajhfaaGreatDoorReadW
import Derived.Test.YtfnajhpcbajhfaaGreatDoorSplit
namespace Go.Proofs.YtfnajhpcbajhfaaGreatDoor
open Go.RowKit Cal

/-- the reader's block -/
def Rd (w : World) (B : Nat) (f : ByteArray) (e : Int) (sl : Value) (c u p : Int) : Prop :=
  w.heap[B]? = some (.cells #[.string f, .int .i64 e, sl, .int .i64 c, .int .i64 u, .int .i64 p] 40 (0, 0))

theorem rd_cell {w : World} {B : Nat} {f : ByteArray} {e : Int} {sl : Value} {c u p : Int} (h : Rd w B f e sl c u p) :
    w.cell? ⟨B, 0, none⟩ = some (.string f) ∧ w.cell? ⟨B, 1, none⟩ = some (.int .i64 e) ∧ w.cell? ⟨B, 2, none⟩ = some sl ∧ w.cell? ⟨B, 3, none⟩ = some (.int .i64 c) ∧ w.cell? ⟨B, 4, none⟩ = some (.int .i64 u) ∧ w.cell? ⟨B, 5, none⟩ = some (.int .i64 p) := by
  refine ⟨?_, ?_, ?_, ?_, ?_, ?_⟩ <;> simp [World.cell?, show w.heap[B]? = _ from h]
theorem rd_frozen {w : World} {B : Nat} {f : ByteArray} {e : Int} {sl : Value} {c u p : Int} (h : Rd w B f e sl c u p) (i : Nat) : w.frozen? ⟨B, i, none⟩ = false := by
  simp [World.frozen?, show w.heap[B]? = _ from h]
theorem rd_lt {w : World} {B : Nat} {f : ByteArray} {e : Int} {sl : Value} {c u p : Int} (h : Rd w B f e sl c u p) : B < w.heap.size := (Array.getElem?_eq_some_iff.1 h).1
theorem rd_set0 {w : World} {B : Nat} {f : ByteArray} {e : Int} {sl : Value} {c u p : Int} (h : Rd w B f e sl c u p) (f' : ByteArray) : Rd (w.setCell ⟨B, 0, none⟩ (.string f')) B f' e sl c u p := set_block _ h
theorem rd_set1 {w : World} {B : Nat} {f : ByteArray} {e : Int} {sl : Value} {c u p : Int} (h : Rd w B f e sl c u p) (e' : Int) : Rd (w.setCell ⟨B, 1, none⟩ (.int .i64 e')) B f e' sl c u p := set_block _ h
theorem rd_set2 {w : World} {B : Nat} {f : ByteArray} {e : Int} {sl : Value} {c u p : Int} (h : Rd w B f e sl c u p) (sl' : Value) : Rd (w.setCell ⟨B, 2, none⟩ sl') B f e sl' c u p := set_block _ h
theorem rd_set3 {w : World} {B : Nat} {f : ByteArray} {e : Int} {sl : Value} {c u p : Int} (h : Rd w B f e sl c u p) (c' : Int) : Rd (w.setCell ⟨B, 3, none⟩ (.int .i64 c')) B f e sl c' u p := set_block _ h
theorem rd_set4 {w : World} {B : Nat} {f : ByteArray} {e : Int} {sl : Value} {c u p : Int} (h : Rd w B f e sl c u p) (u' : Int) : Rd (w.setCell ⟨B, 4, none⟩ (.int .i64 u')) B f e sl c u' p := set_block _ h
theorem rd_set5 {w : World} {B : Nat} {f : ByteArray} {e : Int} {sl : Value} {c u p : Int} (h : Rd w B f e sl c u p) (p' : Int) : Rd (w.setCell ⟨B, 5, none⟩ (.int .i64 p')) B f e sl c u p' := set_block _ h
theorem rd_step {w w' : World} {B : Nat} {f : ByteArray} {e : Int} {sl : Value} {c u p : Int} (h : Rd w B f e sl c u p) (hb : Below w.heap.size w w') : Rd w' B f e sl c u p := (hb.block B (rd_lt h)).trans h

theorem takeFreq_any (B : Nat) (x : ByteArray) (sl : Value) (w : World) (hx : isF x = true) (h : Rd w B ⟨#[]⟩ 0 sl 0 (-1) 0) :
    Calls Tryz.prog 24 #[.pointer (some ⟨B, 0, none⟩), .string x] w fun r w' => r = .returned (.bool true) ∧ w.grownBy w' (some B) ∧
      ((x.toList == [111, 110, 99, 101]) = true → Rd w' B x 1 sl 0 (-1) 7) ∧ ((x.toList == [111, 110, 99, 101]) = false → Rd w' B x 0 sl 0 (-1) 1) := by
  have c1 := fun w => isFreq_any x w
  rw [hx] at c1
  have C1 : Hid (_) := c1
  clear c1 hx
  obtain ⟨x0, x1, x2, x3, x4, x5⟩ := rd_cell h
  have z0 := rd_frozen h 0
  have z1 := rd_frozen h 1
  have z5 := rd_frozen h 5
  cases ho : (x.toList == [111, 110, 99, 101]) with
  | false =>
    go_enter Tryz.func24, Tryz.ntmps24
    go_wp2_with (go_at_call 11; refine (C1.out _).mono ?_; rintro r w' ⟨rfl, rfl⟩)
    go_ret
    exact ⟨rfl, grown_then (grown_set _ _ _) (grown_set _ ⟨B, 5, none⟩ _), fun e => absurd e (by decide), fun _ => rd_set5 (rd_set0 h x) 1⟩
  | true =>
    go_enter Tryz.func24, Tryz.ntmps24
    go_wp2_with (go_at_call 11; refine (C1.out _).mono ?_; rintro r w' ⟨rfl, rfl⟩)
    go_ret
    exact ⟨rfl, grown_then (grown_then (grown_then (grown_set _ _ _) (grown_set _ ⟨B, 5, none⟩ _)) (grown_set _ ⟨B, 1, none⟩ _)) (grown_set _ ⟨B, 5, none⟩ _), fun _ => rd_set5 (rd_set1 (rd_set5 (rd_set0 h x) 1) 1) 7, fun e => absurd e (by decide)⟩

theorem bytes_below (w : World) (b : TypeId) (t : ByteArray) : Below w.heap.size w (Lib.bytesWorld w b t) := by
  have h := below_then (drew_below w) (below_alloc w.drew (.cells (Lib.bytesCells w b t) b))
  refine ⟨rfl, rfl, rfl, ?_, fun k hk => ?_⟩
  · show w.heap.size ≤ ((w.heap.push _).modify _ _).size
    simp
  · show ((w.heap.push _).modify w.heap.size _)[k]? = w.heap[k]?
    rw [Array.getElem?_modify, if_neg (by omega), Array.getElem?_push_lt hk, Array.getElem?_eq_getElem hk]
theorem numRead_any (m : Int) (w : World) (h0 : 0 ≤ m) (h1 : m ≤ 100000) (ht : Tab w) :
    Calls Tryz.prog 37 #[.string (bs (Lib.itoa m)), .int .i64 9] w fun r w' => r = .returned (.tuple #[.int .i64 m, .bool true]) ∧ Below w.heap.size w w' := by
  have hl := itoa_len m h0 (by omega)
  have hsz : (bs (Lib.itoa m)).size ≤ 6 := by rw [Lib.size_eq, bs_data]; exact hl
  have ha := Tryz.strconv_Atoi (bs (Lib.itoa m)) m (by omega) (by rw [bs_data]; exact itoa_atoi m h0) w
  have A : Hid (Calls Tryz.prog 49 #[.string (bs (Lib.itoa m))] w fun e w' => e = .returned (.tuple #[.int .i64 m, .nilIface]) ∧ Below w.heap.size w w') := by
    refine ha.mono ?_
    rintro e w' ⟨rfl, t, rfl⟩
    exact ⟨rfl, bytes_below _ _ _⟩
  have I : Hid (∀ w, Tab w → Calls Tryz.prog 18 #[.int .i64 m] w fun e w' => e = .returned (.string (bs (Lib.itoa m))) ∧ Below w.heap.size w w') := fun w t => itoa_any m w h0 h1 t
  generalize bs (Lib.itoa m) = sb at hsz A I
  have T : Hid (Tab w) := ht
  have hsz' : (sb.size : Int) ≤ 6 := by omega
  clear ha ht hl
  go_enter Tryz.func37, Tryz.ntmps37
  go_wp2_with (first
    | (go_at_call 49; refine Calls.mono A.out ?_; rintro r w1 ⟨rfl, hb1⟩)
    | (go_at_call 18; refine (I.out _ (T.out.step hb1)).mono ?_; rintro r w2 ⟨rfl, hb2⟩))
  go_ret2
  exact ⟨rfl, below_then hb1 hb2⟩

theorem takeNumber_any (B : Nat) (m p0 : Int) (i : Nat) (w : World) (f : ByteArray) (e : Int) (sl : Value) (c u p : Int) (h0 : 0 ≤ m) (h1 : m ≤ 100000) (hi : i = 1 ∨ i = 3) (ht : Tab w) (h : Rd w B f e sl c u p) :
    Calls Tryz.prog 25 #[.pointer (some ⟨B, 0, none⟩), .string (bs (Lib.itoa m)), .pointer (some ⟨B, i, none⟩), .int .i64 p0] w fun r w' => r = .returned (.bool true) ∧ w.grownBy w' (some B) ∧
      (i = 1 → Rd w' B f m sl c u p0) ∧ (i = 3 → Rd w' B f e sl m u p0) := by
  have C := numRead_any m w h0 h1 ht
  generalize bs (Lib.itoa m) = sb at C
  have CC : Hid (Calls Tryz.prog 37 #[.string sb, .int .i64 9] w fun r w' => r = .returned (.tuple #[.int .i64 m, .bool true]) ∧ Below w.heap.size w w') := C
  have H : Hid (Rd w B f e sl c u p) := h
  clear C h ht
  rcases hi with rfl | rfl
  · go_enter Tryz.func25, Tryz.ntmps25
    go_wp2_with (go_at_call 37; refine Calls.mono CC.out ?_; rintro r w1 ⟨rfl, hb1⟩; obtain ⟨x0, x1, x2, x3, x4, x5⟩ := rd_cell (rd_step H.out hb1); have z1 := rd_frozen (rd_step H.out hb1) 1; have z5 := rd_frozen (rd_step H.out hb1) 5)
    go_ret
    exact ⟨rfl, grown_then (grown_then (grown_below hb1 _) (grown_set _ ⟨B, 1, none⟩ _)) (grown_set _ ⟨B, 5, none⟩ _), fun _ => rd_set5 (rd_set1 (rd_step H.out hb1) m) p0, fun e => absurd e (by decide)⟩
  · go_enter Tryz.func25, Tryz.ntmps25
    go_wp2_with (go_at_call 37; refine Calls.mono CC.out ?_; rintro r w1 ⟨rfl, hb1⟩; obtain ⟨x0, x1, x2, x3, x4, x5⟩ := rd_cell (rd_step H.out hb1); have z3 := rd_frozen (rd_step H.out hb1) 3; have z5 := rd_frozen (rd_step H.out hb1) 5)
    go_ret
    exact ⟨rfl, grown_then (grown_then (grown_below hb1 _) (grown_set _ ⟨B, 3, none⟩ _)) (grown_set _ ⟨B, 5, none⟩ _), fun e => absurd e (by decide), fun _ => rd_set5 (rd_set3 (rd_step H.out hb1) m) p0⟩

set_option maxRecDepth 100000 in
theorem isNil_any (q : Addr) (w : World) :
    Calls Tryz.prog 39 #[.nilIface, .iface 132 (.pointer (some q))] w fun r w' => r = .returned (.bool false) ∧ w' = w := by
  have hbin : (binOp BinOp.eql 29 .nilIface (.iface 132 (.pointer (some q)))).run Tryz.prog w = .ok (.bool false) w := by kernel_rfl
  go_enter Tryz.func39, Tryz.ntmps39
  go_wp2
  go_ret
  exact ⟨rfl, rfl⟩

theorem takeUntil_any (B : Nat) (n y m d : Int) (w : World) (f : ByteArray) (e : Int) (sl : Value) (c u p : Int) (hv : vld y m d) (hn : num y m d = n) (g : GlobR w) (h : Rd w B f e sl c u p) :
    Calls Tryz.prog 26 #[.pointer (some ⟨B, 0, none⟩), .string (bs (txt y m d))] w fun r w' => r = .returned (.bool true) ∧ w.grownBy w' (some B) ∧ Rd w' B f e sl c n 7 := by
  have hv' := hv
  obtain ⟨h1, h2, h3, h4, h5, h6⟩ := hv
  have h7 := (dim_bd y m).2
  have hD := txt_isDT y m d (by omega) (by omega) (by omega) (by omega) (by omega) (by omega)
  have hN := txt_nums y m d (by omega) (by omega) (by omega) (by omega) (by omega) (by omega)
  have C := read_ok (bs (txt y m d)) w hD (by unfold bs; rw [hN.1, hN.2.1, hN.2.2]; exact hv')
  unfold bs at C
  rw [hN.1, hN.2.1, hN.2.2, hn] at C
  change Calls _ _ #[.string (bs (txt y m d))] _ _ at C
  generalize bs (txt y m d) = sb at C
  have CC : Hid (Calls Tryz.prog 38 #[.string sb] w fun r w' => r = .returned (.tuple #[.int .i64 n, .nilIface]) ∧ Below w.heap.size w w') := C
  have H : Hid (Rd w B f e sl c u p) := h
  obtain ⟨q, hq⟩ := g.text
  clear C h hD hN hv' h1 h2 h3 h4 h5 h6 h7 hn g
  go_enter Tryz.func26, Tryz.ntmps26
  go_wp2_with (first
    | (go_at_call 38; refine Calls.mono CC.out ?_; rintro r w1 ⟨rfl, hb1⟩; obtain ⟨x0, x1, x2, x3, x4, x5⟩ := rd_cell (rd_step H.out hb1); have z4 := rd_frozen (rd_step H.out hb1) 4; have z5 := rd_frozen (rd_step H.out hb1) 5; have q1 := cell_step hq hb1)
    | (go_at_call 39; refine (isNil_any _ _).mono ?_; rintro r w' ⟨rfl, rfl⟩))
  go_ret
  exact ⟨rfl, grown_then (grown_then (grown_below hb1 _) (grown_set _ ⟨B, 4, none⟩ _)) (grown_set _ ⟨B, 5, none⟩ _), rd_set5 (rd_set4 (rd_step H.out hb1) n) 7⟩

theorem mayEnd_any (B : Nat) (p : Int) (w : World) (f : ByteArray) (e : Int) (sl : Value) (c u : Int) (hp : p = 2 ∨ p = 3 ∨ p = 5 ∨ p = 7) (h : Rd w B f e sl c u p) :
    Calls Tryz.prog 17 #[.pointer (some ⟨B, 0, none⟩)] w fun r w' => r = .returned (.bool true) ∧ w' = w := by
  obtain ⟨x0, x1, x2, x3, x4, x5⟩ := rd_cell h
  clear h
  rcases hp with rfl | rfl | rfl | rfl
  all_goals
    go_enter Tryz.func17, Tryz.ntmps17
    go_wp2
    go_ret
    exact ⟨rfl, rfl⟩
end Go.Proofs.YtfnajhpcbajhfaaGreatDoor
