/- The reader of a rule's text in memory; contracts of takeFreq, number.Read, takeNumber, takeUntil, mayEnd at the words of a rule that is well. -/
import Derived.Test.YtpdcjnkgkpbdgaaGreatDoorQaO
import Derived.Test.YtpdcjnkgkpbdgaaGreatDoorReadWP
import Derived.Test.YtpdcjnkgkpbdgaaGreatDoorQdB
import Derived.Test.YtpdcjnkgkpbdgaaGreatDoorRFP
import Derived.OrdersIn
import Derived.Orders
import Derived.RegionTactic
import Derived.Deep.AppendLies
import Derived.Test.YtpdcjnkgkpbdgaaGreatDoorQbK
namespace Go.Proofs.YtpdcjnkgkpbdgaaGreatDoor
open Go.RowKit Cal

/-- the reader's block -/
def Rd (w : World) (B : Nat) (f : ByteArray) (e : Int) (sl : Value) (c u p : Int) : Prop :=
  w.heap[B]? = some (.cells #[.string f, .int .i64 e, sl, .int .i64 c, .int .i64 u, .int .i64 p] 77 (0, 0))

theorem rd_cell {w : World} {B : Nat} {f : ByteArray} {e : Int} {sl : Value} {c u p : Int} (h : Rd w B f e sl c u p) :
    w.cell? ⟨B, 0, none⟩ = some (.string f) ∧ w.cell? ⟨B, 1, none⟩ = some (.int .i64 e) ∧ w.cell? ⟨B, 2, none⟩ = some sl ∧ w.cell? ⟨B, 3, none⟩ = some (.int .i64 c) ∧ w.cell? ⟨B, 4, none⟩ = some (.int .i64 u) ∧ w.cell? ⟨B, 5, none⟩ = some (.int .i64 p) := by
  refine ⟨?_, ?_, ?_, ?_, ?_, ?_⟩ <;> simp [World.cell?, show w.heap[B]? = _ from h]
theorem rd_frozen {w : World} {B : Nat} {f : ByteArray} {e : Int} {sl : Value} {c u p : Int} (h : Rd w B f e sl c u p) (i : Nat) : w.frozen? ⟨B, i, none⟩ = false := by
  simp [World.frozen?, show w.heap[B]? = _ from h]
theorem rd_lt {w : World} {B : Nat} {f : ByteArray} {e : Int} {sl : Value} {c u p : Int} (h : Rd w B f e sl c u p) : B < w.heap.size := (Array.getElem?_eq_some_iff.1 h).1
theorem rd_set0 {w : World} {B : Nat} {f : ByteArray} {e : Int} {sl : Value} {c u p : Int} (h : Rd w B f e sl c u p) (f' : ByteArray) : Rd (w.setCell ⟨B, 0, none⟩ (.string f')) B f' e sl c u p := set_block _ h
theorem rd_set1 {w : World} {B : Nat} {f : ByteArray} {e : Int} {sl : Value} {c u p : Int} (h : Rd w B f e sl c u p) (e' : Int) : Rd (w.setCell ⟨B, 1, none⟩ (.int .i64 e')) B f e' sl c u p := set_block _ h
theorem rd_set2 {w : World} {B : Nat} {f : ByteArray} {e : Int} {sl : Value} {c u p : Int} (h : Rd w B f e sl c u p) (sl' : Value) : Rd (w.setCell ⟨B, 2, none⟩ sl') B f e sl' c u p := set_block _ h
theorem rd_set3 {w : World} {B : Nat} {f : ByteArray} {e : Int} {sl : Value} {c u p : Int} (h : Rd w B f e sl c u p) (c' : Int) : Rd (w.setCell ⟨B, 3, none⟩ (.int .i64 c')) B f e sl c' u p := set_block _ h
theorem rd_set4 {w : World} {B : Nat} {f : ByteArray} {e : Int} {sl : Value} {c u p : Int} (h : Rd w B f e sl c u p) (u' : Int) : Rd (w.setCell ⟨B, 4, none⟩ (.int .i64 u')) B f e sl c u' p := set_block _ h
theorem rd_set5 {w : World} {B : Nat} {f : ByteArray} {e : Int} {sl : Value} {c u p : Int} (h : Rd w B f e sl c u p) (p' : Int) : Rd (w.setCell ⟨B, 5, none⟩ (.int .i64 p')) B f e sl c u p' := set_block _ h
theorem rd_step {w w' : World} {B : Nat} {f : ByteArray} {e : Int} {sl : Value} {c u p : Int} (h : Rd w B f e sl c u p) (hb : Below w.heap.size w w') : Rd w' B f e sl c u p := (hb.block B (rd_lt h)).trans h

theorem takeFreq_any (B : Nat) (x : ByteArray) (sl : Value) (w : World) (hx : isF x = true) (h : Rd w B ⟨#[]⟩ 0 sl 0 (-1) 0) :
    Calls Tryz.prog 85 #[.pointer (some ⟨B, 0, none⟩), .string x] w fun r w' => r = .returned (.bool true) ∧ w.grownBy w' (some B) ∧
      ((x.toList == [111, 110, 99, 101]) = true → Rd w' B x 1 sl 0 (-1) 7) ∧ ((x.toList == [111, 110, 99, 101]) = false → Rd w' B x 0 sl 0 (-1) 1) := by
  have c1 := fun w => isFreq_any x w
  rw [hx] at c1
  have C1 : Hid (_) := c1
  clear c1 hx
  obtain ⟨x0, x1, x2, x3, x4, x5⟩ := rd_cell h
  have z0 := rd_frozen h 0
  have z1 := rd_frozen h 1
  have z5 := rd_frozen h 5
  cases ho : (x.toList == [111, 110, 99, 101]) with
  | false =>
    go_enter Tryz.func85, Tryz.ntmps85
    go_wp2_with (go_at_call 41; refine (C1.out _).mono ?_; rintro r w' ⟨rfl, rfl⟩)
    go_ret
    exact ⟨rfl, grown_then (grown_set _ _ _) (grown_set _ ⟨B, 5, none⟩ _), fun e => absurd e (by decide), fun _ => rd_set5 (rd_set0 h x) 1⟩
  | true =>
    go_enter Tryz.func85, Tryz.ntmps85
    go_wp2_with (go_at_call 41; refine (C1.out _).mono ?_; rintro r w' ⟨rfl, rfl⟩)
    go_ret
    exact ⟨rfl, grown_then (grown_then (grown_then (grown_set _ _ _) (grown_set _ ⟨B, 5, none⟩ _)) (grown_set _ ⟨B, 1, none⟩ _)) (grown_set _ ⟨B, 5, none⟩ _), fun _ => rd_set5 (rd_set1 (rd_set5 (rd_set0 h x) 1) 1) 7, fun e => absurd e (by decide)⟩

theorem bytes_below (w : World) (b : TypeId) (t : ByteArray) : Below w.heap.size w (Lib.bytesWorld w b t) := by
  have h := below_then (drew_below w) (below_alloc w.drew (.cells (Lib.bytesCells w b t) b))
  refine ⟨rfl, rfl, rfl, ?_, fun k hk => ?_⟩
  · show w.heap.size ≤ ((w.heap.push _).modify _ _).size
    simp
  · show ((w.heap.push _).modify w.heap.size _)[k]? = w.heap[k]?
    rw [Array.getElem?_modify, if_neg (by omega), Array.getElem?_push_lt hk, Array.getElem?_eq_getElem hk]
theorem numRead_any (m : Int) (w : World) (h0 : 0 ≤ m) (h1 : m ≤ 100000) (ht : Tab w) :
    Calls Tryz.prog 135 #[.string (bs (Lib.itoa m)), .int .i64 9] w fun r w' => r = .returned (.tuple #[.int .i64 m, .bool true]) ∧ Below w.heap.size w w' := by
  have hl := itoa_len m h0 (by omega)
  have hsz : (bs (Lib.itoa m)).size ≤ 6 := by rw [Lib.size_eq, bs_data]; exact hl
  have ha := Tryz.strconv_Atoi (bs (Lib.itoa m)) m (by omega) (by rw [bs_data]; exact itoa_atoi m h0) w
  have A : Hid (Calls Tryz.prog 148 #[.string (bs (Lib.itoa m))] w fun e w' => e = .returned (.tuple #[.int .i64 m, .nilIface]) ∧ Below w.heap.size w w') := by
    refine ha.mono ?_
    rintro e w' ⟨rfl, t, rfl⟩
    exact ⟨rfl, bytes_below _ _ _⟩
  have I : Hid (∀ w, Tab w → Calls Tryz.prog 48 #[.int .i64 m] w fun e w' => e = .returned (.string (bs (Lib.itoa m))) ∧ Below w.heap.size w w') := fun w t => itoa_any m w h0 h1 t
  generalize bs (Lib.itoa m) = sb at hsz A I
  have T : Hid (Tab w) := ht
  have hsz' : (sb.size : Int) ≤ 6 := by omega
  clear ha ht hl
  go_enter Tryz.func135, Tryz.ntmps135
  go_wp2_with (first
    | (go_at_call 148; refine Calls.mono A.out ?_; rintro r w1 ⟨rfl, hb1⟩)
    | (go_at_call 48; refine (I.out _ (T.out.step hb1)).mono ?_; rintro r w2 ⟨rfl, hb2⟩))
  go_ret2
  exact ⟨rfl, below_then hb1 hb2⟩

theorem takeNumber_any (B : Nat) (m p0 : Int) (i : Nat) (w : World) (f : ByteArray) (e : Int) (sl : Value) (c u p : Int) (h0 : 0 ≤ m) (h1 : m ≤ 100000) (hi : i = 1 ∨ i = 3) (ht : Tab w) (h : Rd w B f e sl c u p) :
    Calls Tryz.prog 86 #[.pointer (some ⟨B, 0, none⟩), .string (bs (Lib.itoa m)), .pointer (some ⟨B, i, none⟩), .int .i64 p0] w fun r w' => r = .returned (.bool true) ∧ w.grownBy w' (some B) ∧
      (i = 1 → Rd w' B f m sl c u p0) ∧ (i = 3 → Rd w' B f e sl m u p0) := by
  have C := numRead_any m w h0 h1 ht
  generalize bs (Lib.itoa m) = sb at C
  have CC : Hid (Calls Tryz.prog 135 #[.string sb, .int .i64 9] w fun r w' => r = .returned (.tuple #[.int .i64 m, .bool true]) ∧ Below w.heap.size w w') := C
  have H : Hid (Rd w B f e sl c u p) := h
  clear C h ht
  rcases hi with rfl | rfl
  · go_enter Tryz.func86, Tryz.ntmps86
    go_wp2_with (go_at_call 135; refine Calls.mono CC.out ?_; rintro r w1 ⟨rfl, hb1⟩; obtain ⟨x0, x1, x2, x3, x4, x5⟩ := rd_cell (rd_step H.out hb1); have z1 := rd_frozen (rd_step H.out hb1) 1; have z5 := rd_frozen (rd_step H.out hb1) 5)
    go_ret
    exact ⟨rfl, grown_then (grown_then (grown_below hb1 _) (grown_set _ ⟨B, 1, none⟩ _)) (grown_set _ ⟨B, 5, none⟩ _), fun _ => rd_set5 (rd_set1 (rd_step H.out hb1) m) p0, fun e => absurd e (by decide)⟩
  · go_enter Tryz.func86, Tryz.ntmps86
    go_wp2_with (go_at_call 135; refine Calls.mono CC.out ?_; rintro r w1 ⟨rfl, hb1⟩; obtain ⟨x0, x1, x2, x3, x4, x5⟩ := rd_cell (rd_step H.out hb1); have z3 := rd_frozen (rd_step H.out hb1) 3; have z5 := rd_frozen (rd_step H.out hb1) 5)
    go_ret
    exact ⟨rfl, grown_then (grown_then (grown_below hb1 _) (grown_set _ ⟨B, 3, none⟩ _)) (grown_set _ ⟨B, 5, none⟩ _), fun e => absurd e (by decide), fun _ => rd_set5 (rd_set3 (rd_step H.out hb1) m) p0⟩

set_option maxRecDepth 100000 in
theorem isNil_any (q : Addr) (w : World) :
    Calls Tryz.prog 136 #[.nilIface, .iface 278 (.pointer (some q))] w fun r w' => r = .returned (.bool false) ∧ w' = w := by
  have hbin : (binOp BinOp.eql 29 .nilIface (.iface 278 (.pointer (some q)))).run Tryz.prog w = .ok (.bool false) w := by kernel_rfl
  go_enter Tryz.func136, Tryz.ntmps136
  go_wp2
  go_ret
  exact ⟨rfl, rfl⟩

theorem takeUntil_any (B : Nat) (n y m d : Int) (w : World) (f : ByteArray) (e : Int) (sl : Value) (c u p : Int) (hv : vld y m d) (hn : num y m d = n) (g : GlobR w) (h : Rd w B f e sl c u p) :
    Calls Tryz.prog 87 #[.pointer (some ⟨B, 0, none⟩), .string (bs (txt y m d))] w fun r w' => r = .returned (.bool true) ∧ w.grownBy w' (some B) ∧ Rd w' B f e sl c n 7 := by
  have hv' := hv
  obtain ⟨h1, h2, h3, h4, h5, h6⟩ := hv
  have h7 := (dim_bd y m).2
  have hD := txt_isDT y m d (by omega) (by omega) (by omega) (by omega) (by omega) (by omega)
  have hN := txt_nums y m d (by omega) (by omega) (by omega) (by omega) (by omega) (by omega)
  have C := read_ok (bs (txt y m d)) w hD (by unfold bs; rw [hN.1, hN.2.1, hN.2.2]; exact hv')
  unfold bs at C
  rw [hN.1, hN.2.1, hN.2.2, hn] at C
  change Calls _ _ #[.string (bs (txt y m d))] _ _ at C
  generalize bs (txt y m d) = sb at C
  have CC : Hid (Calls Tryz.prog 104 #[.string sb] w fun r w' => r = .returned (.tuple #[.int .i64 n, .nilIface]) ∧ Below w.heap.size w w') := C
  have H : Hid (Rd w B f e sl c u p) := h
  obtain ⟨q, hq⟩ := g.text
  clear C h hD hN hv' h1 h2 h3 h4 h5 h6 h7 hn g
  go_enter Tryz.func87, Tryz.ntmps87
  go_wp2_with (first
    | (go_at_call 104; refine Calls.mono CC.out ?_; rintro r w1 ⟨rfl, hb1⟩; obtain ⟨x0, x1, x2, x3, x4, x5⟩ := rd_cell (rd_step H.out hb1); have z4 := rd_frozen (rd_step H.out hb1) 4; have z5 := rd_frozen (rd_step H.out hb1) 5; have q1 := cell_step hq hb1)
    | (go_at_call 136; refine (isNil_any _ _).mono ?_; rintro r w' ⟨rfl, rfl⟩))
  go_ret
  exact ⟨rfl, grown_then (grown_then (grown_below hb1 _) (grown_set _ ⟨B, 4, none⟩ _)) (grown_set _ ⟨B, 5, none⟩ _), rd_set5 (rd_set4 (rd_step H.out hb1) n) 7⟩

theorem mayEnd_any (B : Nat) (p : Int) (w : World) (f : ByteArray) (e : Int) (sl : Value) (c u : Int) (hp : p = 2 ∨ p = 3 ∨ p = 5 ∨ p = 7) (h : Rd w B f e sl c u p) :
    Calls Tryz.prog 47 #[.pointer (some ⟨B, 0, none⟩)] w fun r w' => r = .returned (.bool true) ∧ w' = w := by
  obtain ⟨x0, x1, x2, x3, x4, x5⟩ := rd_cell h
  clear h
  rcases hp with rfl | rfl | rfl | rfl
  all_goals
    go_enter Tryz.func47, Tryz.ntmps47
    go_wp2
    go_ret
    exact ⟨rfl, rfl⟩
end Go.Proofs.YtpdcjnkgkpbdgaaGreatDoor

/- Contract of rule.readName: a weekday's name is read as it. -/
namespace Go.Proofs.YtpdcjnkgkpbdgaaGreatDoor
open Go Go.RowKit Cal

set_option maxRecDepth 100000 in
theorem readName_any (d : Nat) (hd : d < 7) (w : World) (g : GlobR w) :
    Calls Tryz.prog 175 #[.string (bs (nm d))] w fun r w' => r = .returned (.tuple #[.int .i64 d, .bool true]) ∧ w' = w := by
  have n0 : w.cell? ⟨7, 0, none⟩ = some (.string ⟨#[109, 111]⟩) := g.days 0 (by omega)
  have n1 : w.cell? ⟨7, 1, none⟩ = some (.string ⟨#[116, 117]⟩) := g.days 1 (by omega)
  have n2 : w.cell? ⟨7, 2, none⟩ = some (.string ⟨#[119, 101]⟩) := g.days 2 (by omega)
  have n3 : w.cell? ⟨7, 3, none⟩ = some (.string ⟨#[116, 104]⟩) := g.days 3 (by omega)
  have n4 : w.cell? ⟨7, 4, none⟩ = some (.string ⟨#[102, 114]⟩) := g.days 4 (by omega)
  have n5 : w.cell? ⟨7, 5, none⟩ = some (.string ⟨#[115, 97]⟩) := g.days 5 (by omega)
  have n6 : w.cell? ⟨7, 6, none⟩ = some (.string ⟨#[115, 117]⟩) := g.days 6 (by omega)
  have hx0 : ∀ w, (Instr.index 134 (.agg #[.string ⟨#[109, 111]⟩, .string ⟨#[116, 117]⟩, .string ⟨#[119, 101]⟩, .string ⟨#[116, 104]⟩, .string ⟨#[102, 114]⟩, .string ⟨#[115, 97]⟩, .string ⟨#[115, 117]⟩]) (.int .i64 0)).run Tryz.prog w = .ok (.string ⟨#[109, 111]⟩) w := fun w => by kernel_rfl
  have hx1 : ∀ w, (Instr.index 134 (.agg #[.string ⟨#[109, 111]⟩, .string ⟨#[116, 117]⟩, .string ⟨#[119, 101]⟩, .string ⟨#[116, 104]⟩, .string ⟨#[102, 114]⟩, .string ⟨#[115, 97]⟩, .string ⟨#[115, 117]⟩]) (.int .i64 1)).run Tryz.prog w = .ok (.string ⟨#[116, 117]⟩) w := fun w => by kernel_rfl
  have hx2 : ∀ w, (Instr.index 134 (.agg #[.string ⟨#[109, 111]⟩, .string ⟨#[116, 117]⟩, .string ⟨#[119, 101]⟩, .string ⟨#[116, 104]⟩, .string ⟨#[102, 114]⟩, .string ⟨#[115, 97]⟩, .string ⟨#[115, 117]⟩]) (.int .i64 2)).run Tryz.prog w = .ok (.string ⟨#[119, 101]⟩) w := fun w => by kernel_rfl
  have hx3 : ∀ w, (Instr.index 134 (.agg #[.string ⟨#[109, 111]⟩, .string ⟨#[116, 117]⟩, .string ⟨#[119, 101]⟩, .string ⟨#[116, 104]⟩, .string ⟨#[102, 114]⟩, .string ⟨#[115, 97]⟩, .string ⟨#[115, 117]⟩]) (.int .i64 3)).run Tryz.prog w = .ok (.string ⟨#[116, 104]⟩) w := fun w => by kernel_rfl
  have hx4 : ∀ w, (Instr.index 134 (.agg #[.string ⟨#[109, 111]⟩, .string ⟨#[116, 117]⟩, .string ⟨#[119, 101]⟩, .string ⟨#[116, 104]⟩, .string ⟨#[102, 114]⟩, .string ⟨#[115, 97]⟩, .string ⟨#[115, 117]⟩]) (.int .i64 4)).run Tryz.prog w = .ok (.string ⟨#[102, 114]⟩) w := fun w => by kernel_rfl
  have hx5 : ∀ w, (Instr.index 134 (.agg #[.string ⟨#[109, 111]⟩, .string ⟨#[116, 117]⟩, .string ⟨#[119, 101]⟩, .string ⟨#[116, 104]⟩, .string ⟨#[102, 114]⟩, .string ⟨#[115, 97]⟩, .string ⟨#[115, 117]⟩]) (.int .i64 5)).run Tryz.prog w = .ok (.string ⟨#[115, 97]⟩) w := fun w => by kernel_rfl
  have hx6 : ∀ w, (Instr.index 134 (.agg #[.string ⟨#[109, 111]⟩, .string ⟨#[116, 117]⟩, .string ⟨#[119, 101]⟩, .string ⟨#[116, 104]⟩, .string ⟨#[102, 114]⟩, .string ⟨#[115, 97]⟩, .string ⟨#[115, 117]⟩]) (.int .i64 6)).run Tryz.prog w = .ok (.string ⟨#[115, 117]⟩) w := fun w => by kernel_rfl
  clear g
  have hcases : d = 0 ∨ d = 1 ∨ d = 2 ∨ d = 3 ∨ d = 4 ∨ d = 5 ∨ d = 6 := by omega
  rcases hcases with rfl | rfl | rfl | rfl | rfl | rfl | rfl
  · change Calls _ _ #[.string ⟨#[109, 111]⟩] _ _
    go_enter Tryz.func175, Tryz.ntmps175
    go_wp2
    go_loop [4, 5, 7] (fun _ _ i => ∃ k : Nat, k ≤ 0 ∧ i = .int .i64 k) (fun _ _ i => 7 - (intOf i).toNat)
    case atStart => exact ⟨0, by omega, rfl⟩
    case round =>
      obtain ⟨k, hk, rfl⟩ := hrel
      have hkc : k = 0 := by omega
      clear hk
      rcases hkc with rfl
      · go_wp2
        go_ret2
        exact ⟨rfl, rfl⟩
  · change Calls _ _ #[.string ⟨#[116, 117]⟩] _ _
    go_enter Tryz.func175, Tryz.ntmps175
    go_wp2
    go_loop [4, 5, 7] (fun _ _ i => ∃ k : Nat, k ≤ 1 ∧ i = .int .i64 k) (fun _ _ i => 7 - (intOf i).toNat)
    case atStart => exact ⟨0, by omega, rfl⟩
    case round =>
      obtain ⟨k, hk, rfl⟩ := hrel
      have hkc : k = 0 ∨ k = 1 := by omega
      clear hk
      rcases hkc with rfl | rfl
      · go_wp2
        go_round
        case rel => exact ⟨1, by omega, rfl⟩
        case measure => simp [intOf]
      · go_wp2
        go_ret2
        exact ⟨rfl, rfl⟩
  · change Calls _ _ #[.string ⟨#[119, 101]⟩] _ _
    go_enter Tryz.func175, Tryz.ntmps175
    go_wp2
    go_loop [4, 5, 7] (fun _ _ i => ∃ k : Nat, k ≤ 2 ∧ i = .int .i64 k) (fun _ _ i => 7 - (intOf i).toNat)
    case atStart => exact ⟨0, by omega, rfl⟩
    case round =>
      obtain ⟨k, hk, rfl⟩ := hrel
      have hkc : k = 0 ∨ k = 1 ∨ k = 2 := by omega
      clear hk
      rcases hkc with rfl | rfl | rfl
      · go_wp2
        go_round
        case rel => exact ⟨1, by omega, rfl⟩
        case measure => simp [intOf]
      · go_wp2
        go_round
        case rel => exact ⟨2, by omega, rfl⟩
        case measure => simp [intOf]
      · go_wp2
        go_ret2
        exact ⟨rfl, rfl⟩
  · change Calls _ _ #[.string ⟨#[116, 104]⟩] _ _
    go_enter Tryz.func175, Tryz.ntmps175
    go_wp2
    go_loop [4, 5, 7] (fun _ _ i => ∃ k : Nat, k ≤ 3 ∧ i = .int .i64 k) (fun _ _ i => 7 - (intOf i).toNat)
    case atStart => exact ⟨0, by omega, rfl⟩
    case round =>
      obtain ⟨k, hk, rfl⟩ := hrel
      have hkc : k = 0 ∨ k = 1 ∨ k = 2 ∨ k = 3 := by omega
      clear hk
      rcases hkc with rfl | rfl | rfl | rfl
      · go_wp2
        go_round
        case rel => exact ⟨1, by omega, rfl⟩
        case measure => simp [intOf]
      · go_wp2
        go_round
        case rel => exact ⟨2, by omega, rfl⟩
        case measure => simp [intOf]
      · go_wp2
        go_round
        case rel => exact ⟨3, by omega, rfl⟩
        case measure => simp [intOf]
      · go_wp2
        go_ret2
        exact ⟨rfl, rfl⟩
  · change Calls _ _ #[.string ⟨#[102, 114]⟩] _ _
    go_enter Tryz.func175, Tryz.ntmps175
    go_wp2
    go_loop [4, 5, 7] (fun _ _ i => ∃ k : Nat, k ≤ 4 ∧ i = .int .i64 k) (fun _ _ i => 7 - (intOf i).toNat)
    case atStart => exact ⟨0, by omega, rfl⟩
    case round =>
      obtain ⟨k, hk, rfl⟩ := hrel
      have hkc : k = 0 ∨ k = 1 ∨ k = 2 ∨ k = 3 ∨ k = 4 := by omega
      clear hk
      rcases hkc with rfl | rfl | rfl | rfl | rfl
      · go_wp2
        go_round
        case rel => exact ⟨1, by omega, rfl⟩
        case measure => simp [intOf]
      · go_wp2
        go_round
        case rel => exact ⟨2, by omega, rfl⟩
        case measure => simp [intOf]
      · go_wp2
        go_round
        case rel => exact ⟨3, by omega, rfl⟩
        case measure => simp [intOf]
      · go_wp2
        go_round
        case rel => exact ⟨4, by omega, rfl⟩
        case measure => simp [intOf]
      · go_wp2
        go_ret2
        exact ⟨rfl, rfl⟩
  · change Calls _ _ #[.string ⟨#[115, 97]⟩] _ _
    go_enter Tryz.func175, Tryz.ntmps175
    go_wp2
    go_loop [4, 5, 7] (fun _ _ i => ∃ k : Nat, k ≤ 5 ∧ i = .int .i64 k) (fun _ _ i => 7 - (intOf i).toNat)
    case atStart => exact ⟨0, by omega, rfl⟩
    case round =>
      obtain ⟨k, hk, rfl⟩ := hrel
      have hkc : k = 0 ∨ k = 1 ∨ k = 2 ∨ k = 3 ∨ k = 4 ∨ k = 5 := by omega
      clear hk
      rcases hkc with rfl | rfl | rfl | rfl | rfl | rfl
      · go_wp2
        go_round
        case rel => exact ⟨1, by omega, rfl⟩
        case measure => simp [intOf]
      · go_wp2
        go_round
        case rel => exact ⟨2, by omega, rfl⟩
        case measure => simp [intOf]
      · go_wp2
        go_round
        case rel => exact ⟨3, by omega, rfl⟩
        case measure => simp [intOf]
      · go_wp2
        go_round
        case rel => exact ⟨4, by omega, rfl⟩
        case measure => simp [intOf]
      · go_wp2
        go_round
        case rel => exact ⟨5, by omega, rfl⟩
        case measure => simp [intOf]
      · go_wp2
        go_ret2
        exact ⟨rfl, rfl⟩
  · change Calls _ _ #[.string ⟨#[115, 117]⟩] _ _
    go_enter Tryz.func175, Tryz.ntmps175
    go_wp2
    go_loop [4, 5, 7] (fun _ _ i => ∃ k : Nat, k ≤ 6 ∧ i = .int .i64 k) (fun _ _ i => 7 - (intOf i).toNat)
    case atStart => exact ⟨0, by omega, rfl⟩
    case round =>
      obtain ⟨k, hk, rfl⟩ := hrel
      have hkc : k = 0 ∨ k = 1 ∨ k = 2 ∨ k = 3 ∨ k = 4 ∨ k = 5 ∨ k = 6 := by omega
      clear hk
      rcases hkc with rfl | rfl | rfl | rfl | rfl | rfl | rfl
      · go_wp2
        go_round
        case rel => exact ⟨1, by omega, rfl⟩
        case measure => simp [intOf]
      · go_wp2
        go_round
        case rel => exact ⟨2, by omega, rfl⟩
        case measure => simp [intOf]
      · go_wp2
        go_round
        case rel => exact ⟨3, by omega, rfl⟩
        case measure => simp [intOf]
      · go_wp2
        go_round
        case rel => exact ⟨4, by omega, rfl⟩
        case measure => simp [intOf]
      · go_wp2
        go_round
        case rel => exact ⟨5, by omega, rfl⟩
        case measure => simp [intOf]
      · go_wp2
        go_round
        case rel => exact ⟨6, by omega, rfl⟩
        case measure => simp [intOf]
      · go_wp2
        go_ret2
        exact ⟨rfl, rfl⟩

end Go.Proofs.YtpdcjnkgkpbdgaaGreatDoor

/- A region that draws its order, in a round of a loop over an iterator: what is shown of every order outside a round holds in it. Conditions: no operation of it is a defer; nothing is let out. -/
namespace Go.Proofs.YtpdcjnkgkpbdgaaGreatDoor
open Go Go.RowKit

theorem rowsIn_round {P : Program} {l n : Nat} {row : String} {args : Array Value} {w : World} {R : Value → World → Prop} (h : Rows P row args w R) : RowsIn (Fence.wide.inRound l) n P row args w R := by
  intro c cs _
  obtain ⟨v, w', hR, hs⟩ := h c cs
  exact ⟨v, w', hR, stepsIn_wide.2 hs⟩

theorem oper_in {P : Program} {l n : Nat} {o : Oper} {a : Act} {w : World} {K K' : Act → World → Prop} {Q : Exit → Act → World → Prop} (hd : ∀ c, o.op ≠ .defer c) (hK : ∀ a w, K a w → K' a w) (h : o.wp P a w K Q) : o.wpIn (Fence.wide.inRound l) n P a w K' Q := by
  refine ⟨fun _ _ => trivial, ?_⟩
  have e : o.semAt (Fence.wide.inRound l).round a.eval = execOp a.eval o := Oper.semAt_eq _ _ _ hd
  rw [e]
  unfold Oper.wp at h
  generalize (execOp a.eval o).run P w = r at h
  cases r with
  | ok x w' =>
    cases x <;> simp only [Oper.upon, Oper.uponIn] at h ⊢ <;>
      first
        | exact hK _ _ h
        | exact ⟨fun e => absurd e (by simp [Fence.wide]), CallsIn.inRound l (callsIn_wide.2 (h.mono (fun e w'' he => by cases e <;> first | exact hK _ _ he | exact he)))⟩
        | exact ⟨fun e => absurd e (by simp [Fence.wide]), rowsIn_round (Rows.mono h (fun _ _ he => hK _ _ he))⟩
  | halt x w' => cases x <;> simp only [Oper.upon, Oper.uponIn] at h ⊢ <;> exact h

theorem any_in {P : Program} {md : Region.Mode} {ops : Array Oper} {Q : Exit → Act → World → Prop} {l n : Nat} (hd : ∀ (i : Nat) (o : Oper), ops[i]? = some o → ∀ c, o.op ≠ .defer c) (hQ : ¬ LetsOut Q) :
    ∀ (fuel : Nat) (listed : Array Bool) (a : Act) (w : World), wpAny P md ops Q fuel listed a w → wpAnyIn (Fence.wide.inRound l) n P md ops Q fuel listed a w
  | 0, _, _, _, h => h
  | fuel + 1, listed, a, w, h => by
    refine ⟨h.1, fun i hi => ?_⟩
    have h2 := h.2 i hi
    unfold wpOp at h2
    unfold wpOpIn
    cases ho : ops[i]? with
    | none => rw [ho] at h2; exact any_in hd hQ fuel _ _ _ h2
    | some o =>
      rw [ho] at h2
      simp only at h2 ⊢
      by_cases hw : Region.wanted o (yielded ops a.tmps) = true
      · rw [if_pos hw] at h2 ⊢
        rcases h2 with h2 | ⟨_, h3⟩
        · exact oper_in (hd i o ho) (fun a w hk => any_in hd hQ fuel _ a w hk) h2
        · exact absurd h3 hQ
      · rw [if_neg hw] at h2 ⊢
        exact ⟨fun _ _ => trivial, any_in hd hQ fuel _ _ _ h2⟩

theorem region_round {P : Program} {id : Nat} {ops : Array Oper} {Q : Exit → Act → World → Prop} {l n : Nat} {a : Act} {w : World} (hm : P.follows .mixedOrders = true) (hd : ∀ (i : Nat) (o : Oper), ops[i]? = some o → ∀ c, o.op ≠ .defer c) (hQ : ¬ LetsOut Q)
    (h : wpAny P .any ops Q ops.size (Array.replicate ops.size false) a w.drew) : (Code.region id ops true).wpIn (Fence.wide.inRound l) n P Q a w :=
  wpIn_region_any hm (any_in hd hQ _ _ _ _ h)
theorem no_defer {ops : Array Oper} (h : ops.all (fun o => match o.op with | .defer _ => false | _ => true) = true) : ∀ (i : Nat) (o : Oper), ops[i]? = some o → ∀ c, o.op ≠ .defer c := by
  intro i o ho c e
  obtain ⟨hi, rfl⟩ := Array.getElem?_eq_some_iff.1 ho
  have := Array.all_eq_true.1 h i hi
  rw [e] at this
  exact absurd this (by simp)
end Go.Proofs.YtpdcjnkgkpbdgaaGreatDoor

/- Contracts of strings.SplitSeq, and of takeDays at the word of a rule's days. -/
namespace Go.Proofs.YtpdcjnkgkpbdgaaGreatDoor
open Go Go.RowKit Go.Shelf Cal
attribute [local go_sem] Oper.semAt_some

theorem splitSeq_any (s : ByteArray) (c : UInt8) (w : World) :
    Calls Tryz.prog 45 #[.string s, .string ⟨#[c]⟩] w fun r w' => r = .returned (.func (.func 132) #[] #[.pointer (some ⟨w.heap.size + 1, 0, none⟩), .pointer (some ⟨w.heap.size, 0, none⟩), .pointer (some ⟨w.heap.size + 2, 0, none⟩)]) ∧
      w' = ((w.alloc (.cells #[.string s] 9)).alloc (.cells #[.string ⟨#[c]⟩] 9)).alloc (.cells #[.int .i64 0] 3) := by
  go_enter Tryz.func45, Tryz.ntmps45
  go_wp2
  go_ret
  exact ⟨rfl, rfl⟩

/-- where the loop over the names begins -/
def DW (w : World) (B : Nat) (sb : ByteArray) : World :=
  ((((((w.setCell ⟨B, 5, none⟩ (.int .i64 3)).alloc (.cells #[.pointer (some ⟨B, 0, none⟩)] 131)).alloc (.cells #[.bool false] 4)).alloc (.cells #[.string sb] 9)).alloc (.cells #[.string ⟨#[44]⟩] 9)).alloc (.cells #[.int .i64 0] 3))
theorem dw_size (w : World) (B : Nat) (sb : ByteArray) : (DW w B sb).heap.size = w.heap.size + 5 := by
  unfold DW
  simp
theorem dw_grown (w : World) (B : Nat) (sb : ByteArray) : w.grownBy (DW w B sb) (some B) := by
  unfold DW
  exact grown_then (grown_set w ⟨B, 5, none⟩ _) (grown_below (below_then (below_alloc _ _) (below_then (below_alloc _ _) (below_then (below_alloc _ _) (below_then (below_alloc _ _) (below_alloc _ _))))) _)
theorem dw_rd {w : World} {B : Nat} {sb : ByteArray} {f : ByteArray} {e : Int} {sl : Value} {c u p : Int} (h : Rd w B f e sl c u p) : Rd (DW w B sb) B f e sl c u 3 := by
  unfold DW
  exact rd_step (rd_set5 h 3) (below_then (below_alloc _ _) (below_then (below_alloc _ _) (below_then (below_alloc _ _) (below_then (below_alloc _ _) (below_alloc _ _)))))
theorem dw_box (w : World) (B : Nat) (sb : ByteArray) :
    Boxed (DW w B sb) w.heap.size 131 (.pointer (some ⟨B, 0, none⟩)) ∧ Boxed (DW w B sb) (w.heap.size + 1) 4 (.bool false) ∧ Boxed (DW w B sb) (w.heap.size + 2) 9 (.string sb) ∧
      Boxed (DW w B sb) (w.heap.size + 3) 9 (.string ⟨#[44]⟩) ∧ Boxed (DW w B sb) (w.heap.size + 4) 3 (.int .i64 0) := by
  unfold DW
  refine ⟨?_, ?_, ?_, ?_, ?_⟩
  · exact ((((boxed_at _ _ (set_size _ _ _)).alloc _).alloc _).alloc _).alloc _
  · exact (((boxed_at _ _ (by simp)).alloc _).alloc _).alloc _
  · exact ((boxed_at _ _ (by simp)).alloc _).alloc _
  · exact (boxed_at _ _ (by simp)).alloc _
  · exact boxed_at _ _ (by simp)

/-- what a loop over an iterator leaves as it was: all but the reader's block and the iterator's variable; the block for deferred calls -/
structure Fr (W5 W : World) (B Bs : Nat) : Prop where
  os : W.os = W5.os
  tape : W.tape = W5.tape
  output : W.output = W5.output
  size : W5.heap.size + 2 ≤ W.heap.size
  block : ∀ k, k < W5.heap.size → k ≠ B → k ≠ Bs → W.heap[k]? = W5.heap[k]?
  dfr : W.heap[W5.heap.size]? = some (.deferred (some []))
theorem Fr.grown {W5 W W' : World} {B Bs : Nat} (h : Fr W5 W B Bs) (hg : W.grownBy W' (some B)) (hB : B < W5.heap.size) : Fr W5 W' B Bs :=
  ⟨hg.os.trans h.os, hg.tape.trans h.tape, hg.output.trans h.output, Nat.le_trans h.size hg.size, fun k hk h1 h2 => (hg.block k (by have := h.size; omega) (fun e => h1 (by cases e; rfl))).trans (h.block k hk h1 h2),
    (hg.block _ (by have := h.size; omega) (fun e => by cases e; omega)).trans h.dfr⟩
theorem Fr.setS {W5 W : World} {B Bs : Nat} (h : Fr W5 W B Bs) (hB : Bs < W5.heap.size) (v : Value) : Fr W5 (W.setCell ⟨Bs, 0, none⟩ v) B Bs :=
  ⟨h.os, h.tape, h.output, by rw [set_size]; exact h.size, fun k hk h1 h2 => (Below.heap_setCell _ _ _ k (fun e => h2 e)).trans (h.block k hk h1 h2), (Below.heap_setCell _ _ _ _ (fun e => by have e' : W5.heap.size = Bs := e; omega)).trans h.dfr⟩
theorem Fr.put {W5 W : World} {B Bs : Nat} (h : Fr W5 W B Bs) (o : Obj) : Fr W5 (W.putObj (W5.heap.size + 1) o) B Bs :=
  ⟨h.os, h.tape, h.output, by rw [World.putObj_size]; exact h.size, fun k hk h1 h2 => (World.putObj_heap_other (by omega)).trans (h.block k hk h1 h2), (World.putObj_heap_other (by omega)).trans h.dfr⟩
theorem Fr.start (W5 : World) (B Bs : Nat) (o : Obj) : Fr W5 ((W5.alloc (.deferred (some []))).alloc o) B Bs := by
  have h1 := below_then (below_alloc W5 (.deferred (some []))) (below_alloc _ o)
  refine ⟨rfl, rfl, rfl, by simp, fun k hk _ _ => h1.block k hk, ?_⟩
  exact ((below_alloc _ o).block W5.heap.size (by simp)).trans (World.alloc_heap_new W5 _)
theorem rd_put {w : World} {B l : Nat} {f : ByteArray} {e : Int} {sl : Value} {c u p : Int} (h : Rd w B f e sl c u p) (o : Obj) (hne : B ≠ l) : Rd (w.putObj l o) B f e sl c u p := (World.putObj_heap_other hne).trans h
/-- behind a round's append: what lies below the rows -/
theorem far {w Wb w1 : World} {sl : Value} {k : Nat} {xs : List Value} {o : Obj} (hsz : w.heap.size + 7 ≤ Wb.heap.size) (ho : Wb.ownsRow (w.heap.size + 7) 3 1 sl k xs) (hgrow : (Wb.alloc o).drew.grownBy w1 sl.ownBlock) (b : Nat) (hb : b < w.heap.size + 7) : w1.heap[b]? = Wb.heap[b]? := by
  refine (hgrow.block b (by show b < (Wb.heap.push _).size; simp only [Array.size_push]; omega) (fun e => ?_)).trans ((below_alloc Wb o).block b (by omega))
  have := (ho.lt b e.symm).1
  omega
theorem dayRound {w W5 W Wb w1 : World} {B k gb cap : Nat} {f : ByteArray} {e c u : Int} {sl : Value} {xs ys : List Value} {r0 rb : Loop} {o : Obj} (hs5 : W5.heap.size = w.heap.size + 5) (hB : B < w.heap.size)
    (rd : Rd Wb B f e sl c u 3) (fr : Fr W5 Wb B (w.heap.size + 2)) (hl : Wb.heap[W5.heap.size + 1]? = some (.loop rb)) (ho : Wb.ownsRow (w.heap.size + 7) 3 1 sl k xs)
    (e2 : Wb.heap[w.heap.size + 2]? = W.heap[w.heap.size + 2]?) (e3 : Wb.heap[w.heap.size + 3]? = W.heap[w.heap.size + 3]?) (e4 : Wb.heap[w.heap.size + 4]? = W.heap[w.heap.size + 4]?)
    (hown : w1.ownsRow (w.heap.size + 7) 3 1 (.slice (some ⟨gb, 0, none⟩) (k + 1) cap) (k + 1) ys) (hgrow : (Wb.alloc o).drew.grownBy w1 sl.ownBlock) :
    (w1.setCell ⟨B, 2, none⟩ (.slice (some ⟨gb, 0, none⟩) (k + 1) cap)).heap[W5.heap.size + 1]? = some (.loop rb) ∧
    ((∃ sl', Rd ((w1.setCell ⟨B, 2, none⟩ (.slice (some ⟨gb, 0, none⟩) (k + 1) cap)).putObj (W5.heap.size + 1) (.loop r0)) B f e sl' c u 3 ∧
      ((w1.setCell ⟨B, 2, none⟩ (.slice (some ⟨gb, 0, none⟩) (k + 1) cap)).putObj (W5.heap.size + 1) (.loop r0)).ownsRow (w.heap.size + 7) 3 1 sl' (k + 1) ys) ∧
      Fr W5 ((w1.setCell ⟨B, 2, none⟩ (.slice (some ⟨gb, 0, none⟩) (k + 1) cap)).putObj (W5.heap.size + 1) (.loop r0)) B (w.heap.size + 2) ∧
      ((w1.setCell ⟨B, 2, none⟩ (.slice (some ⟨gb, 0, none⟩) (k + 1) cap)).putObj (W5.heap.size + 1) (.loop r0)).heap[W5.heap.size + 1]? = some (.loop r0)) ∧
    ((w1.setCell ⟨B, 2, none⟩ (.slice (some ⟨gb, 0, none⟩) (k + 1) cap)).putObj (W5.heap.size + 1) (.loop r0)).heap[w.heap.size + 2]? = W.heap[w.heap.size + 2]? ∧
    ((w1.setCell ⟨B, 2, none⟩ (.slice (some ⟨gb, 0, none⟩) (k + 1) cap)).putObj (W5.heap.size + 1) (.loop r0)).heap[w.heap.size + 3]? = W.heap[w.heap.size + 3]? ∧
    ((w1.setCell ⟨B, 2, none⟩ (.slice (some ⟨gb, 0, none⟩) (k + 1) cap)).putObj (W5.heap.size + 1) (.loop r0)).heap[w.heap.size + 4]? = W.heap[w.heap.size + 4]? := by
  have hsz := fr.size
  have hfar := fun b hb => far (by omega) ho hgrow b hb
  have hset : ∀ b, b ≠ B → (w1.setCell ⟨B, 2, none⟩ (.slice (some ⟨gb, 0, none⟩) (k + 1) cap)).heap[b]? = w1.heap[b]? := fun b hb => Below.heap_setCell _ _ _ b (fun e => hb e)
  have hsize : Wb.heap.size ≤ w1.heap.size := by
    have := hgrow.size
    have h2 : (Wb.alloc o).drew.heap.size = Wb.heap.size + 1 := by show (Wb.heap.push _).size = _; simp
    omega
  have hlrec : (w1.setCell ⟨B, 2, none⟩ (.slice (some ⟨gb, 0, none⟩) (k + 1) cap)).heap[W5.heap.size + 1]? = some (.loop rb) := (hset _ (by omega)).trans ((hfar _ (by omega)).trans hl)
  have hrd1 : Rd w1 B f e sl c u 3 := (hfar B (by omega)).trans rd
  have hfr1 : Fr W5 w1 B (w.heap.size + 2) := ⟨hgrow.os.trans fr.os, hgrow.tape.trans fr.tape, hgrow.output.trans fr.output, by omega, fun b hb h1 h2 => (hfar b (by omega)).trans (fr.block b hb h1 h2), (hfar _ (by omega)).trans fr.dfr⟩
  have hput : ∀ b, b ≠ W5.heap.size + 1 → b ≠ B → b < w.heap.size + 7 → ((w1.setCell ⟨B, 2, none⟩ (.slice (some ⟨gb, 0, none⟩) (k + 1) cap)).putObj (W5.heap.size + 1) (.loop r0)).heap[b]? = Wb.heap[b]? := fun b h1 h2 h3 => (World.putObj_heap_other h1).trans ((hset b h2).trans (hfar b h3))
  refine ⟨hlrec, ⟨⟨_, rd_put (rd_set2 hrd1 _) _ (by omega), own_put (ownsRow_setCell_below hown (by show B < _; omega) _) _ ?_⟩, (hfr1.grown (grown_set w1 ⟨B, 2, none⟩ _) (by omega)).put _, World.putObj_heap_same (by rw [set_size]; omega)⟩, (hput _ (by omega) (by omega) (by omega)).trans e2, (hput _ (by omega) (by omega) (by omega)).trans e3, (hput _ (by omega) (by omega) (by omega)).trans e4⟩
  intro he
  have := (hown.lt _ he).1
  omega

set_option maxHeartbeats 1000000 in
set_option maxRecDepth 100000 in
theorem takeDays_any (B : Nat) (ds : List Int) (w0 w : World) (f : ByteArray) (e : Int) (c u p : Int) (g : GlobR w0) (hb0 : Below w0.heap.size w0 w) (hB : w0.heap.size ≤ B) (h0 : ds ≠ []) (hD : bD ds) (h20 : ds.length ≤ 20)
    (h : Rd w B f e (.slice none 0 0) c u p) :
    Calls Tryz.prog 137 #[.pointer (some ⟨B, 0, none⟩), .string (bs (Lib.join (ds.map nm) [44]))] w fun r w' => r = .returned (.bool true) ∧ w.grownBy w' (some B) ∧
      ∃ sl, Rd w' B f e sl c u 3 ∧ w'.ownsRow w.heap.size 3 1 sl ds.length (ds.map (Value.int .i64)) := by
  have hp := days_pieces h0
  have hsz : (bs (Lib.join (ds.map nm) [44])).size ≤ 1000000 := by rw [Lib.size_eq, bs_data]; have := days_len ds; omega
  have hp' : pieces 44 (bs (Lib.join (ds.map nm) [44])).data.toList = ds.map nm := hp
  generalize bs (Lib.join (ds.map nm) [44]) = sb at hsz hp'
  have HP : Hid (pieces 44 sb.data.toList = ds.map nm) := hp'
  have G : Hid (GlobR w0) := g
  have HB0 : Hid (Below w0.heap.size w0 w) := hb0
  have HD : Hid (bD ds) := hD
  have H : Hid (Rd w B f e (.slice none 0 0) c u p) := h
  have hlt := rd_lt h
  obtain ⟨x0, x1, x2, x3, x4, x5⟩ := rd_cell h
  have z5 := rd_frozen h 5
  have SS : Hid (∀ w, _) := fun w => splitSeq_any sb 44 w
  clear hp hp' g hb0 hD h x0 x1 x2 x3 x4
  refine (callsIn_wide (n := 10)).1 ?_
  refine callsIn_of_wp_marks Tryz.func137 rfl trivial ?_ rfl
  simp only [Tryz.ntmps137, List.size_toArray, List.length_cons, List.length_nil, Nat.reduceAdd, Nat.reduceSub, Array.replicate_succ, Array.replicate_zero, List.push_toArray, List.append_toArray, List.nil_append, List.cons_append]
  gi_wp2_with (refine ⟨trivial, ?_⟩; gi_at_call 45; refine (callsIn_wide.2 (SS.out _)).mono ?_; rintro r w' ⟨rfl, rfl⟩)
  change Code.wpIn _ _ _ _ _ _ (DW w B sb)
  obtain ⟨b0, b1, b2, b3, b4⟩ := dw_box w B sb
  have hrd := dw_rd (sb := sb) H.out
  have hgr := dw_grown w B sb
  have hs5 := dw_size w B sb
  generalize DW w B sb = W5 at b0 b1 b2 b3 b4 hrd hgr hs5
  have hBlt : B < W5.heap.size := by omega
  refine rangeFunc_of rfl (enters_of Tryz.func132 (by kernel_rfl) rfl) (fun r0 hr0 => ?_)
  refine (split_iter 9 (W5.heap.size + 1) (w.heap.size + 2) (w.heap.size + 3) (w.heap.size + 4) 44 (ds.map nm)
    (fun k W => (∃ sl, Rd W B f e sl c u 3 ∧ W.ownsRow (w.heap.size + 7) 3 1 sl k ((ds.take k).map (Value.int .i64))) ∧ Fr W5 W B (w.heap.size + 2) ∧ W.heap[W5.heap.size + 1]? = some (.loop r0))
    (fun _ _ => False) (by omega) (by omega) (by omega) ?hJs ?hY _ sb hsz HP.out ?hBox ?h0).mono ?post
  case hJs =>
    rintro k W v ⟨⟨sl, q1, q2⟩, q3, q4⟩
    refine ⟨⟨sl, (Below.heap_setCell _ _ _ B (fun e => by have e' : B = w.heap.size + 2 := e; omega)).trans q1, ownsRow_setCell_below q2 (by show w.heap.size + 2 < _; omega) v⟩, q3.setS (by omega) v, (Below.heap_setCell _ _ _ _ (fun e => by have e' : W5.heap.size + 1 = w.heap.size + 2 := e; omega)).trans q4⟩
  case hBox =>
    have hb := below_then (below_alloc W5 (.deferred (some []))) (below_alloc _ (.loop r0))
    exact ⟨(hb.block _ (by omega)).trans b2, (hb.block _ (by omega)).trans b3, (hb.block _ (by omega)).trans b4⟩
  case h0 =>
    refine ⟨⟨.slice none 0 0, rd_step hrd (below_then (below_alloc _ _) (below_alloc _ _)), World.ownsRow_nil _ _ _ _⟩, Fr.start _ _ _ _, rec_start _ _⟩
  case post =>
    rintro e2 W2 ⟨hv, (⟨⟨sl, q1, q2⟩, q3, q4⟩ | ⟨k, hx⟩)⟩
    · refine ⟨hv, _, q4, by rw [hr0.state]; decide, .inl ⟨hr0.pending, ?_⟩⟩
      have fr3 := q3.put (.loop { r0 with state := .exhausted })
      have r3 := rd_put q1 (.loop { r0 with state := .exhausted }) (show B ≠ W5.heap.size + 1 by omega)
      have o3 := own_put (l := W5.heap.size + 1) q2 (.loop { r0 with state := .exhausted }) (fun he => by have := (q2.lt _ he).1; omega)
      rw [List.length_map, List.take_length] at o3
      have b3' : Boxed (W2.putObj (W5.heap.size + 1) (.loop { r0 with state := .exhausted })) (w.heap.size + 1) 4 (.bool false) := (fr3.block (w.heap.size + 1) (by omega) (by omega) (by omega)).trans b1
      generalize W2.putObj (W5.heap.size + 1) (.loop { r0 with state := .exhausted }) = W3 at fr3 r3 o3 b3'
      have FR : Hid (_) := fr3
      have RR : Hid (_) := r3
      have OO : Hid (W3.ownsRow (w.heap.size + 7) 3 1 sl ds.length (ds.map (Value.int .i64))) := o3
      have BB : Hid (Boxed W3 (w.heap.size + 1) 4 (.bool false)) := b3'
      have hc := b3'.cell
      have hf := b3'.frozen
      have GR : Hid (_) := hgr
      clear fr3 r3 o3 q1 q2 q3 q4 b0 b1 b2 b3 b4 b3' hrd hgr SS x5 z5
      have hd5 : W3.heap[w.heap.size + 5]? = some (.deferred (some [])) := by rw [← hs5]; exact FR.out.dfr
      have HD5 : Hid (_) := hd5
      clear hd5
      gi_wp2
      have hK' : (W3.setCell ⟨w.heap.size + 1, 0, none⟩ (.bool true)).heap[w.heap.size + 5]? = some (.deferred (some [])) := (Below.heap_setCell _ _ _ _ (fun e => by have e' : w.heap.size + 5 = w.heap.size + 1 := e; omega)).trans HD5.out
      refine ⟨by simp, .inl ⟨_, _, rfl, run_takeDeferred hK', ?_⟩⟩
      have hc5 := cell_kept (BB.out.set (.bool true)).cell (grownBy_putObj' _ (w.heap.size + 5) (.deferred none)) (fun r e => by cases e; exact ⟨_, hK', rfl⟩)
      refine ⟨.bool true, ?_, rfl, ?_, sl, ?_, ?_⟩
      · simp [results, Tryz.f137, go_sem, hc5]
      · refine ⟨FR.out.os.trans GR.out.os, FR.out.tape.trans GR.out.tape, FR.out.output.trans GR.out.output, ?_, fun k hk hne => ?_⟩
        · rw [World.putObj_size, set_size]
          have := FR.out.size
          omega
        · have hkB : k ≠ B := fun e => hne (by rw [e])
          exact (World.putObj_heap_other (by omega)).trans ((Below.heap_setCell _ _ _ k (fun e => by have e' : k = w.heap.size + 1 := e; omega)).trans ((FR.out.block k (by omega) hkB (by omega)).trans (GR.out.block k hk hne)))
      · exact rd_put ((Below.heap_setCell _ _ _ B (fun e => by have e' : B = w.heap.size + 1 := e; omega)).trans RR.out) _ (by omega)
      · exact own_base (own_put (l := w.heap.size + 5) (ownsRow_setCell_below OO.out (by show w.heap.size + 1 < _; omega) _) _ (fun he => by have := (OO.out.lt _ he).1; omega)) (by omega)
    · exact hx.elim
  case hY =>
    rintro k hk W ⟨⟨sl, q1, q2⟩, q3, q4⟩
    have hkd : k < ds.length := by simpa using hk
    have hx : (⟨((ds.map nm)[k]).toArray⟩ : ByteArray) = bs (nm ds[k]) := by rw [List.getElem_map]; rfl
    rw [hx]
    have hdk := HD.out ds[k] (List.getElem_mem hkd)
    have HT : Hid (ds.take (k + 1) = ds.take k ++ [ds[k]]) := List.take_succ_eq_append_getElem hkd
    generalize ds[k] = d at hdk HT hx
    obtain ⟨m, rfl⟩ : ∃ m : Nat, d = m := ⟨d.toNat, by omega⟩
    have hm7 : m < 7 := by omega
    have hl0 := (Array.getElem?_eq_some_iff.1 q4).1
    have RN : Hid (∀ W, GlobR W → Calls Tryz.prog 175 #[.string (bs (nm m))] W fun r w' => r = .returned (.tuple #[.int .i64 m, .bool true]) ∧ w' = W) := fun W g => readName_any m hm7 W g
    generalize bs (nm m) = x at RN
    refine yieldAt_of hr0 ({ tmps := #[.pointer (some ⟨B, 0, none⟩), .string sb, .pointer (some ⟨w.heap.size, 0, none⟩), undef, .pointer (some ⟨w.heap.size + 1, 0, none⟩), .string x, undef, undef, .pointer (some ⟨B, 0, none⟩), .pointer (some ⟨B, 0, none⟩), .pointer (some ⟨B, 5, none⟩), .string sb, .func (.func 132) #[] #[.pointer (some ⟨w.heap.size + 1 + 1 + 1, 0, none⟩), .pointer (some ⟨w.heap.size + 1 + 1, 0, none⟩), .pointer (some ⟨w.heap.size + 1 + 1 + 2, 0, none⟩)], .string x, undef, undef, undef, undef, undef, undef, undef, undef, undef, undef, undef, undef, undef, undef, undef, undef, undef, undef, undef], defers := [] }) q4 rfl ?assign ?body
    case assign =>
      intro K hK
      gi_wp2
      exact hK
    case body =>
      have fr1 := q3.put (.loop { r0 with state := .busy })
      have hgW : GlobR (W.putObj (W5.heap.size + 1) (.loop { r0 with state := .busy })) := G.out.step ⟨fr1.os.trans (hgr.os.trans HB0.out.os), fr1.tape.trans (hgr.tape.trans HB0.out.tape), fr1.output.trans (hgr.output.trans HB0.out.output), by have h1 := fr1.size; have h2 := HB0.out.size; omega,
        fun b hb => (fr1.block b (by have h2 := HB0.out.size; omega) (by omega) (by have h2 := HB0.out.size; omega)).trans ((hgr.block b (by have h2 := HB0.out.size; omega) (fun e => by cases e; omega)).trans (HB0.out.block b hb))⟩
      have c0 : (W.putObj (W5.heap.size + 1) (.loop { r0 with state := .busy })).cell? ⟨w.heap.size, 0, none⟩ = some (.pointer (some ⟨B, 0, none⟩)) :=
        (World.cell?_of_block (a := ⟨w.heap.size, 0, none⟩) (fr1.block w.heap.size (by omega) (by omega) (by omega))).trans b0.cell
      have r1 := rd_put q1 (.loop { r0 with state := .busy }) (show B ≠ W5.heap.size + 1 by omega)
      have o1 : (W.putObj (W5.heap.size + 1) (.loop { r0 with state := .busy })).ownsRow (w.heap.size + 7) 3 1 sl k ((ds.take k).map (Value.int .i64)) := own_put q2 _ (fun he => by have := (q2.lt _ he).1; omega)
      have e2 : (W.putObj (W5.heap.size + 1) (.loop { r0 with state := .busy })).heap[w.heap.size + 2]? = W.heap[w.heap.size + 2]? := World.putObj_heap_other (by omega)
      have e3 : (W.putObj (W5.heap.size + 1) (.loop { r0 with state := .busy })).heap[w.heap.size + 3]? = W.heap[w.heap.size + 3]? := World.putObj_heap_other (by omega)
      have e4 : (W.putObj (W5.heap.size + 1) (.loop { r0 with state := .busy })).heap[w.heap.size + 4]? = W.heap[w.heap.size + 4]? := World.putObj_heap_other (by omega)
      have lrec : (W.putObj (W5.heap.size + 1) (.loop { r0 with state := .busy })).heap[W5.heap.size + 1]? = some (.loop { r0 with state := .busy }) := World.putObj_heap_same hl0
      generalize (W.putObj (W5.heap.size + 1) (.loop { r0 with state := .busy })) = Wb at hgW c0 r1 o1 lrec fr1 e2 e3 e4
      have FR : Hid (_) := fr1
      have E2 : Hid (_) := e2
      have E3 : Hid (_) := e3
      have E4 : Hid (_) := e4
      have LREC : Hid (_) := lrec
      have R1 : Hid (_) := r1
      have hWsz := fr1.size
      clear fr1 e2 e3 e4
      have HG : Hid (GlobR Wb) := hgW
      have HO : Hid (Wb.ownsRow (w.heap.size + 7) 3 1 sl k ((ds.take k).map (Value.int .i64))) := o1
      obtain ⟨x0, x1, x2, x3, x4, x6⟩ := rd_cell r1
      have z2 := rd_frozen r1 2
      have hmix : Tryz.prog.follows .mixedOrders = true := by kernel_rfl
      clear hgW o1
      gi_wp2_with (refine ⟨trivial, ?_⟩; gi_at_call 175; refine (CallsIn.inRound (W5.heap.size + 1) (callsIn_wide.2 (RN.out _ HG.out))).mono ?_; rintro r w' ⟨rfl, rfl⟩)
      obtain ⟨i0, hi, hz0, hz1, hz2⟩ := info_parts info_int
      generalize hxs : (ds.take k).map (Value.int .i64) = xs at HO
      have HXS : Hid ((ds.take k).map (Value.int .i64) = xs) := hxs
      have HI : Hid (_) := hi
      have HZ0 : Hid (_) := hz0
      have HZ1 : Hid (_) := hz1
      have HZ2 : Hid (_) := hz2
      have HO2 : Hid ((w'.drew.alloc (.cells #[.int .i64 m] 3)).ownsRow (w.heap.size + 7) 3 1 sl k xs) := own_step HO.out (below_then (drew_below _) (below_alloc _ _))
      have HNEWS : Hid (∀ (j : Nat) (u : Value), [Value.int .i64 m][j]? = some u → (w'.drew.alloc (.cells #[.int .i64 m] 3)).cell? ((⟨w'.heap.size, 0, none⟩ : Addr).add j) = some u) := by
        intro j u hj
        match j, hj with
        | 0, hj => simp at hj; subst hj; exact (Boxed.new w'.drew 3 (.int .i64 m)).cell
      have HONE : Hid (∀ u ∈ [Value.int .i64 m], u.oneCell' = true) := by intro u hu; simp at hu; subst hu; rfl
      have HMAX : Hid (k + 1 ≤ maxLen) := by unfold maxLen; show k + 1 ≤ _; omega
      have HBY : Hid ((k + 1) * 8 ≤ 140737488355328) := by show (k + 1) * 8 ≤ _; omega
      have HBASE : Hid (w.heap.size + 7 ≤ (w'.drew.alloc (.cells #[.int .i64 m] 3)).heap.size) := by
        have hq := (Array.getElem?_eq_some_iff.1 lrec).1
        show _ ≤ (w'.heap.push _).size
        simp only [Array.size_push]
        omega
      clear hi hz0 hz1 hz2 hxs RN
      have FIN : Hid (∀ (gb cap : Nat) (w1 : World), w1.ownsRow (w.heap.size + 7) 3 1 (.slice (some ⟨gb, 0, none⟩) (k + 1) cap) (k + 1) (xs ++ [.int .i64 m]) → (w'.alloc (.cells #[.int .i64 m] 3)).drew.grownBy w1 sl.ownBlock →
          (w1.setCell ⟨B, 2, none⟩ (.slice (some ⟨gb, 0, none⟩) (k + 1) cap)).heap[W5.heap.size + 1]? = some (.loop { r0 with state := .busy }) ∧
          ((∃ sl, Rd ((w1.setCell ⟨B, 2, none⟩ (.slice (some ⟨gb, 0, none⟩) (k + 1) cap)).putObj (W5.heap.size + 1) (.loop { r0 with state := .ready, pending := none })) B f e sl c u 3 ∧ ((w1.setCell ⟨B, 2, none⟩ (.slice (some ⟨gb, 0, none⟩) (k + 1) cap)).putObj (W5.heap.size + 1) (.loop { r0 with state := .ready, pending := none })).ownsRow (w.heap.size + 7) 3 1 sl (k + 1) ((ds.take (k + 1)).map (Value.int .i64))) ∧ Fr W5 ((w1.setCell ⟨B, 2, none⟩ (.slice (some ⟨gb, 0, none⟩) (k + 1) cap)).putObj (W5.heap.size + 1) (.loop { r0 with state := .ready, pending := none })) B (w.heap.size + 2) ∧ ((w1.setCell ⟨B, 2, none⟩ (.slice (some ⟨gb, 0, none⟩) (k + 1) cap)).putObj (W5.heap.size + 1) (.loop { r0 with state := .ready, pending := none })).heap[W5.heap.size + 1]? = some (.loop r0)) ∧
          ((w1.setCell ⟨B, 2, none⟩ (.slice (some ⟨gb, 0, none⟩) (k + 1) cap)).putObj (W5.heap.size + 1) (.loop { r0 with state := .ready, pending := none })).heap[w.heap.size + 2]? = W.heap[w.heap.size + 2]? ∧ ((w1.setCell ⟨B, 2, none⟩ (.slice (some ⟨gb, 0, none⟩) (k + 1) cap)).putObj (W5.heap.size + 1) (.loop { r0 with state := .ready, pending := none })).heap[w.heap.size + 3]? = W.heap[w.heap.size + 3]? ∧ ((w1.setCell ⟨B, 2, none⟩ (.slice (some ⟨gb, 0, none⟩) (k + 1) cap)).putObj (W5.heap.size + 1) (.loop { r0 with state := .ready, pending := none })).heap[w.heap.size + 4]? = W.heap[w.heap.size + 4]?) := by
        intro gb cap w1 hown hgrow
        have hD := dayRound (r0 := { r0 with state := .ready, pending := none }) hs5 hlt R1.out FR.out LREC.out HO.out E2.out E3.out E4.out hown hgrow
        have hys : xs ++ [Value.int .i64 m] = (ds.take (k + 1)).map (Value.int .i64) := by rw [← HXS.out, HT.out, List.map_append]; rfl
        rw [hys] at hD
        exact ⟨hD.1, ⟨hD.2.1.1, hD.2.1.2.1, hD.2.1.2.2.trans (by rw [hr0.again])⟩, hD.2.2⟩
      have c0d := cell_alloc (.cells #[.int .i64 m] 3) c0
      have x2d := cell_alloc (.cells #[.int .i64 m] 3) x2
      refine region_round hmix (no_defer (by kernel_rfl)) (by rintro ⟨_, _, hx⟩; exact hx) ?_
      refine wpAny_take (i := 6) (v := .int .i64 m) rfl (by kernel_rfl) (by kernel_rfl) (by kernel_rfl) (fun _ _ _ h => h) (Or.inl ⟨by rfl, fun w => ?_⟩) ?_
      · go_simp
      refine wpAny_ready (rs := [0, 1, 7]) (by kernel_rfl) (by simp) (AllReady.cons rfl (fun K hK => ?_) (AllReady.cons rfl (fun K hK => ?_) (AllReady.cons rfl (fun K hK => ?_) AllReady.nil)))
      · go_simp
        refine hK _ _ ?_
        clear hK K
        refine wpAny_ready (rs := [1, 7]) (by kernel_rfl) (by simp) (AllReady.cons rfl (fun K hK => ?_) (AllReady.cons rfl (fun K hK => ?_) AllReady.nil))
        · go_simp
          refine hK _ _ ?_
          clear hK K
          refine wpAny_take (i := 2) (v := .pointer (some ⟨B, 0, none⟩)) rfl (by kernel_rfl) (by kernel_rfl) (by kernel_rfl) (fun _ _ _ h => h) (Or.inl ⟨by rfl, fun w => ?_⟩) ?_
          · go_simp
          refine wpAny_take (i := 3) (v := .pointer (some ⟨B, 0, none⟩)) rfl (by kernel_rfl) (by kernel_rfl) (by kernel_rfl) (fun _ _ _ h => h) (Or.inl ⟨by rfl, fun w => ?_⟩) ?_
          · go_simp
          refine wpAny_take (i := 4) (v := .pointer (some ⟨B, 2, none⟩)) rfl (by kernel_rfl) (by kernel_rfl) (by kernel_rfl) (fun _ _ _ h => h) (Or.inl ⟨by rfl, fun w => ?_⟩) ?_
          · go_simp
          refine wpAny_ready (rs := [5, 7]) (by kernel_rfl) (by simp) (AllReady.cons rfl (fun K hK => ?_) (AllReady.cons rfl (fun K hK => ?_) AllReady.nil))
          · go_simp
            refine hK _ _ ?_
            clear hK K
            refine wpAny_ready (rs := [7]) (by kernel_rfl) (by simp) (AllReady.cons rfl (fun K hK => ?_) AllReady.nil)
            go_simp
            refine hK _ _ ?_
            clear hK K
            refine wpAny_ready (rs := [8]) (by kernel_rfl) (by simp) (AllReady.cons rfl (fun K hK => ?_) AllReady.nil)
            refine step_append_lies _ rfl (.tmp 26) (.tmp 28) 22 rfl (w.heap.size + 7) 3 i0 (.int .i64 0) 1 8 Tryz.underlying22 HI.out HZ0.out HZ1.out HZ2.out rfl (by decide) sl k xs rfl HO2.out ⟨w'.heap.size, 0, none⟩ 1 1 [.int .i64 m] rfl rfl HNEWS.out HONE.out (by decide) HMAX.out HBY.out HBASE.out _ rfl ?_
            intro gb cap w1 hown hgrow _ _
            refine hK _ _ ?_
            clear hK K
            have hfar := fun b hb => far (by omega) HO.out hgrow b hb
            have c1 := (World.cell?_of_block (a := ⟨w.heap.size, 0, none⟩) (hfar w.heap.size (by omega))).trans c0
            have rr : Rd w1 B f e sl c u 3 := (hfar B (by omega)).trans R1.out
            have y2 := (rd_cell rr).2.2.1
            have v2 := rd_frozen rr 2
            have HOWN : Hid (_) := hown
            have HGROW : Hid (_) := hgrow
            clear hown hgrow hfar rr
            refine wpAny_take (i := 9) (v := .pointer (some ⟨B, 0, none⟩)) rfl (by kernel_rfl) (by kernel_rfl) (by kernel_rfl) (fun _ _ _ h => h) (Or.inl ⟨by rfl, fun w => ?_⟩) ?_
            · go_simp
            refine wpAny_take (i := 10) (v := .pointer (some ⟨B, 0, none⟩)) rfl (by kernel_rfl) (by kernel_rfl) (by kernel_rfl) (fun _ _ _ h => h) (Or.inl ⟨by rfl, fun w => ?_⟩) ?_
            · go_simp
            refine wpAny_take (i := 11) (v := .pointer (some ⟨B, 2, none⟩)) rfl (by kernel_rfl) (by kernel_rfl) (by kernel_rfl) (fun _ _ _ h => h) (Or.inl ⟨by rfl, fun w => ?_⟩) ?_
            · go_simp
            refine wpAny_ready (rs := [12]) (by kernel_rfl) (by simp) (AllReady.cons rfl (fun K hK => ?_) AllReady.nil)
            go_simp
            refine hK _ _ ?_
            clear hK K
            refine wpAny_done (by kernel_rfl) ?_ _
            have hF := FIN.out gb cap w1 HOWN.out HGROW.out
            exact ⟨hF.1, Or.inl ⟨rfl, hF.2.1, hF.2.2⟩⟩
          · go_simp
            refine hK _ _ ?_
            clear hK K
            refine wpAny_ready (rs := [5]) (by kernel_rfl) (by simp) (AllReady.cons rfl (fun K hK => ?_) AllReady.nil)
            go_simp
            refine hK _ _ ?_
            clear hK K
            refine wpAny_ready (rs := [8]) (by kernel_rfl) (by simp) (AllReady.cons rfl (fun K hK => ?_) AllReady.nil)
            refine step_append_lies _ rfl (.tmp 26) (.tmp 28) 22 rfl (w.heap.size + 7) 3 i0 (.int .i64 0) 1 8 Tryz.underlying22 HI.out HZ0.out HZ1.out HZ2.out rfl (by decide) sl k xs rfl HO2.out ⟨w'.heap.size, 0, none⟩ 1 1 [.int .i64 m] rfl rfl HNEWS.out HONE.out (by decide) HMAX.out HBY.out HBASE.out _ rfl ?_
            intro gb cap w1 hown hgrow _ _
            refine hK _ _ ?_
            clear hK K
            have hfar := fun b hb => far (by omega) HO.out hgrow b hb
            have c1 := (World.cell?_of_block (a := ⟨w.heap.size, 0, none⟩) (hfar w.heap.size (by omega))).trans c0
            have rr : Rd w1 B f e sl c u 3 := (hfar B (by omega)).trans R1.out
            have y2 := (rd_cell rr).2.2.1
            have v2 := rd_frozen rr 2
            have HOWN : Hid (_) := hown
            have HGROW : Hid (_) := hgrow
            clear hown hgrow hfar rr
            refine wpAny_take (i := 9) (v := .pointer (some ⟨B, 0, none⟩)) rfl (by kernel_rfl) (by kernel_rfl) (by kernel_rfl) (fun _ _ _ h => h) (Or.inl ⟨by rfl, fun w => ?_⟩) ?_
            · go_simp
            refine wpAny_take (i := 10) (v := .pointer (some ⟨B, 0, none⟩)) rfl (by kernel_rfl) (by kernel_rfl) (by kernel_rfl) (fun _ _ _ h => h) (Or.inl ⟨by rfl, fun w => ?_⟩) ?_
            · go_simp
            refine wpAny_take (i := 11) (v := .pointer (some ⟨B, 2, none⟩)) rfl (by kernel_rfl) (by kernel_rfl) (by kernel_rfl) (fun _ _ _ h => h) (Or.inl ⟨by rfl, fun w => ?_⟩) ?_
            · go_simp
            refine wpAny_ready (rs := [12]) (by kernel_rfl) (by simp) (AllReady.cons rfl (fun K hK => ?_) AllReady.nil)
            go_simp
            refine hK _ _ ?_
            clear hK K
            refine wpAny_done (by kernel_rfl) ?_ _
            have hF := FIN.out gb cap w1 HOWN.out HGROW.out
            exact ⟨hF.1, Or.inl ⟨rfl, hF.2.1, hF.2.2⟩⟩
        · go_simp
          refine hK _ _ ?_
          clear hK K
          refine wpAny_ready (rs := [1]) (by kernel_rfl) (by simp) (AllReady.cons rfl (fun K hK => ?_) AllReady.nil)
          go_simp
          refine hK _ _ ?_
          clear hK K
          refine wpAny_take (i := 2) (v := .pointer (some ⟨B, 0, none⟩)) rfl (by kernel_rfl) (by kernel_rfl) (by kernel_rfl) (fun _ _ _ h => h) (Or.inl ⟨by rfl, fun w => ?_⟩) ?_
          · go_simp
          refine wpAny_take (i := 3) (v := .pointer (some ⟨B, 0, none⟩)) rfl (by kernel_rfl) (by kernel_rfl) (by kernel_rfl) (fun _ _ _ h => h) (Or.inl ⟨by rfl, fun w => ?_⟩) ?_
          · go_simp
          refine wpAny_take (i := 4) (v := .pointer (some ⟨B, 2, none⟩)) rfl (by kernel_rfl) (by kernel_rfl) (by kernel_rfl) (fun _ _ _ h => h) (Or.inl ⟨by rfl, fun w => ?_⟩) ?_
          · go_simp
          refine wpAny_ready (rs := [5]) (by kernel_rfl) (by simp) (AllReady.cons rfl (fun K hK => ?_) AllReady.nil)
          go_simp
          refine hK _ _ ?_
          clear hK K
          refine wpAny_ready (rs := [8]) (by kernel_rfl) (by simp) (AllReady.cons rfl (fun K hK => ?_) AllReady.nil)
          refine step_append_lies _ rfl (.tmp 26) (.tmp 28) 22 rfl (w.heap.size + 7) 3 i0 (.int .i64 0) 1 8 Tryz.underlying22 HI.out HZ0.out HZ1.out HZ2.out rfl (by decide) sl k xs rfl HO2.out ⟨w'.heap.size, 0, none⟩ 1 1 [.int .i64 m] rfl rfl HNEWS.out HONE.out (by decide) HMAX.out HBY.out HBASE.out _ rfl ?_
          intro gb cap w1 hown hgrow _ _
          refine hK _ _ ?_
          clear hK K
          have hfar := fun b hb => far (by omega) HO.out hgrow b hb
          have c1 := (World.cell?_of_block (a := ⟨w.heap.size, 0, none⟩) (hfar w.heap.size (by omega))).trans c0
          have rr : Rd w1 B f e sl c u 3 := (hfar B (by omega)).trans R1.out
          have y2 := (rd_cell rr).2.2.1
          have v2 := rd_frozen rr 2
          have HOWN : Hid (_) := hown
          have HGROW : Hid (_) := hgrow
          clear hown hgrow hfar rr
          refine wpAny_take (i := 9) (v := .pointer (some ⟨B, 0, none⟩)) rfl (by kernel_rfl) (by kernel_rfl) (by kernel_rfl) (fun _ _ _ h => h) (Or.inl ⟨by rfl, fun w => ?_⟩) ?_
          · go_simp
          refine wpAny_take (i := 10) (v := .pointer (some ⟨B, 0, none⟩)) rfl (by kernel_rfl) (by kernel_rfl) (by kernel_rfl) (fun _ _ _ h => h) (Or.inl ⟨by rfl, fun w => ?_⟩) ?_
          · go_simp
          refine wpAny_take (i := 11) (v := .pointer (some ⟨B, 2, none⟩)) rfl (by kernel_rfl) (by kernel_rfl) (by kernel_rfl) (fun _ _ _ h => h) (Or.inl ⟨by rfl, fun w => ?_⟩) ?_
          · go_simp
          refine wpAny_ready (rs := [12]) (by kernel_rfl) (by simp) (AllReady.cons rfl (fun K hK => ?_) AllReady.nil)
          go_simp
          refine hK _ _ ?_
          clear hK K
          refine wpAny_done (by kernel_rfl) ?_ _
          have hF := FIN.out gb cap w1 HOWN.out HGROW.out
          exact ⟨hF.1, Or.inl ⟨rfl, hF.2.1, hF.2.2⟩⟩
      · go_simp
        refine hK _ _ ?_
        clear hK K
        refine wpAny_take (i := 2) (v := .pointer (some ⟨B, 0, none⟩)) rfl (by kernel_rfl) (by kernel_rfl) (by kernel_rfl) (fun _ _ _ h => h) (Or.inl ⟨by rfl, fun w => ?_⟩) ?_
        · go_simp
        refine wpAny_take (i := 3) (v := .pointer (some ⟨B, 0, none⟩)) rfl (by kernel_rfl) (by kernel_rfl) (by kernel_rfl) (fun _ _ _ h => h) (Or.inl ⟨by rfl, fun w => ?_⟩) ?_
        · go_simp
        refine wpAny_take (i := 4) (v := .pointer (some ⟨B, 2, none⟩)) rfl (by kernel_rfl) (by kernel_rfl) (by kernel_rfl) (fun _ _ _ h => h) (Or.inl ⟨by rfl, fun w => ?_⟩) ?_
        · go_simp
        refine wpAny_ready (rs := [0, 5, 7]) (by kernel_rfl) (by simp) (AllReady.cons rfl (fun K hK => ?_) (AllReady.cons rfl (fun K hK => ?_) (AllReady.cons rfl (fun K hK => ?_) AllReady.nil)))
        · go_simp
          refine hK _ _ ?_
          clear hK K
          refine wpAny_ready (rs := [5, 7]) (by kernel_rfl) (by simp) (AllReady.cons rfl (fun K hK => ?_) (AllReady.cons rfl (fun K hK => ?_) AllReady.nil))
          · go_simp
            refine hK _ _ ?_
            clear hK K
            refine wpAny_ready (rs := [7]) (by kernel_rfl) (by simp) (AllReady.cons rfl (fun K hK => ?_) AllReady.nil)
            go_simp
            refine hK _ _ ?_
            clear hK K
            refine wpAny_ready (rs := [8]) (by kernel_rfl) (by simp) (AllReady.cons rfl (fun K hK => ?_) AllReady.nil)
            refine step_append_lies _ rfl (.tmp 26) (.tmp 28) 22 rfl (w.heap.size + 7) 3 i0 (.int .i64 0) 1 8 Tryz.underlying22 HI.out HZ0.out HZ1.out HZ2.out rfl (by decide) sl k xs rfl HO2.out ⟨w'.heap.size, 0, none⟩ 1 1 [.int .i64 m] rfl rfl HNEWS.out HONE.out (by decide) HMAX.out HBY.out HBASE.out _ rfl ?_
            intro gb cap w1 hown hgrow _ _
            refine hK _ _ ?_
            clear hK K
            have hfar := fun b hb => far (by omega) HO.out hgrow b hb
            have c1 := (World.cell?_of_block (a := ⟨w.heap.size, 0, none⟩) (hfar w.heap.size (by omega))).trans c0
            have rr : Rd w1 B f e sl c u 3 := (hfar B (by omega)).trans R1.out
            have y2 := (rd_cell rr).2.2.1
            have v2 := rd_frozen rr 2
            have HOWN : Hid (_) := hown
            have HGROW : Hid (_) := hgrow
            clear hown hgrow hfar rr
            refine wpAny_take (i := 9) (v := .pointer (some ⟨B, 0, none⟩)) rfl (by kernel_rfl) (by kernel_rfl) (by kernel_rfl) (fun _ _ _ h => h) (Or.inl ⟨by rfl, fun w => ?_⟩) ?_
            · go_simp
            refine wpAny_take (i := 10) (v := .pointer (some ⟨B, 0, none⟩)) rfl (by kernel_rfl) (by kernel_rfl) (by kernel_rfl) (fun _ _ _ h => h) (Or.inl ⟨by rfl, fun w => ?_⟩) ?_
            · go_simp
            refine wpAny_take (i := 11) (v := .pointer (some ⟨B, 2, none⟩)) rfl (by kernel_rfl) (by kernel_rfl) (by kernel_rfl) (fun _ _ _ h => h) (Or.inl ⟨by rfl, fun w => ?_⟩) ?_
            · go_simp
            refine wpAny_ready (rs := [12]) (by kernel_rfl) (by simp) (AllReady.cons rfl (fun K hK => ?_) AllReady.nil)
            go_simp
            refine hK _ _ ?_
            clear hK K
            refine wpAny_done (by kernel_rfl) ?_ _
            have hF := FIN.out gb cap w1 HOWN.out HGROW.out
            exact ⟨hF.1, Or.inl ⟨rfl, hF.2.1, hF.2.2⟩⟩
          · go_simp
            refine hK _ _ ?_
            clear hK K
            refine wpAny_ready (rs := [5]) (by kernel_rfl) (by simp) (AllReady.cons rfl (fun K hK => ?_) AllReady.nil)
            go_simp
            refine hK _ _ ?_
            clear hK K
            refine wpAny_ready (rs := [8]) (by kernel_rfl) (by simp) (AllReady.cons rfl (fun K hK => ?_) AllReady.nil)
            refine step_append_lies _ rfl (.tmp 26) (.tmp 28) 22 rfl (w.heap.size + 7) 3 i0 (.int .i64 0) 1 8 Tryz.underlying22 HI.out HZ0.out HZ1.out HZ2.out rfl (by decide) sl k xs rfl HO2.out ⟨w'.heap.size, 0, none⟩ 1 1 [.int .i64 m] rfl rfl HNEWS.out HONE.out (by decide) HMAX.out HBY.out HBASE.out _ rfl ?_
            intro gb cap w1 hown hgrow _ _
            refine hK _ _ ?_
            clear hK K
            have hfar := fun b hb => far (by omega) HO.out hgrow b hb
            have c1 := (World.cell?_of_block (a := ⟨w.heap.size, 0, none⟩) (hfar w.heap.size (by omega))).trans c0
            have rr : Rd w1 B f e sl c u 3 := (hfar B (by omega)).trans R1.out
            have y2 := (rd_cell rr).2.2.1
            have v2 := rd_frozen rr 2
            have HOWN : Hid (_) := hown
            have HGROW : Hid (_) := hgrow
            clear hown hgrow hfar rr
            refine wpAny_take (i := 9) (v := .pointer (some ⟨B, 0, none⟩)) rfl (by kernel_rfl) (by kernel_rfl) (by kernel_rfl) (fun _ _ _ h => h) (Or.inl ⟨by rfl, fun w => ?_⟩) ?_
            · go_simp
            refine wpAny_take (i := 10) (v := .pointer (some ⟨B, 0, none⟩)) rfl (by kernel_rfl) (by kernel_rfl) (by kernel_rfl) (fun _ _ _ h => h) (Or.inl ⟨by rfl, fun w => ?_⟩) ?_
            · go_simp
            refine wpAny_take (i := 11) (v := .pointer (some ⟨B, 2, none⟩)) rfl (by kernel_rfl) (by kernel_rfl) (by kernel_rfl) (fun _ _ _ h => h) (Or.inl ⟨by rfl, fun w => ?_⟩) ?_
            · go_simp
            refine wpAny_ready (rs := [12]) (by kernel_rfl) (by simp) (AllReady.cons rfl (fun K hK => ?_) AllReady.nil)
            go_simp
            refine hK _ _ ?_
            clear hK K
            refine wpAny_done (by kernel_rfl) ?_ _
            have hF := FIN.out gb cap w1 HOWN.out HGROW.out
            exact ⟨hF.1, Or.inl ⟨rfl, hF.2.1, hF.2.2⟩⟩
        · go_simp
          refine hK _ _ ?_
          clear hK K
          refine wpAny_ready (rs := [0, 7]) (by kernel_rfl) (by simp) (AllReady.cons rfl (fun K hK => ?_) (AllReady.cons rfl (fun K hK => ?_) AllReady.nil))
          · go_simp
            refine hK _ _ ?_
            clear hK K
            refine wpAny_ready (rs := [7]) (by kernel_rfl) (by simp) (AllReady.cons rfl (fun K hK => ?_) AllReady.nil)
            go_simp
            refine hK _ _ ?_
            clear hK K
            refine wpAny_ready (rs := [8]) (by kernel_rfl) (by simp) (AllReady.cons rfl (fun K hK => ?_) AllReady.nil)
            refine step_append_lies _ rfl (.tmp 26) (.tmp 28) 22 rfl (w.heap.size + 7) 3 i0 (.int .i64 0) 1 8 Tryz.underlying22 HI.out HZ0.out HZ1.out HZ2.out rfl (by decide) sl k xs rfl HO2.out ⟨w'.heap.size, 0, none⟩ 1 1 [.int .i64 m] rfl rfl HNEWS.out HONE.out (by decide) HMAX.out HBY.out HBASE.out _ rfl ?_
            intro gb cap w1 hown hgrow _ _
            refine hK _ _ ?_
            clear hK K
            have hfar := fun b hb => far (by omega) HO.out hgrow b hb
            have c1 := (World.cell?_of_block (a := ⟨w.heap.size, 0, none⟩) (hfar w.heap.size (by omega))).trans c0
            have rr : Rd w1 B f e sl c u 3 := (hfar B (by omega)).trans R1.out
            have y2 := (rd_cell rr).2.2.1
            have v2 := rd_frozen rr 2
            have HOWN : Hid (_) := hown
            have HGROW : Hid (_) := hgrow
            clear hown hgrow hfar rr
            refine wpAny_take (i := 9) (v := .pointer (some ⟨B, 0, none⟩)) rfl (by kernel_rfl) (by kernel_rfl) (by kernel_rfl) (fun _ _ _ h => h) (Or.inl ⟨by rfl, fun w => ?_⟩) ?_
            · go_simp
            refine wpAny_take (i := 10) (v := .pointer (some ⟨B, 0, none⟩)) rfl (by kernel_rfl) (by kernel_rfl) (by kernel_rfl) (fun _ _ _ h => h) (Or.inl ⟨by rfl, fun w => ?_⟩) ?_
            · go_simp
            refine wpAny_take (i := 11) (v := .pointer (some ⟨B, 2, none⟩)) rfl (by kernel_rfl) (by kernel_rfl) (by kernel_rfl) (fun _ _ _ h => h) (Or.inl ⟨by rfl, fun w => ?_⟩) ?_
            · go_simp
            refine wpAny_ready (rs := [12]) (by kernel_rfl) (by simp) (AllReady.cons rfl (fun K hK => ?_) AllReady.nil)
            go_simp
            refine hK _ _ ?_
            clear hK K
            refine wpAny_done (by kernel_rfl) ?_ _
            have hF := FIN.out gb cap w1 HOWN.out HGROW.out
            exact ⟨hF.1, Or.inl ⟨rfl, hF.2.1, hF.2.2⟩⟩
          · go_simp
            refine hK _ _ ?_
            clear hK K
            refine wpAny_ready (rs := [0, 8]) (by kernel_rfl) (by simp) (AllReady.cons rfl (fun K hK => ?_) (AllReady.cons rfl (fun K hK => ?_) AllReady.nil))
            · go_simp
              refine hK _ _ ?_
              clear hK K
              refine wpAny_ready (rs := [8]) (by kernel_rfl) (by simp) (AllReady.cons rfl (fun K hK => ?_) AllReady.nil)
              refine step_append_lies _ rfl (.tmp 26) (.tmp 28) 22 rfl (w.heap.size + 7) 3 i0 (.int .i64 0) 1 8 Tryz.underlying22 HI.out HZ0.out HZ1.out HZ2.out rfl (by decide) sl k xs rfl HO2.out ⟨w'.heap.size, 0, none⟩ 1 1 [.int .i64 m] rfl rfl HNEWS.out HONE.out (by decide) HMAX.out HBY.out HBASE.out _ rfl ?_
              intro gb cap w1 hown hgrow _ _
              refine hK _ _ ?_
              clear hK K
              have hfar := fun b hb => far (by omega) HO.out hgrow b hb
              have c1 := (World.cell?_of_block (a := ⟨w.heap.size, 0, none⟩) (hfar w.heap.size (by omega))).trans c0
              have rr : Rd w1 B f e sl c u 3 := (hfar B (by omega)).trans R1.out
              have y2 := (rd_cell rr).2.2.1
              have v2 := rd_frozen rr 2
              have HOWN : Hid (_) := hown
              have HGROW : Hid (_) := hgrow
              clear hown hgrow hfar rr
              refine wpAny_take (i := 9) (v := .pointer (some ⟨B, 0, none⟩)) rfl (by kernel_rfl) (by kernel_rfl) (by kernel_rfl) (fun _ _ _ h => h) (Or.inl ⟨by rfl, fun w => ?_⟩) ?_
              · go_simp
              refine wpAny_take (i := 10) (v := .pointer (some ⟨B, 0, none⟩)) rfl (by kernel_rfl) (by kernel_rfl) (by kernel_rfl) (fun _ _ _ h => h) (Or.inl ⟨by rfl, fun w => ?_⟩) ?_
              · go_simp
              refine wpAny_take (i := 11) (v := .pointer (some ⟨B, 2, none⟩)) rfl (by kernel_rfl) (by kernel_rfl) (by kernel_rfl) (fun _ _ _ h => h) (Or.inl ⟨by rfl, fun w => ?_⟩) ?_
              · go_simp
              refine wpAny_ready (rs := [12]) (by kernel_rfl) (by simp) (AllReady.cons rfl (fun K hK => ?_) AllReady.nil)
              go_simp
              refine hK _ _ ?_
              clear hK K
              refine wpAny_done (by kernel_rfl) ?_ _
              have hF := FIN.out gb cap w1 HOWN.out HGROW.out
              exact ⟨hF.1, Or.inl ⟨rfl, hF.2.1, hF.2.2⟩⟩
            · refine step_append_lies _ rfl (.tmp 26) (.tmp 28) 22 rfl (w.heap.size + 7) 3 i0 (.int .i64 0) 1 8 Tryz.underlying22 HI.out HZ0.out HZ1.out HZ2.out rfl (by decide) sl k xs rfl HO2.out ⟨w'.heap.size, 0, none⟩ 1 1 [.int .i64 m] rfl rfl HNEWS.out HONE.out (by decide) HMAX.out HBY.out HBASE.out _ rfl ?_
              intro gb cap w1 hown hgrow _ _
              refine hK _ _ ?_
              clear hK K
              have hfar := fun b hb => far (by omega) HO.out hgrow b hb
              have c1 := (World.cell?_of_block (a := ⟨w.heap.size, 0, none⟩) (hfar w.heap.size (by omega))).trans c0
              have rr : Rd w1 B f e sl c u 3 := (hfar B (by omega)).trans R1.out
              have y2 := (rd_cell rr).2.2.1
              have v2 := rd_frozen rr 2
              have HOWN : Hid (_) := hown
              have HGROW : Hid (_) := hgrow
              clear hown hgrow hfar rr
              refine wpAny_ready (rs := [0]) (by kernel_rfl) (by simp) (AllReady.cons rfl (fun K hK => ?_) AllReady.nil)
              go_simp
              refine hK _ _ ?_
              clear hK K
              refine wpAny_take (i := 9) (v := .pointer (some ⟨B, 0, none⟩)) rfl (by kernel_rfl) (by kernel_rfl) (by kernel_rfl) (fun _ _ _ h => h) (Or.inl ⟨by rfl, fun w => ?_⟩) ?_
              · go_simp
              refine wpAny_take (i := 10) (v := .pointer (some ⟨B, 0, none⟩)) rfl (by kernel_rfl) (by kernel_rfl) (by kernel_rfl) (fun _ _ _ h => h) (Or.inl ⟨by rfl, fun w => ?_⟩) ?_
              · go_simp
              refine wpAny_take (i := 11) (v := .pointer (some ⟨B, 2, none⟩)) rfl (by kernel_rfl) (by kernel_rfl) (by kernel_rfl) (fun _ _ _ h => h) (Or.inl ⟨by rfl, fun w => ?_⟩) ?_
              · go_simp
              refine wpAny_ready (rs := [12]) (by kernel_rfl) (by simp) (AllReady.cons rfl (fun K hK => ?_) AllReady.nil)
              go_simp
              refine hK _ _ ?_
              clear hK K
              refine wpAny_done (by kernel_rfl) ?_ _
              have hF := FIN.out gb cap w1 HOWN.out HGROW.out
              exact ⟨hF.1, Or.inl ⟨rfl, hF.2.1, hF.2.2⟩⟩
        · go_simp
          refine hK _ _ ?_
          clear hK K
          refine wpAny_ready (rs := [0, 5]) (by kernel_rfl) (by simp) (AllReady.cons rfl (fun K hK => ?_) (AllReady.cons rfl (fun K hK => ?_) AllReady.nil))
          · go_simp
            refine hK _ _ ?_
            clear hK K
            refine wpAny_ready (rs := [5]) (by kernel_rfl) (by simp) (AllReady.cons rfl (fun K hK => ?_) AllReady.nil)
            go_simp
            refine hK _ _ ?_
            clear hK K
            refine wpAny_ready (rs := [8]) (by kernel_rfl) (by simp) (AllReady.cons rfl (fun K hK => ?_) AllReady.nil)
            refine step_append_lies _ rfl (.tmp 26) (.tmp 28) 22 rfl (w.heap.size + 7) 3 i0 (.int .i64 0) 1 8 Tryz.underlying22 HI.out HZ0.out HZ1.out HZ2.out rfl (by decide) sl k xs rfl HO2.out ⟨w'.heap.size, 0, none⟩ 1 1 [.int .i64 m] rfl rfl HNEWS.out HONE.out (by decide) HMAX.out HBY.out HBASE.out _ rfl ?_
            intro gb cap w1 hown hgrow _ _
            refine hK _ _ ?_
            clear hK K
            have hfar := fun b hb => far (by omega) HO.out hgrow b hb
            have c1 := (World.cell?_of_block (a := ⟨w.heap.size, 0, none⟩) (hfar w.heap.size (by omega))).trans c0
            have rr : Rd w1 B f e sl c u 3 := (hfar B (by omega)).trans R1.out
            have y2 := (rd_cell rr).2.2.1
            have v2 := rd_frozen rr 2
            have HOWN : Hid (_) := hown
            have HGROW : Hid (_) := hgrow
            clear hown hgrow hfar rr
            refine wpAny_take (i := 9) (v := .pointer (some ⟨B, 0, none⟩)) rfl (by kernel_rfl) (by kernel_rfl) (by kernel_rfl) (fun _ _ _ h => h) (Or.inl ⟨by rfl, fun w => ?_⟩) ?_
            · go_simp
            refine wpAny_take (i := 10) (v := .pointer (some ⟨B, 0, none⟩)) rfl (by kernel_rfl) (by kernel_rfl) (by kernel_rfl) (fun _ _ _ h => h) (Or.inl ⟨by rfl, fun w => ?_⟩) ?_
            · go_simp
            refine wpAny_take (i := 11) (v := .pointer (some ⟨B, 2, none⟩)) rfl (by kernel_rfl) (by kernel_rfl) (by kernel_rfl) (fun _ _ _ h => h) (Or.inl ⟨by rfl, fun w => ?_⟩) ?_
            · go_simp
            refine wpAny_ready (rs := [12]) (by kernel_rfl) (by simp) (AllReady.cons rfl (fun K hK => ?_) AllReady.nil)
            go_simp
            refine hK _ _ ?_
            clear hK K
            refine wpAny_done (by kernel_rfl) ?_ _
            have hF := FIN.out gb cap w1 HOWN.out HGROW.out
            exact ⟨hF.1, Or.inl ⟨rfl, hF.2.1, hF.2.2⟩⟩
          · go_simp
            refine hK _ _ ?_
            clear hK K
            refine wpAny_ready (rs := [0, 8]) (by kernel_rfl) (by simp) (AllReady.cons rfl (fun K hK => ?_) (AllReady.cons rfl (fun K hK => ?_) AllReady.nil))
            · go_simp
              refine hK _ _ ?_
              clear hK K
              refine wpAny_ready (rs := [8]) (by kernel_rfl) (by simp) (AllReady.cons rfl (fun K hK => ?_) AllReady.nil)
              refine step_append_lies _ rfl (.tmp 26) (.tmp 28) 22 rfl (w.heap.size + 7) 3 i0 (.int .i64 0) 1 8 Tryz.underlying22 HI.out HZ0.out HZ1.out HZ2.out rfl (by decide) sl k xs rfl HO2.out ⟨w'.heap.size, 0, none⟩ 1 1 [.int .i64 m] rfl rfl HNEWS.out HONE.out (by decide) HMAX.out HBY.out HBASE.out _ rfl ?_
              intro gb cap w1 hown hgrow _ _
              refine hK _ _ ?_
              clear hK K
              have hfar := fun b hb => far (by omega) HO.out hgrow b hb
              have c1 := (World.cell?_of_block (a := ⟨w.heap.size, 0, none⟩) (hfar w.heap.size (by omega))).trans c0
              have rr : Rd w1 B f e sl c u 3 := (hfar B (by omega)).trans R1.out
              have y2 := (rd_cell rr).2.2.1
              have v2 := rd_frozen rr 2
              have HOWN : Hid (_) := hown
              have HGROW : Hid (_) := hgrow
              clear hown hgrow hfar rr
              refine wpAny_take (i := 9) (v := .pointer (some ⟨B, 0, none⟩)) rfl (by kernel_rfl) (by kernel_rfl) (by kernel_rfl) (fun _ _ _ h => h) (Or.inl ⟨by rfl, fun w => ?_⟩) ?_
              · go_simp
              refine wpAny_take (i := 10) (v := .pointer (some ⟨B, 0, none⟩)) rfl (by kernel_rfl) (by kernel_rfl) (by kernel_rfl) (fun _ _ _ h => h) (Or.inl ⟨by rfl, fun w => ?_⟩) ?_
              · go_simp
              refine wpAny_take (i := 11) (v := .pointer (some ⟨B, 2, none⟩)) rfl (by kernel_rfl) (by kernel_rfl) (by kernel_rfl) (fun _ _ _ h => h) (Or.inl ⟨by rfl, fun w => ?_⟩) ?_
              · go_simp
              refine wpAny_ready (rs := [12]) (by kernel_rfl) (by simp) (AllReady.cons rfl (fun K hK => ?_) AllReady.nil)
              go_simp
              refine hK _ _ ?_
              clear hK K
              refine wpAny_done (by kernel_rfl) ?_ _
              have hF := FIN.out gb cap w1 HOWN.out HGROW.out
              exact ⟨hF.1, Or.inl ⟨rfl, hF.2.1, hF.2.2⟩⟩
            · refine step_append_lies _ rfl (.tmp 26) (.tmp 28) 22 rfl (w.heap.size + 7) 3 i0 (.int .i64 0) 1 8 Tryz.underlying22 HI.out HZ0.out HZ1.out HZ2.out rfl (by decide) sl k xs rfl HO2.out ⟨w'.heap.size, 0, none⟩ 1 1 [.int .i64 m] rfl rfl HNEWS.out HONE.out (by decide) HMAX.out HBY.out HBASE.out _ rfl ?_
              intro gb cap w1 hown hgrow _ _
              refine hK _ _ ?_
              clear hK K
              have hfar := fun b hb => far (by omega) HO.out hgrow b hb
              have c1 := (World.cell?_of_block (a := ⟨w.heap.size, 0, none⟩) (hfar w.heap.size (by omega))).trans c0
              have rr : Rd w1 B f e sl c u 3 := (hfar B (by omega)).trans R1.out
              have y2 := (rd_cell rr).2.2.1
              have v2 := rd_frozen rr 2
              have HOWN : Hid (_) := hown
              have HGROW : Hid (_) := hgrow
              clear hown hgrow hfar rr
              refine wpAny_ready (rs := [0]) (by kernel_rfl) (by simp) (AllReady.cons rfl (fun K hK => ?_) AllReady.nil)
              go_simp
              refine hK _ _ ?_
              clear hK K
              refine wpAny_take (i := 9) (v := .pointer (some ⟨B, 0, none⟩)) rfl (by kernel_rfl) (by kernel_rfl) (by kernel_rfl) (fun _ _ _ h => h) (Or.inl ⟨by rfl, fun w => ?_⟩) ?_
              · go_simp
              refine wpAny_take (i := 10) (v := .pointer (some ⟨B, 0, none⟩)) rfl (by kernel_rfl) (by kernel_rfl) (by kernel_rfl) (fun _ _ _ h => h) (Or.inl ⟨by rfl, fun w => ?_⟩) ?_
              · go_simp
              refine wpAny_take (i := 11) (v := .pointer (some ⟨B, 2, none⟩)) rfl (by kernel_rfl) (by kernel_rfl) (by kernel_rfl) (fun _ _ _ h => h) (Or.inl ⟨by rfl, fun w => ?_⟩) ?_
              · go_simp
              refine wpAny_ready (rs := [12]) (by kernel_rfl) (by simp) (AllReady.cons rfl (fun K hK => ?_) AllReady.nil)
              go_simp
              refine hK _ _ ?_
              clear hK K
              refine wpAny_done (by kernel_rfl) ?_ _
              have hF := FIN.out gb cap w1 HOWN.out HGROW.out
              exact ⟨hF.1, Or.inl ⟨rfl, hF.2.1, hF.2.2⟩⟩
      · go_simp
        refine hK _ _ ?_
        clear hK K
        refine wpAny_ready (rs := [0, 1]) (by kernel_rfl) (by simp) (AllReady.cons rfl (fun K hK => ?_) (AllReady.cons rfl (fun K hK => ?_) AllReady.nil))
        · go_simp
          refine hK _ _ ?_
          clear hK K
          refine wpAny_ready (rs := [1]) (by kernel_rfl) (by simp) (AllReady.cons rfl (fun K hK => ?_) AllReady.nil)
          go_simp
          refine hK _ _ ?_
          clear hK K
          refine wpAny_take (i := 2) (v := .pointer (some ⟨B, 0, none⟩)) rfl (by kernel_rfl) (by kernel_rfl) (by kernel_rfl) (fun _ _ _ h => h) (Or.inl ⟨by rfl, fun w => ?_⟩) ?_
          · go_simp
          refine wpAny_take (i := 3) (v := .pointer (some ⟨B, 0, none⟩)) rfl (by kernel_rfl) (by kernel_rfl) (by kernel_rfl) (fun _ _ _ h => h) (Or.inl ⟨by rfl, fun w => ?_⟩) ?_
          · go_simp
          refine wpAny_take (i := 4) (v := .pointer (some ⟨B, 2, none⟩)) rfl (by kernel_rfl) (by kernel_rfl) (by kernel_rfl) (fun _ _ _ h => h) (Or.inl ⟨by rfl, fun w => ?_⟩) ?_
          · go_simp
          refine wpAny_ready (rs := [5]) (by kernel_rfl) (by simp) (AllReady.cons rfl (fun K hK => ?_) AllReady.nil)
          go_simp
          refine hK _ _ ?_
          clear hK K
          refine wpAny_ready (rs := [8]) (by kernel_rfl) (by simp) (AllReady.cons rfl (fun K hK => ?_) AllReady.nil)
          refine step_append_lies _ rfl (.tmp 26) (.tmp 28) 22 rfl (w.heap.size + 7) 3 i0 (.int .i64 0) 1 8 Tryz.underlying22 HI.out HZ0.out HZ1.out HZ2.out rfl (by decide) sl k xs rfl HO2.out ⟨w'.heap.size, 0, none⟩ 1 1 [.int .i64 m] rfl rfl HNEWS.out HONE.out (by decide) HMAX.out HBY.out HBASE.out _ rfl ?_
          intro gb cap w1 hown hgrow _ _
          refine hK _ _ ?_
          clear hK K
          have hfar := fun b hb => far (by omega) HO.out hgrow b hb
          have c1 := (World.cell?_of_block (a := ⟨w.heap.size, 0, none⟩) (hfar w.heap.size (by omega))).trans c0
          have rr : Rd w1 B f e sl c u 3 := (hfar B (by omega)).trans R1.out
          have y2 := (rd_cell rr).2.2.1
          have v2 := rd_frozen rr 2
          have HOWN : Hid (_) := hown
          have HGROW : Hid (_) := hgrow
          clear hown hgrow hfar rr
          refine wpAny_take (i := 9) (v := .pointer (some ⟨B, 0, none⟩)) rfl (by kernel_rfl) (by kernel_rfl) (by kernel_rfl) (fun _ _ _ h => h) (Or.inl ⟨by rfl, fun w => ?_⟩) ?_
          · go_simp
          refine wpAny_take (i := 10) (v := .pointer (some ⟨B, 0, none⟩)) rfl (by kernel_rfl) (by kernel_rfl) (by kernel_rfl) (fun _ _ _ h => h) (Or.inl ⟨by rfl, fun w => ?_⟩) ?_
          · go_simp
          refine wpAny_take (i := 11) (v := .pointer (some ⟨B, 2, none⟩)) rfl (by kernel_rfl) (by kernel_rfl) (by kernel_rfl) (fun _ _ _ h => h) (Or.inl ⟨by rfl, fun w => ?_⟩) ?_
          · go_simp
          refine wpAny_ready (rs := [12]) (by kernel_rfl) (by simp) (AllReady.cons rfl (fun K hK => ?_) AllReady.nil)
          go_simp
          refine hK _ _ ?_
          clear hK K
          refine wpAny_done (by kernel_rfl) ?_ _
          have hF := FIN.out gb cap w1 HOWN.out HGROW.out
          exact ⟨hF.1, Or.inl ⟨rfl, hF.2.1, hF.2.2⟩⟩
        · go_simp
          refine hK _ _ ?_
          clear hK K
          refine wpAny_take (i := 2) (v := .pointer (some ⟨B, 0, none⟩)) rfl (by kernel_rfl) (by kernel_rfl) (by kernel_rfl) (fun _ _ _ h => h) (Or.inl ⟨by rfl, fun w => ?_⟩) ?_
          · go_simp
          refine wpAny_take (i := 3) (v := .pointer (some ⟨B, 0, none⟩)) rfl (by kernel_rfl) (by kernel_rfl) (by kernel_rfl) (fun _ _ _ h => h) (Or.inl ⟨by rfl, fun w => ?_⟩) ?_
          · go_simp
          refine wpAny_take (i := 4) (v := .pointer (some ⟨B, 2, none⟩)) rfl (by kernel_rfl) (by kernel_rfl) (by kernel_rfl) (fun _ _ _ h => h) (Or.inl ⟨by rfl, fun w => ?_⟩) ?_
          · go_simp
          refine wpAny_ready (rs := [0, 5]) (by kernel_rfl) (by simp) (AllReady.cons rfl (fun K hK => ?_) (AllReady.cons rfl (fun K hK => ?_) AllReady.nil))
          · go_simp
            refine hK _ _ ?_
            clear hK K
            refine wpAny_ready (rs := [5]) (by kernel_rfl) (by simp) (AllReady.cons rfl (fun K hK => ?_) AllReady.nil)
            go_simp
            refine hK _ _ ?_
            clear hK K
            refine wpAny_ready (rs := [8]) (by kernel_rfl) (by simp) (AllReady.cons rfl (fun K hK => ?_) AllReady.nil)
            refine step_append_lies _ rfl (.tmp 26) (.tmp 28) 22 rfl (w.heap.size + 7) 3 i0 (.int .i64 0) 1 8 Tryz.underlying22 HI.out HZ0.out HZ1.out HZ2.out rfl (by decide) sl k xs rfl HO2.out ⟨w'.heap.size, 0, none⟩ 1 1 [.int .i64 m] rfl rfl HNEWS.out HONE.out (by decide) HMAX.out HBY.out HBASE.out _ rfl ?_
            intro gb cap w1 hown hgrow _ _
            refine hK _ _ ?_
            clear hK K
            have hfar := fun b hb => far (by omega) HO.out hgrow b hb
            have c1 := (World.cell?_of_block (a := ⟨w.heap.size, 0, none⟩) (hfar w.heap.size (by omega))).trans c0
            have rr : Rd w1 B f e sl c u 3 := (hfar B (by omega)).trans R1.out
            have y2 := (rd_cell rr).2.2.1
            have v2 := rd_frozen rr 2
            have HOWN : Hid (_) := hown
            have HGROW : Hid (_) := hgrow
            clear hown hgrow hfar rr
            refine wpAny_take (i := 9) (v := .pointer (some ⟨B, 0, none⟩)) rfl (by kernel_rfl) (by kernel_rfl) (by kernel_rfl) (fun _ _ _ h => h) (Or.inl ⟨by rfl, fun w => ?_⟩) ?_
            · go_simp
            refine wpAny_take (i := 10) (v := .pointer (some ⟨B, 0, none⟩)) rfl (by kernel_rfl) (by kernel_rfl) (by kernel_rfl) (fun _ _ _ h => h) (Or.inl ⟨by rfl, fun w => ?_⟩) ?_
            · go_simp
            refine wpAny_take (i := 11) (v := .pointer (some ⟨B, 2, none⟩)) rfl (by kernel_rfl) (by kernel_rfl) (by kernel_rfl) (fun _ _ _ h => h) (Or.inl ⟨by rfl, fun w => ?_⟩) ?_
            · go_simp
            refine wpAny_ready (rs := [12]) (by kernel_rfl) (by simp) (AllReady.cons rfl (fun K hK => ?_) AllReady.nil)
            go_simp
            refine hK _ _ ?_
            clear hK K
            refine wpAny_done (by kernel_rfl) ?_ _
            have hF := FIN.out gb cap w1 HOWN.out HGROW.out
            exact ⟨hF.1, Or.inl ⟨rfl, hF.2.1, hF.2.2⟩⟩
          · go_simp
            refine hK _ _ ?_
            clear hK K
            refine wpAny_ready (rs := [0, 8]) (by kernel_rfl) (by simp) (AllReady.cons rfl (fun K hK => ?_) (AllReady.cons rfl (fun K hK => ?_) AllReady.nil))
            · go_simp
              refine hK _ _ ?_
              clear hK K
              refine wpAny_ready (rs := [8]) (by kernel_rfl) (by simp) (AllReady.cons rfl (fun K hK => ?_) AllReady.nil)
              refine step_append_lies _ rfl (.tmp 26) (.tmp 28) 22 rfl (w.heap.size + 7) 3 i0 (.int .i64 0) 1 8 Tryz.underlying22 HI.out HZ0.out HZ1.out HZ2.out rfl (by decide) sl k xs rfl HO2.out ⟨w'.heap.size, 0, none⟩ 1 1 [.int .i64 m] rfl rfl HNEWS.out HONE.out (by decide) HMAX.out HBY.out HBASE.out _ rfl ?_
              intro gb cap w1 hown hgrow _ _
              refine hK _ _ ?_
              clear hK K
              have hfar := fun b hb => far (by omega) HO.out hgrow b hb
              have c1 := (World.cell?_of_block (a := ⟨w.heap.size, 0, none⟩) (hfar w.heap.size (by omega))).trans c0
              have rr : Rd w1 B f e sl c u 3 := (hfar B (by omega)).trans R1.out
              have y2 := (rd_cell rr).2.2.1
              have v2 := rd_frozen rr 2
              have HOWN : Hid (_) := hown
              have HGROW : Hid (_) := hgrow
              clear hown hgrow hfar rr
              refine wpAny_take (i := 9) (v := .pointer (some ⟨B, 0, none⟩)) rfl (by kernel_rfl) (by kernel_rfl) (by kernel_rfl) (fun _ _ _ h => h) (Or.inl ⟨by rfl, fun w => ?_⟩) ?_
              · go_simp
              refine wpAny_take (i := 10) (v := .pointer (some ⟨B, 0, none⟩)) rfl (by kernel_rfl) (by kernel_rfl) (by kernel_rfl) (fun _ _ _ h => h) (Or.inl ⟨by rfl, fun w => ?_⟩) ?_
              · go_simp
              refine wpAny_take (i := 11) (v := .pointer (some ⟨B, 2, none⟩)) rfl (by kernel_rfl) (by kernel_rfl) (by kernel_rfl) (fun _ _ _ h => h) (Or.inl ⟨by rfl, fun w => ?_⟩) ?_
              · go_simp
              refine wpAny_ready (rs := [12]) (by kernel_rfl) (by simp) (AllReady.cons rfl (fun K hK => ?_) AllReady.nil)
              go_simp
              refine hK _ _ ?_
              clear hK K
              refine wpAny_done (by kernel_rfl) ?_ _
              have hF := FIN.out gb cap w1 HOWN.out HGROW.out
              exact ⟨hF.1, Or.inl ⟨rfl, hF.2.1, hF.2.2⟩⟩
            · refine step_append_lies _ rfl (.tmp 26) (.tmp 28) 22 rfl (w.heap.size + 7) 3 i0 (.int .i64 0) 1 8 Tryz.underlying22 HI.out HZ0.out HZ1.out HZ2.out rfl (by decide) sl k xs rfl HO2.out ⟨w'.heap.size, 0, none⟩ 1 1 [.int .i64 m] rfl rfl HNEWS.out HONE.out (by decide) HMAX.out HBY.out HBASE.out _ rfl ?_
              intro gb cap w1 hown hgrow _ _
              refine hK _ _ ?_
              clear hK K
              have hfar := fun b hb => far (by omega) HO.out hgrow b hb
              have c1 := (World.cell?_of_block (a := ⟨w.heap.size, 0, none⟩) (hfar w.heap.size (by omega))).trans c0
              have rr : Rd w1 B f e sl c u 3 := (hfar B (by omega)).trans R1.out
              have y2 := (rd_cell rr).2.2.1
              have v2 := rd_frozen rr 2
              have HOWN : Hid (_) := hown
              have HGROW : Hid (_) := hgrow
              clear hown hgrow hfar rr
              refine wpAny_ready (rs := [0]) (by kernel_rfl) (by simp) (AllReady.cons rfl (fun K hK => ?_) AllReady.nil)
              go_simp
              refine hK _ _ ?_
              clear hK K
              refine wpAny_take (i := 9) (v := .pointer (some ⟨B, 0, none⟩)) rfl (by kernel_rfl) (by kernel_rfl) (by kernel_rfl) (fun _ _ _ h => h) (Or.inl ⟨by rfl, fun w => ?_⟩) ?_
              · go_simp
              refine wpAny_take (i := 10) (v := .pointer (some ⟨B, 0, none⟩)) rfl (by kernel_rfl) (by kernel_rfl) (by kernel_rfl) (fun _ _ _ h => h) (Or.inl ⟨by rfl, fun w => ?_⟩) ?_
              · go_simp
              refine wpAny_take (i := 11) (v := .pointer (some ⟨B, 2, none⟩)) rfl (by kernel_rfl) (by kernel_rfl) (by kernel_rfl) (fun _ _ _ h => h) (Or.inl ⟨by rfl, fun w => ?_⟩) ?_
              · go_simp
              refine wpAny_ready (rs := [12]) (by kernel_rfl) (by simp) (AllReady.cons rfl (fun K hK => ?_) AllReady.nil)
              go_simp
              refine hK _ _ ?_
              clear hK K
              refine wpAny_done (by kernel_rfl) ?_ _
              have hF := FIN.out gb cap w1 HOWN.out HGROW.out
              exact ⟨hF.1, Or.inl ⟨rfl, hF.2.1, hF.2.2⟩⟩
end Go.Proofs.YtpdcjnkgkpbdgaaGreatDoor

/- Contracts of takePart and take at the words of a rule that is well. -/
namespace Go.Proofs.YtpdcjnkgkpbdgaaGreatDoor
open Go.RowKit Cal

theorem part_count (B : Nat) (w : World) (f : ByteArray) (e : Int) (sl : Value) (c u p : Int) (hp : p < 4) (h : Rd w B f e sl c u p) :
    Calls Tryz.prog 88 #[.pointer (some ⟨B, 0, none⟩), .string ⟨#[99, 111, 117, 110, 116]⟩] w fun r w' => r = .returned (.bool true) ∧ w.grownBy w' (some B) ∧ Rd w' B f e sl c u 4 := by
  have H : Hid (Rd w B f e sl c u p) := h
  obtain ⟨x0, x1, x2, x3, x4, x5⟩ := rd_cell h
  have z5 := rd_frozen h 5
  clear h
  go_enter Tryz.func88, Tryz.ntmps88
  go_wp2
  go_ret
  exact ⟨rfl, grown_set _ ⟨B, 5, none⟩ _, rd_set5 H.out 4⟩
theorem part_until (B : Nat) (w : World) (f : ByteArray) (e : Int) (sl : Value) (c u p : Int) (hp : p < 6) (h : Rd w B f e sl c u p) :
    Calls Tryz.prog 88 #[.pointer (some ⟨B, 0, none⟩), .string ⟨#[117, 110, 116, 105, 108]⟩] w fun r w' => r = .returned (.bool true) ∧ w.grownBy w' (some B) ∧ Rd w' B f e sl c u 6 := by
  have H : Hid (Rd w B f e sl c u p) := h
  obtain ⟨x0, x1, x2, x3, x4, x5⟩ := rd_cell h
  have z5 := rd_frozen h 5
  clear h
  go_enter Tryz.func88, Tryz.ntmps88
  go_wp2
  go_ret
  exact ⟨rfl, grown_set _ ⟨B, 5, none⟩ _, rd_set5 H.out 6⟩
theorem part_days (B : Nat) (ds : List Int) (w0 w : World) (f : ByteArray) (e : Int) (c u : Int) (g : GlobR w0) (hb0 : Below w0.heap.size w0 w) (hB : w0.heap.size ≤ B) (h0 : ds ≠ []) (hD : bD ds) (h20 : ds.length ≤ 20)
    (h : Rd w B f e (.slice none 0 0) c u 2) :
    Calls Tryz.prog 88 #[.pointer (some ⟨B, 0, none⟩), .string (bs (Lib.join (ds.map nm) [44]))] w fun r w' => r = .returned (.bool true) ∧ w.grownBy w' (some B) ∧
      ∃ sl, Rd w' B f e sl c u 3 ∧ w'.ownsRow w.heap.size 3 1 sl ds.length (ds.map (Value.int .i64)) := by
  have C : Hid (_) := takeDays_any B ds w0 w f e c u 2 g hb0 hB h0 hD h20 h
  have n1 : ((bs (Lib.join (ds.map nm) [44])).toList == [99, 111, 117, 110, 116]) = false := by
    rw [beq_eq_false_iff_ne, ByteArray.toList_eq]; exact days_ne_count h0
  have n2 : ((bs (Lib.join (ds.map nm) [44])).toList == [117, 110, 116, 105, 108]) = false := by
    rw [beq_eq_false_iff_ne, ByteArray.toList_eq]; exact days_ne_until h0
  generalize bs (Lib.join (ds.map nm) [44]) = sb at C n1 n2
  have CC : Hid (Calls Tryz.prog 137 #[.pointer (some ⟨B, 0, none⟩), .string sb] w fun r w' => r = .returned (.bool true) ∧ w.grownBy w' (some B) ∧
      ∃ sl, Rd w' B f e sl c u 3 ∧ w'.ownsRow w.heap.size 3 1 sl ds.length (ds.map (Value.int .i64))) := C.out
  obtain ⟨x0, x1, x2, x3, x4, x5⟩ := rd_cell h
  clear C h g hb0 hD
  go_enter Tryz.func88, Tryz.ntmps88
  go_wp2_with (go_at_call 137; refine Calls.mono CC.out ?_; rintro r w' ⟨rfl, hg1, hg2⟩)
  go_ret
  exact ⟨rfl, hg1, hg2⟩

theorem take_freq (B : Nat) (x : ByteArray) (sl : Value) (w : World) (hx : isF x = true) (h : Rd w B ⟨#[]⟩ 0 sl 0 (-1) 0) :
    Calls Tryz.prog 46 #[.pointer (some ⟨B, 0, none⟩), .string x] w fun r w' => r = .returned (.bool true) ∧ w.grownBy w' (some B) ∧
      ((x.toList == [111, 110, 99, 101]) = true → Rd w' B x 1 sl 0 (-1) 7) ∧ ((x.toList == [111, 110, 99, 101]) = false → Rd w' B x 0 sl 0 (-1) 1) := by
  have C : Hid (_) := takeFreq_any B x sl w hx h
  obtain ⟨x0, x1, x2, x3, x4, x5⟩ := rd_cell h
  clear h hx
  go_enter Tryz.func46, Tryz.ntmps46
  go_wp2_with (go_at_call 85; refine Calls.mono C.out ?_; rintro r w' ⟨rfl, h1, h2, h3⟩)
  go_ret
  exact ⟨rfl, h1, h2, h3⟩
theorem take_every (B : Nat) (m : Int) (w : World) (f : ByteArray) (e : Int) (sl : Value) (c u : Int) (h0 : 0 ≤ m) (h1 : m ≤ 100000) (ht : Tab w) (h : Rd w B f e sl c u 1) :
    Calls Tryz.prog 46 #[.pointer (some ⟨B, 0, none⟩), .string (bs (Lib.itoa m))] w fun r w' => r = .returned (.bool true) ∧ w.grownBy w' (some B) ∧ Rd w' B f m sl c u 2 := by
  have C := takeNumber_any B m 2 1 w f e sl c u 1 h0 h1 (Or.inl rfl) ht h
  generalize bs (Lib.itoa m) = sb at C
  have CC : Hid (Calls Tryz.prog 86 #[.pointer (some ⟨B, 0, none⟩), .string sb, .pointer (some ⟨B, 1, none⟩), .int .i64 2] w fun r w' => r = .returned (.bool true) ∧ w.grownBy w' (some B) ∧ Rd w' B f m sl c u 2) := by
    refine C.mono ?_; rintro r w' ⟨a, b, c1, _⟩; exact ⟨a, b, c1 rfl⟩
  obtain ⟨x0, x1, x2, x3, x4, x5⟩ := rd_cell h
  clear h C ht
  go_enter Tryz.func46, Tryz.ntmps46
  go_wp2_with (go_at_call 86; refine Calls.mono CC.out ?_; rintro r w' ⟨rfl, h1, h2⟩)
  go_ret
  exact ⟨rfl, h1, h2⟩
theorem take_count (B : Nat) (m : Int) (w : World) (f : ByteArray) (e : Int) (sl : Value) (c u : Int) (h0 : 0 < m) (h1 : m ≤ 100000) (ht : Tab w) (h : Rd w B f e sl c u 4) :
    Calls Tryz.prog 46 #[.pointer (some ⟨B, 0, none⟩), .string (bs (Lib.itoa m))] w fun r w' => r = .returned (.bool true) ∧ w.grownBy w' (some B) ∧ Rd w' B f e sl m u 5 := by
  have C := takeNumber_any B m 5 3 w f e sl c u 4 (by omega) h1 (Or.inr rfl) ht h
  generalize bs (Lib.itoa m) = sb at C
  have CC : Hid (Calls Tryz.prog 86 #[.pointer (some ⟨B, 0, none⟩), .string sb, .pointer (some ⟨B, 3, none⟩), .int .i64 5] w fun r w' => r = .returned (.bool true) ∧ w.grownBy w' (some B) ∧ Rd w' B f e sl m u 5) := by
    refine C.mono ?_; rintro r w' ⟨a, b, _, c1⟩; exact ⟨a, b, c1 rfl⟩
  obtain ⟨x0, x1, x2, x3, x4, x5⟩ := rd_cell h
  clear h C ht
  go_enter Tryz.func46, Tryz.ntmps46
  go_wp2_with (go_at_call 86; refine Calls.mono CC.out ?_; rintro r w' ⟨rfl, h1, h2⟩; have y3 := (rd_cell h2).2.2.2.1)
  go_ret
  exact ⟨rfl, h1, h2⟩
theorem take_until (B : Nat) (n y m d : Int) (w : World) (f : ByteArray) (e : Int) (sl : Value) (c u : Int) (hv : vld y m d) (hn : num y m d = n) (g : GlobR w) (h : Rd w B f e sl c u 6) :
    Calls Tryz.prog 46 #[.pointer (some ⟨B, 0, none⟩), .string (bs (txt y m d))] w fun r w' => r = .returned (.bool true) ∧ w.grownBy w' (some B) ∧ Rd w' B f e sl c n 7 := by
  have C := takeUntil_any B n y m d w f e sl c u 6 hv hn g h
  generalize bs (txt y m d) = sb at C
  have CC : Hid (_) := C
  obtain ⟨x0, x1, x2, x3, x4, x5⟩ := rd_cell h
  clear h C g
  go_enter Tryz.func46, Tryz.ntmps46
  go_wp2_with (go_at_call 87; refine Calls.mono CC.out ?_; rintro r w' ⟨rfl, h1, h2⟩)
  go_ret
  exact ⟨rfl, h1, h2⟩
/-- the other places: the word goes to takePart -/
theorem take_part (B : Nat) (x : ByteArray) (w : World) (f : ByteArray) (e : Int) (sl : Value) (c u p : Int) (R : World → Prop) (hp : p = 2 ∨ p = 3 ∨ p = 5) (h : Rd w B f e sl c u p)
    (C : Calls Tryz.prog 88 #[.pointer (some ⟨B, 0, none⟩), .string x] w fun r w' => r = .returned (.bool true) ∧ R w') :
    Calls Tryz.prog 46 #[.pointer (some ⟨B, 0, none⟩), .string x] w fun r w' => r = .returned (.bool true) ∧ R w' := by
  have CC : Hid (_) := C
  obtain ⟨x0, x1, x2, x3, x4, x5⟩ := rd_cell h
  clear h C
  rcases hp with rfl | rfl | rfl
  all_goals
    go_enter Tryz.func46, Tryz.ntmps46
    go_wp2_with (go_at_call 88; refine Calls.mono CC.out ?_; rintro r w' ⟨rfl, h1⟩)
    go_ret
    exact ⟨rfl, h1⟩
end Go.Proofs.YtpdcjnkgkpbdgaaGreatDoor

/- The reader word by word: each word of a rule that is well leads on. -/
namespace Go.Proofs.YtpdcjnkgkpbdgaaGreatDoor
open Go.RowKit Cal

theorem bs_toList (f : ByteArray) : bs f.toList = f := ba_ext (by rw [bs_data, ByteArray.toList_eq])
/-- where the reader stands -/
def St (base : Nat) (W : World) (B : Nat) (f : ByteArray) (e : Int) (ds : List Int) (c u : Int) (t : List UInt8) (l : List (List UInt8)) : Prop :=
  (Rd W B ⟨#[]⟩ 0 (.slice none 0 0) 0 (-1) 0 ∧ l = words (rd f e ds c u) t) ∨
  (Rd W B f 0 (.slice none 0 0) 0 (-1) 1 ∧ l = Lib.itoa e :: (wDays (rd f e ds c u) ++ (wCount (rd f e ds c u) ++ wUntil (rd f e ds c u) t))) ∨
  (Rd W B f e (.slice none 0 0) 0 (-1) 2 ∧ l = wDays (rd f e ds c u) ++ (wCount (rd f e ds c u) ++ wUntil (rd f e ds c u) t)) ∨
  (∃ sl p, (p = 2 ∨ p = 3) ∧ Rd W B f e sl 0 (-1) p ∧ Ow base W sl ds ∧ l = wCount (rd f e ds c u) ++ wUntil (rd f e ds c u) t) ∨
  (∃ sl, Rd W B f e sl 0 (-1) 4 ∧ Ow base W sl ds ∧ c ≠ 0 ∧ l = Lib.itoa c :: wUntil (rd f e ds c u) t) ∨
  (∃ sl p, (p = 2 ∨ p = 3 ∨ p = 5) ∧ Rd W B f e sl c (-1) p ∧ Ow base W sl ds ∧ l = wUntil (rd f e ds c u) t) ∨
  (∃ sl, Rd W B f e sl c (-1) 6 ∧ Ow base W sl ds ∧ u ≠ -1 ∧ l = [t]) ∨
  (∃ sl, Rd W B f e sl c u 7 ∧ Ow base W sl ds ∧ l = [])

section
variable {base : Nat} {w0 W : World} {B : Nat} {f : ByteArray} {e : Int} {ds : List Int} {c u : Int} {t : List UInt8}

theorem St.s1 (h : Rd W B f 0 (.slice none 0 0) 0 (-1) 1) : St base W B f e ds c u t (Lib.itoa e :: (wDays (rd f e ds c u) ++ (wCount (rd f e ds c u) ++ wUntil (rd f e ds c u) t))) := .inr (.inl ⟨h, rfl⟩)
theorem St.s2 (h : Rd W B f e (.slice none 0 0) 0 (-1) 2) : St base W B f e ds c u t (wDays (rd f e ds c u) ++ (wCount (rd f e ds c u) ++ wUntil (rd f e ds c u) t)) := .inr (.inr (.inl ⟨h, rfl⟩))
theorem St.s3 (sl : Value) (p : Int) (hp : p = 2 ∨ p = 3) (h : Rd W B f e sl 0 (-1) p) (ho : Ow base W sl ds) : St base W B f e ds c u t (wCount (rd f e ds c u) ++ wUntil (rd f e ds c u) t) := .inr (.inr (.inr (.inl ⟨sl, p, hp, h, ho, rfl⟩)))
theorem St.s4 (sl : Value) (h : Rd W B f e sl 0 (-1) 4) (ho : Ow base W sl ds) (hc : c ≠ 0) : St base W B f e ds c u t (Lib.itoa c :: wUntil (rd f e ds c u) t) := .inr (.inr (.inr (.inr (.inl ⟨sl, h, ho, hc, rfl⟩))))
theorem St.s5 (sl : Value) (p : Int) (hp : p = 2 ∨ p = 3 ∨ p = 5) (h : Rd W B f e sl c (-1) p) (ho : Ow base W sl ds) : St base W B f e ds c u t (wUntil (rd f e ds c u) t) := .inr (.inr (.inr (.inr (.inr (.inl ⟨sl, p, hp, h, ho, rfl⟩)))))
theorem St.s6 (sl : Value) (h : Rd W B f e sl c (-1) 6) (ho : Ow base W sl ds) (hu : u ≠ -1) : St base W B f e ds c u t [t] := .inr (.inr (.inr (.inr (.inr (.inr (.inl ⟨sl, h, ho, hu, rfl⟩))))))
theorem St.s7 (sl : Value) (h : Rd W B f e sl c u 7) (ho : Ow base W sl ds) : St base W B f e ds c u t [] := .inr (.inr (.inr (.inr (.inr (.inr (.inr ⟨sl, h, ho, rfl⟩))))))

theorem count_nil (h : c = 0) : wCount (rd f e ds c u) = [] := by unfold wCount; rw [if_pos (show (rd f e ds c u).count = 0 from h)]
theorem count_some (h : c ≠ 0) : wCount (rd f e ds c u) = [countW, Lib.itoa c] := by unfold wCount; rw [if_neg (show ¬ (rd f e ds c u).count = 0 from h)]; rfl
theorem until_nil (h : u = -1) : wUntil (rd f e ds c u) t = [] := by unfold wUntil; rw [if_pos (show (rd f e ds c u).til = -1 from h)]
theorem until_some (h : u ≠ -1) : wUntil (rd f e ds c u) t = [untilW, t] := by unfold wUntil; rw [if_neg (show ¬ (rd f e ds c u).til = -1 from h)]
theorem days_nil (h : ds = []) : wDays (rd f e ds c u) = [] := by unfold wDays; rw [if_pos (show (rd f e ds c u).days = [] from h)]
theorem days_some (h : ds ≠ []) : wDays (rd f e ds c u) = [Lib.join (ds.map nm) [44]] := by unfold wDays; rw [if_neg (show ¬ (rd f e ds c u).days = [] from h)]; rfl

theorem step5 {x : List UInt8} {rest : List (List UInt8)} (hB : B < base) {sl : Value} {p : Int} (hp : p = 2 ∨ p = 3 ∨ p = 5) (hr : Rd W B f e sl c (-1) p) (ho : Ow base W sl ds) (hx : wUntil (rd f e ds c u) t = x :: rest) :
    Calls Tryz.prog 46 #[.pointer (some ⟨B, 0, none⟩), .string (bs x)] W fun r w' => r = .returned (.bool true) ∧ (W.grownBy w' (some B) ∧ St base w' B f e ds c u t rest) := by
  by_cases hu : u = -1
  · rw [until_nil hu] at hx; cases hx
  · rw [until_some hu] at hx
    injection hx with h1 h2
    subst h1 h2
    refine take_part B _ W f e sl c (-1) p _ hp hr ?_
    refine (part_until B W f e sl c (-1) p (by omega) hr).mono ?_
    rintro r w' ⟨rfl, hg, h⟩
    exact ⟨rfl, hg, St.s6 sl h (ho.grown hg hB) hu⟩
theorem step3 {x : List UInt8} {rest : List (List UInt8)} (hB : B < base) {sl : Value} {p : Int} (hp : p = 2 ∨ p = 3) (hr : Rd W B f e sl 0 (-1) p) (ho : Ow base W sl ds) (hx : wCount (rd f e ds c u) ++ wUntil (rd f e ds c u) t = x :: rest) :
    Calls Tryz.prog 46 #[.pointer (some ⟨B, 0, none⟩), .string (bs x)] W fun r w' => r = .returned (.bool true) ∧ (W.grownBy w' (some B) ∧ St base w' B f e ds c u t rest) := by
  by_cases hc : c = 0
  · rw [count_nil hc, List.nil_append] at hx
    refine step5 hB (p := p) (by omega) (by rw [hc]; exact hr) ho hx
  · rw [count_some hc] at hx
    injection hx with h1 h2
    subst h1
    have h2' : Lib.itoa c :: wUntil (rd f e ds c u) t = rest := h2
    subst h2'
    refine take_part B _ W f e sl 0 (-1) p _ (by omega) hr ?_
    refine (part_count B W f e sl 0 (-1) p (by omega) hr).mono ?_
    rintro r w' ⟨rfl, hg, h⟩
    exact ⟨rfl, hg, St.s4 sl h (ho.grown hg hB) hc⟩

theorem take_step {x : List UInt8} {rest l : List (List UInt8)} (hw : Well (rd f e ds c u)) (ht : UT (rd f e ds c u) t) (h20 : ds.length ≤ 20) (g : GlobR w0) (hb0 : Below w0.heap.size w0 W) (hB0 : w0.heap.size ≤ B) (hB : B < base) (hbs : base ≤ W.heap.size)
    (h : St base W B f e ds c u t l) (hl : l = x :: rest) :
    Calls Tryz.prog 46 #[.pointer (some ⟨B, 0, none⟩), .string (bs x)] W fun r w' => r = .returned (.bool true) ∧ (W.grownBy w' (some B) ∧ St base w' B f e ds c u t rest) := by
  have gW := g.step hb0
  rcases h with ⟨hr, el⟩ | ⟨hr, el⟩ | ⟨hr, el⟩ | ⟨sl, p, hp, hr, ho, el⟩ | ⟨sl, hr, ho, hc, el⟩ | ⟨sl, p, hp, hr, ho, el⟩ | ⟨sl, hr, ho, hu, el⟩ | ⟨sl, hr, ho, el⟩
  all_goals rw [el] at hl
  · have hF := (of_well hw).1
    unfold words at hl
    by_cases ho : (rd f e ds c u).freq = onceW
    · rw [if_pos ho] at hl
      injection hl with h1 h2
      subst h1 h2
      have hon := hw.on ho
      have hdn := hw.wk (by rw [ho]; decide)
      have hf : bs onceW = f := by rw [← ho]; exact bs_toList f
      rw [hf]
      refine (take_freq B f _ W hF hr).mono ?_
      rintro r w' ⟨rfl, hg, h7, _⟩
      have hd : ds = [] := hdn
      have h1 : e = 1 := hon.1
      have h2 : c = 0 := hon.2.1
      have h3 : u = -1 := hon.2.2
      subst hd h1 h2 h3
      exact ⟨rfl, hg, St.s7 _ (h7 (by rw [beq_iff_eq]; exact ho)) (Ow.nil _ _)⟩
    · rw [if_neg ho] at hl
      injection hl with h1 h2
      subst h1 h2
      have hf : bs (rd f e ds c u).freq = f := bs_toList f
      rw [hf]
      refine (take_freq B f _ W hF hr).mono ?_
      rintro r w' ⟨rfl, hg, _, h1⟩
      exact ⟨rfl, hg, St.s1 (h1 (by rw [beq_eq_false_iff_ne]; exact ho))⟩
  · injection hl with h1 h2
    subst h1 h2
    have he : 1 ≤ e ∧ e ≤ 100 := hw.ev
    refine (take_every B e W f 0 _ 0 (-1) (by omega) (by omega) gW.tab hr).mono ?_
    rintro r w' ⟨rfl, hg, h⟩
    exact ⟨rfl, hg, St.s2 h⟩
  · by_cases hd : ds = []
    · rw [days_nil hd, List.nil_append] at hl
      refine step3 hB (p := 2) (Or.inl rfl) hr (by rw [hd]; exact Ow.nil _ _) hl
    · rw [days_some hd, List.singleton_append] at hl
      injection hl with h1 h2
      subst h1 h2
      refine take_part B _ W f e _ 0 (-1) 2 _ (Or.inl rfl) hr ?_
      refine (part_days B ds w0 W f e 0 (-1) g hb0 hB0 hd hw.ds h20 hr).mono ?_
      rintro r w' ⟨rfl, hg, sl, h1, h2⟩
      exact ⟨rfl, hg, St.s3 sl 3 (Or.inr rfl) h1 (own_base h2 hbs)⟩
  · exact step3 hB hp hr ho hl
  · injection hl with h1 h2
    subst h1 h2
    have hcc : 0 ≤ c ∧ c ≤ 1000 := hw.co
    refine (take_count B c W f e sl 0 (-1) (by omega) (by omega) gW.tab hr).mono ?_
    rintro r w' ⟨rfl, hg, h⟩
    exact ⟨rfl, hg, St.s5 sl 5 (by omega) h (ho.grown hg hB)⟩
  · exact step5 hB hp hr ho hl
  · injection hl with h1 h2
    subst h1 h2
    rcases ht with ⟨e1, _⟩ | ⟨_, y, m, d, hv, hn, rfl⟩
    · exact absurd e1 hu
    · refine (take_until B u y m d W f e sl c (-1) hv hn gW hr).mono ?_
      rintro r w' ⟨rfl, hg, h⟩
      exact ⟨rfl, hg, St.s7 sl h (ho.grown hg hB)⟩
  · cases hl

theorem st_end {l : List (List UInt8)} (h : St base W B f e ds c u t l) (hl : l = []) : ∃ sl p, (p = 2 ∨ p = 3 ∨ p = 5 ∨ p = 7) ∧ Rd W B f e sl c u p ∧ Ow base W sl ds := by
  have until_e : wUntil (rd f e ds c u) t = [] → u = -1 := fun h => by
    by_cases hu : u = -1
    · exact hu
    · rw [until_some hu] at h; cases h
  have count_e : wCount (rd f e ds c u) = [] → c = 0 := fun h => by
    by_cases hu : c = 0
    · exact hu
    · rw [count_some hu] at h; cases h
  have days_e : wDays (rd f e ds c u) = [] → ds = [] := fun h => by
    by_cases hu : ds = []
    · exact hu
    · rw [days_some hu] at h; cases h
  rcases h with ⟨hr, el⟩ | ⟨hr, el⟩ | ⟨hr, el⟩ | ⟨sl, p, hp, hr, ho, el⟩ | ⟨sl, hr, ho, hc, el⟩ | ⟨sl, p, hp, hr, ho, el⟩ | ⟨sl, hr, ho, hu, el⟩ | ⟨sl, hr, ho, el⟩
  all_goals rw [el] at hl
  · exact absurd hl (words_ne _ _)
  · cases hl
  · obtain ⟨h1, h2⟩ := List.append_eq_nil_iff.1 hl
    obtain ⟨h2, h3⟩ := List.append_eq_nil_iff.1 h2
    have e1 := days_e h1
    have e2 := count_e h2
    have e3 := until_e h3
    subst e1 e2 e3
    exact ⟨_, 2, Or.inl rfl, hr, Ow.nil _ _⟩
  · obtain ⟨h2, h3⟩ := List.append_eq_nil_iff.1 hl
    have e2 := count_e h2
    have e3 := until_e h3
    subst e2 e3
    exact ⟨sl, p, by omega, hr, ho⟩
  · cases hl
  · have e3 := until_e hl
    subst e3
    exact ⟨sl, p, by omega, hr, ho⟩
  · cases hl
  · exact ⟨sl, 7, by omega, hr, ho⟩
end
end Go.Proofs.YtpdcjnkgkpbdgaaGreatDoor

/- Contract of rule.Read at the text of a rule that is well: the rule, and no error. -/
namespace Go.Proofs.YtpdcjnkgkpbdgaaGreatDoor
open Go Go.RowKit Go.Shelf Cal
attribute [local go_sem] Oper.semAt_some

theorem rd_kept {W W' : World} {x B : Nat} {f : ByteArray} {e : Int} {sl : Value} {c u p : Int} (h : Rd W B f e sl c u p) (hg : W.grownBy W' (some x)) (hx : B ≠ x) : Rd W' B f e sl c u p :=
  (hg.block B (rd_lt h) (fun e => hx (by cases e; rfl))).trans h
theorem St.kept {base x : Nat} {W W' : World} {B : Nat} {f : ByteArray} {e : Int} {ds : List Int} {c u : Int} {t : List UInt8} {l : List (List UInt8)} (h : St base W B f e ds c u t l) (hg : W.grownBy W' (some x)) (hx : B ≠ x) (hb : x < base) : St base W' B f e ds c u t l := by
  rcases h with ⟨hr, rfl⟩ | ⟨hr, rfl⟩ | ⟨hr, rfl⟩ | ⟨sl, p, hp, hr, ho, rfl⟩ | ⟨sl, hr, ho, hc, rfl⟩ | ⟨sl, p, hp, hr, ho, rfl⟩ | ⟨sl, hr, ho, hu, rfl⟩ | ⟨sl, hr, ho, rfl⟩
  · exact .inl ⟨rd_kept hr hg hx, rfl⟩
  · exact St.s1 (rd_kept hr hg hx)
  · exact St.s2 (rd_kept hr hg hx)
  · exact St.s3 sl p hp (rd_kept hr hg hx) (ho.grown hg hb)
  · exact St.s4 sl (rd_kept hr hg hx) (ho.grown hg hb) hc
  · exact St.s5 sl p hp (rd_kept hr hg hx) (ho.grown hg hb)
  · exact St.s6 sl (rd_kept hr hg hx) (ho.grown hg hb) hu
  · exact St.s7 sl (rd_kept hr hg hx) (ho.grown hg hb)
/-- where the loop over the words begins -/
def RW (w : World) (sb : ByteArray) : World :=
  ((((((w.alloc (.cells #[.string ⟨#[]⟩, .int .i64 0, .slice none 0 0, .int .i64 0, .int .i64 0] 24)).alloc (.cells #[.nilIface] 29)).alloc
    (.cells #[.string ⟨#[]⟩, .int .i64 0, .slice none 0 0, .int .i64 0, .int .i64 (-1), .int .i64 0] 77)).alloc (.cells #[.string sb] 9)).alloc (.cells #[.string ⟨#[32]⟩] 9)).alloc (.cells #[.int .i64 0] 3))
theorem rw_size (w : World) (sb : ByteArray) : (RW w sb).heap.size = w.heap.size + 6 := by
  unfold RW
  simp
theorem rw_below (w : World) (sb : ByteArray) : Below w.heap.size w (RW w sb) := by
  unfold RW
  exact below_then (below_alloc _ _) (below_then (below_alloc _ _) (below_then (below_alloc _ _) (below_then (below_alloc _ _) (below_then (below_alloc _ _) (below_alloc _ _)))))
theorem rw_boxes (w : World) (sb : ByteArray) :
    (RW w sb).heap[w.heap.size]? = some (.cells #[.string ⟨#[]⟩, .int .i64 0, .slice none 0 0, .int .i64 0, .int .i64 0] 24 (0, 0)) ∧ Boxed (RW w sb) (w.heap.size + 1) 29 .nilIface ∧
      Rd (RW w sb) (w.heap.size + 2) ⟨#[]⟩ 0 (.slice none 0 0) 0 (-1) 0 ∧ Boxed (RW w sb) (w.heap.size + 3) 9 (.string sb) ∧ Boxed (RW w sb) (w.heap.size + 4) 9 (.string ⟨#[32]⟩) ∧ Boxed (RW w sb) (w.heap.size + 5) 3 (.int .i64 0) := by
  unfold RW
  refine ⟨?_, ?_, ?_, ?_, ?_, ?_⟩
  · exact block_alloc _ (block_alloc _ (block_alloc _ (block_alloc _ (block_alloc _ (block_at _ rfl)))))
  · exact block_alloc _ (block_alloc _ (block_alloc _ (block_alloc _ (block_at _ (by simp)))))
  · exact block_alloc _ (block_alloc _ (block_alloc _ (block_at _ (by simp))))
  · exact block_alloc _ (block_alloc _ (block_at _ (by simp)))
  · exact block_alloc _ (block_at _ (by simp))
  · exact block_at _ (by simp)

set_option maxHeartbeats 1000000 in
set_option maxRecDepth 100000 in
theorem rread_ow (f : ByteArray) (e : Int) (ds : List Int) (c u : Int) (t : List UInt8) (w : World) (g : GlobR w) (h20 : ds.length ≤ 20) (hw : Well (rd f e ds c u)) (ht : UT (rd f e ds c u) t) :
    Calls Tryz.prog 12 #[.string (bs (rtext (rd f e ds c u) t))] w fun r w' => ∃ sl, r = .returned (.tuple #[rv f e sl c u, .nilIface]) ∧ Ow w.heap.size w' sl ds ∧ Below w.heap.size w w' := by
  have hp : pieces 32 (bs (rtext (rd f e ds c u) t)).data.toList = words (rd f e ds c u) t := rtext_pieces hw ht
  have hsz : (bs (rtext (rd f e ds c u) t)).size ≤ 1000000 := by rw [Lib.size_eq, bs_data]; have := rtext_len hw ht h20; omega
  generalize bs (rtext (rd f e ds c u) t) = sb at hsz hp
  have HP : Hid (pieces 32 sb.data.toList = words (rd f e ds c u) t) := hp
  have G : Hid (GlobR w) := g
  have HW : Hid (Well (rd f e ds c u)) := hw
  have HT : Hid (UT (rd f e ds c u) t) := ht
  have SS : Hid (∀ w, _) := fun w => splitSeq_any sb 32 w
  clear hp g hw ht
  refine (callsIn_wide (n := 10)).1 ?_
  refine callsIn_of_wp_marks Tryz.func12 rfl trivial ?_ rfl
  simp only [Tryz.ntmps12, List.size_toArray, List.length_cons, List.length_nil, Nat.reduceAdd, Nat.reduceSub, Array.replicate_succ, Array.replicate_zero, List.push_toArray, List.append_toArray, List.nil_append, List.cons_append]
  gi_wp2_with (refine ⟨trivial, ?_⟩; gi_at_call 45; refine (callsIn_wide.2 (SS.out _)).mono ?_; rintro r w' ⟨rfl, rfl⟩)
  change Code.wpIn _ _ _ _ _ _ (RW w sb)
  obtain ⟨b0, b1, hrd, b3, b4, b5⟩ := rw_boxes w sb
  have hbw := rw_below w sb
  have hs5 := rw_size w sb
  generalize RW w sb = W5 at b0 b1 hrd b3 b4 b5 hbw hs5
  refine rangeFunc_of rfl (enters_of Tryz.func132 (by kernel_rfl) rfl) (fun r0 hr0 => ?_)
  refine (split_iter 9 (W5.heap.size + 1) (w.heap.size + 3) (w.heap.size + 4) (w.heap.size + 5) 32 (words (rd f e ds c u) t)
    (fun k W => St (w.heap.size + 8) W (w.heap.size + 2) f e ds c u t ((words (rd f e ds c u) t).drop k) ∧ Fr W5 W (w.heap.size + 2) (w.heap.size + 3) ∧ W.heap[W5.heap.size + 1]? = some (.loop r0))
    (fun _ _ => False) (by omega) (by omega) (by omega) ?hJs ?hY _ sb hsz HP.out ?hBox ?h0).mono ?post
  case hJs =>
    rintro k W v ⟨q1, q3, q4⟩
    exact ⟨q1.kept (grown_set W ⟨w.heap.size + 3, 0, none⟩ v) (show w.heap.size + 2 ≠ w.heap.size + 3 by omega) (show w.heap.size + 3 < _ by omega), q3.setS (by omega) v, (Below.heap_setCell _ _ _ _ (fun e => by have e' : W5.heap.size + 1 = w.heap.size + 3 := e; omega)).trans q4⟩
  case hBox =>
    have hb := below_then (below_alloc W5 (.deferred (some []))) (below_alloc _ (.loop r0))
    exact ⟨(hb.block _ (by omega)).trans b3, (hb.block _ (by omega)).trans b4, (hb.block _ (by omega)).trans b5⟩
  case h0 =>
    exact ⟨.inl ⟨rd_step hrd (below_then (below_alloc _ _) (below_alloc _ _)), rfl⟩, Fr.start _ _ _ _, rec_start _ _⟩
  case hY =>
    rintro k hk W ⟨q1, q3, q4⟩
    have hl0 := (Array.getElem?_eq_some_iff.1 q4).1
    have fr1 := q3.put (.loop { r0 with state := .busy })
    have st1 := q1.kept (grownBy_putObj' W (W5.heap.size + 1) (.loop { r0 with state := .busy })) (show w.heap.size + 2 ≠ W5.heap.size + 1 by omega) (by omega)
    have bw1 : Below w.heap.size w (W.putObj (W5.heap.size + 1) (.loop { r0 with state := .busy })) :=
      ⟨fr1.os.trans hbw.os, fr1.tape.trans hbw.tape, fr1.output.trans hbw.output, by have h1 := fr1.size; omega, fun b hb => (fr1.block b (by omega) (by omega) (by omega)).trans (hbw.block b hb)⟩
    have TK := take_step HW.out HT.out h20 G.out bw1 (show w.heap.size ≤ w.heap.size + 2 by omega) (show w.heap.size + 2 < w.heap.size + 8 by omega) (by have h1 := fr1.size; omega) st1 (List.drop_eq_getElem_cons hk)
    have lrec : (W.putObj (W5.heap.size + 1) (.loop { r0 with state := .busy })).heap[W5.heap.size + 1]? = some (.loop { r0 with state := .busy }) := World.putObj_heap_same hl0
    have e3 : (W.putObj (W5.heap.size + 1) (.loop { r0 with state := .busy })).heap[w.heap.size + 3]? = W.heap[w.heap.size + 3]? := World.putObj_heap_other (by omega)
    have e4 : (W.putObj (W5.heap.size + 1) (.loop { r0 with state := .busy })).heap[w.heap.size + 4]? = W.heap[w.heap.size + 4]? := World.putObj_heap_other (by omega)
    have e5 : (W.putObj (W5.heap.size + 1) (.loop { r0 with state := .busy })).heap[w.heap.size + 5]? = W.heap[w.heap.size + 5]? := World.putObj_heap_other (by omega)
    change YieldAt _ _ _ _ #[.string (bs (words (rd f e ds c u) t)[k])] _ _
    generalize bs (words (rd f e ds c u) t)[k] = x at TK
    refine yieldAt_of hr0 ({ tmps := #[.string sb, undef, .pointer (some ⟨w.heap.size, 0, none⟩), .pointer (some ⟨w.heap.size + 1, 0, none⟩), .pointer (some ⟨w.heap.size + 1 + 1, 0, none⟩), .string x, undef, .pointer (some ⟨w.heap.size + 1 + 1, 0, none⟩), .pointer (some ⟨w.heap.size + 1 + 1, 4, none⟩), .string sb, .func (.func 132) #[] #[.pointer (some ⟨w.heap.size + 1 + 1 + 1 + 1, 0, none⟩), .pointer (some ⟨w.heap.size + 1 + 1 + 1, 0, none⟩), .pointer (some ⟨w.heap.size + 1 + 1 + 1 + 2, 0, none⟩)], .string x, undef, undef, undef, undef, undef, undef, undef, undef, undef, undef, undef, undef, undef, undef, undef, undef, undef, undef], defers := [] }) q4 rfl ?assign ?body
    case assign =>
      intro K hK
      gi_wp2
      exact hK
    case body =>
      generalize (W.putObj (W5.heap.size + 1) (.loop { r0 with state := .busy })) = Wb at fr1 st1 bw1 TK lrec e3 e4 e5
      have T : Hid (Calls Tryz.prog 46 #[.pointer (some ⟨w.heap.size + 2, 0, none⟩), .string x] Wb fun r w' => r = .returned (.bool true) ∧ (Wb.grownBy w' (some (w.heap.size + 2)) ∧ St (w.heap.size + 8) w' (w.heap.size + 2) f e ds c u t ((words (rd f e ds c u) t).drop (k + 1)))) := TK
      have FR : Hid (Fr W5 Wb (w.heap.size + 2) (w.heap.size + 3)) := fr1
      have L : Hid (_) := lrec
      have E3 : Hid (_) := e3
      have E4 : Hid (_) := e4
      have E5 : Hid (_) := e5
      clear fr1 st1 bw1 TK lrec e3 e4 e5 b0 b1 hrd b3 b4 b5 q1 q3 q4
      gi_wp2_with (refine ⟨trivial, ?_⟩; gi_at_call 46; refine (CallsIn.inRound (W5.heap.size + 1) (callsIn_wide.2 T.out)).mono ?_; rintro r w' ⟨rfl, hg, hst⟩)
      have hin : ∀ b, b < W5.heap.size + 2 → b ≠ w.heap.size + 2 → w'.heap[b]? = Wb.heap[b]? := fun b hb hne => hg.block b (by have := FR.out.size; omega) (fun e => hne (by cases e; rfl))
      have fr2 := FR.out.grown hg (by omega)
      have hl2 := (hin (W5.heap.size + 1) (by omega) (by omega)).trans L.out
      refine ⟨hl2, Or.inl ⟨rfl, ⟨hst.kept (grownBy_putObj' w' (W5.heap.size + 1) _) (show w.heap.size + 2 ≠ W5.heap.size + 1 by omega) (by omega), fr2.put _, ?_⟩, ?_, ?_, ?_⟩⟩
      · rw [hr0.again]; exact World.putObj_heap_same (Array.getElem?_eq_some_iff.1 hl2).1
      · exact (World.putObj_heap_other (by omega)).trans ((hin _ (by omega) (by omega)).trans E3.out)
      · exact (World.putObj_heap_other (by omega)).trans ((hin _ (by omega) (by omega)).trans E4.out)
      · exact (World.putObj_heap_other (by omega)).trans ((hin _ (by omega) (by omega)).trans E5.out)
  case post =>
    rintro e2 W2 ⟨hv, (⟨q1, q3, q4⟩ | ⟨k, hx⟩)⟩
    · refine ⟨hv, _, q4, by rw [hr0.state]; decide, .inl ⟨hr0.pending, ?_⟩⟩
      have fr3 := q3.put (.loop { r0 with state := .exhausted })
      have st3 := q1.kept (grownBy_putObj' W2 (W5.heap.size + 1) (.loop { r0 with state := .exhausted })) (show w.heap.size + 2 ≠ W5.heap.size + 1 by omega) (by omega)
      obtain ⟨sl, p, hp, r3, o3⟩ := st_end st3 (by rw [List.drop_length])
      have c0 := (fr3.block w.heap.size (by omega) (by omega) (by omega)).trans b0
      have c1 := (fr3.block (w.heap.size + 1) (by omega) (by omega) (by omega)).trans b1
      have bw3 : Below w.heap.size w (W2.putObj (W5.heap.size + 1) (.loop { r0 with state := .exhausted })) :=
        ⟨fr3.os.trans hbw.os, fr3.tape.trans hbw.tape, fr3.output.trans hbw.output, by have h1 := fr3.size; omega, fun b hb => (fr3.block b (by omega) (by omega) (by omega)).trans (hbw.block b hb)⟩
      generalize W2.putObj (W5.heap.size + 1) (.loop { r0 with state := .exhausted }) = W3 at fr3 st3 r3 o3 c0 c1 bw3
      have ME : Hid (_) := mayEnd_any (w.heap.size + 2) p W3 f e sl c u hp r3
      have CK : Hid (Calls Tryz.prog 11 #[.agg #[.string f, .int .i64 e, sl, .int .i64 c, .int .i64 u]] W3 fun r w' => r = .returned .nilIface ∧ Below W3.heap.size W3 w') := check_ok f e sl c u ds W3 (ow_days o3 h20) HW.out
      have FR : Hid (Fr W5 W3 (w.heap.size + 2) (w.heap.size + 3)) := fr3
      have O3 : Hid (Ow (w.heap.size + 8) W3 sl ds) := o3
      have R3 : Hid (_) := r3
      have B0 : Hid (_) := c0
      have B1 : Hid (_) := c1
      have BW : Hid (_) := bw3
      have hd5 : W3.heap[w.heap.size + 6]? = some (.deferred (some [])) := by rw [← hs5]; exact fr3.dfr
      have HD5 : Hid (_) := hd5
      obtain ⟨sa, scap, rfl, _, _, _⟩ := ow_days o3 h20
      obtain ⟨y0, y1, y2, y3, y4, y5⟩ := rd_cell r3
      clear q1 q3 q4 hd5 fr3 st3 r3 c0 c1 bw3 b0 b1 hrd b3 b4 b5 hp SS o3
      gi_wp2_with (first
        | (refine ⟨trivial, ?_⟩; gi_at_call 47; refine (callsIn_wide.2 (ME.out)).mono ?_; rintro r w' ⟨rfl, rfl⟩)
        | (refine ⟨trivial, ?_⟩; gi_at_call 11; refine (callsIn_wide.2 (CK.out)).mono ?_; rintro r w4 ⟨rfl, hb4⟩; obtain ⟨z0, z1, z2, z3, z4, z5⟩ := rd_cell (rd_step R3.out hb4); have k0 := (hb4.block _ (Array.getElem?_eq_some_iff.1 B0.out).1).trans B0.out; have k1 : Boxed w4 (w.heap.size + 1) 29 .nilIface := (hb4.block _ (Array.getElem?_eq_some_iff.1 B1.out).1).trans B1.out; obtain ⟨v0, v1, v2, v3, v4⟩ := blk5 k0; have t0 := blk5_frozen k0 0; have t1 := blk5_frozen k0 1; have t2 := blk5_frozen k0 2; have t3 := blk5_frozen k0 3; have t4 := blk5_frozen k0 4; have v5 := k1.cell; have t5 := k1.frozen; have K0 : Hid (_) := k0; have K1 : Hid (_) := k1; clear k0 k1))
      have m0 := set_block (i := 0) (.string f) K0.out
      have m1 := set_block (i := 1) (.int .i64 e) m0
      have m2 := set_block (i := 2) (.slice sa ds.length scap) m1
      have m3 := set_block (i := 3) (.int .i64 c) m2
      have m4 := set_block (i := 4) (.int .i64 u) m3
      have g4 : w4.grownBy (((((w4.setCell ⟨w.heap.size, 0, none⟩ (.string f)).setCell ⟨w.heap.size, 1, none⟩ (.int .i64 e)).setCell ⟨w.heap.size, 2, none⟩ (.slice sa ds.length scap)).setCell ⟨w.heap.size, 3, none⟩ (.int .i64 c)).setCell ⟨w.heap.size, 4, none⟩ (.int .i64 u)) (some w.heap.size) :=
        grown_then (grown_then (grown_then (grown_then (grown_set _ ⟨w.heap.size, 0, none⟩ _) (grown_set _ ⟨w.heap.size, 1, none⟩ _)) (grown_set _ ⟨w.heap.size, 2, none⟩ _)) (grown_set _ ⟨w.heap.size, 3, none⟩ _)) (grown_set _ ⟨w.heap.size, 4, none⟩ _)
      change _ = some (Obj.cells #[.string f, .int .i64 e, .slice sa ds.length scap, .int .i64 c, .int .i64 u] 24 (0, 0)) at m4
      clear m0 m1 m2 m3
      generalize ((((w4.setCell ⟨w.heap.size, 0, none⟩ (.string f)).setCell ⟨w.heap.size, 1, none⟩ (.int .i64 e)).setCell ⟨w.heap.size, 2, none⟩ (.slice sa ds.length scap)).setCell ⟨w.heap.size, 3, none⟩ (.int .i64 c)).setCell ⟨w.heap.size, 4, none⟩ (.int .i64 u) = w5 at m4 g4
      have hsz3 := FR.out.size
      have hsz4 := hb4.size
      have k5 : Boxed w5 (w.heap.size + 1) 29 .nilIface := Boxed.kept (show Boxed w4 (w.heap.size + 1) 29 .nilIface from K1.out) g4 (fun e => by have e' := Option.some.inj e; omega)
      have g5 := grown_set w5 ⟨w.heap.size + 1, 0, none⟩ Value.nilIface
      have k6 := k5.set .nilIface
      have m6 := (Below.heap_setCell w5 ⟨w.heap.size + 1, 0, none⟩ Value.nilIface w.heap.size (fun e => by have e' : w.heap.size = w.heap.size + 1 := e; omega)).trans m4
      have d6 := (g5.block (w.heap.size + 6) (by have := g4.size; omega) (fun e => by have e' : w.heap.size + 6 = w.heap.size + 1 := Option.some.inj e; omega)).trans ((g4.block (w.heap.size + 6) (by omega) (fun e => by have e' : w.heap.size + 6 = w.heap.size := Option.some.inj e; omega)).trans ((hb4.block (w.heap.size + 6) (by omega)).trans HD5.out))
      have o6 : Ow (w.heap.size + 8) (w5.setCell ⟨w.heap.size + 1, 0, none⟩ .nilIface) (.slice sa ds.length scap) ds := Ow.grown (Ow.grown (own_step O3.out hb4) g4 (by omega)) g5 (by show w.heap.size + 1 < _; omega)
      have bw6 : Below w.heap.size w (w5.setCell ⟨w.heap.size + 1, 0, none⟩ .nilIface) :=
        ((BW.out.trans (hb4.mono (by omega))).grown g4 (by omega) (fun k e => by cases e; omega)).grown g5 (by have := g4.size; omega) (fun k e => by cases e; show w.heap.size ≤ w.heap.size + 1; omega)
      generalize w5.setCell ⟨w.heap.size + 1, 0, none⟩ Value.nilIface = w6 at k6 m6 d6 o6 bw6
      refine ⟨by simp, .inl ⟨_, _, rfl, run_takeDeferred d6, ?_⟩⟩
      have m7 : (w6.putObj (w.heap.size + 6) (.deferred none)).heap[w.heap.size]? = _ := (World.putObj_heap_other (by omega)).trans m6
      have k7 : Boxed (w6.putObj (w.heap.size + 6) (.deferred none)) (w.heap.size + 1) 29 .nilIface := (World.putObj_heap_other (by omega)).trans k6
      obtain ⟨c0, c1, c2, c3, c4⟩ := blk5 m7
      have c5 := k7.cell
      refine ⟨.tuple #[.agg #[.string f, .int .i64 e, .slice sa ds.length scap, .int .i64 c, .int .i64 u], .nilIface], ?_, _, rfl, own_base (Ow.grown o6 (grownBy_putObj' w6 (w.heap.size + 6) _) (by omega)) (by omega), bw6.grown (grownBy_putObj' w6 (w.heap.size + 6) _) bw6.size (fun k e => by cases e; omega)⟩
      simp [results, Tryz.f12, go_sem, c0, c1, c2, c3, c4, c5]
    · exact hx.elim
end Go.Proofs.YtpdcjnkgkpbdgaaGreatDoor
