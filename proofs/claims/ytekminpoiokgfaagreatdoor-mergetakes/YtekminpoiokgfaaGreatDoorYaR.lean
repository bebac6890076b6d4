/- Contracts of takePart and take at the words of a rule that is well. -/
import Derived.Test.YtekminpoiokgfaaGreatDoorRuleDW
namespace Go.Proofs.YtekminpoiokgfaaGreatDoor
open Go.RowKit Cal

theorem part_count (B : Nat) (w : World) (f : ByteArray) (e : Int) (sl : Value) (c u p : Int) (hp : p < 4) (h : Rd w B f e sl c u p) :
    Calls Tryz.prog 168 #[.pointer (some ⟨B, 0, none⟩), .string ⟨#[99, 111, 117, 110, 116]⟩] w fun r w' => r = .returned (.bool true) ∧ w.grownBy w' (some B) ∧ Rd w' B f e sl c u 4 := by
  have H : Hid (Rd w B f e sl c u p) := h
  obtain ⟨x0, x1, x2, x3, x4, x5⟩ := rd_cell h
  have z5 := rd_frozen h 5
  clear h
  go_enter Tryz.func168, Tryz.ntmps168
  go_wp2
  go_ret
  exact ⟨rfl, grown_set _ ⟨B, 5, none⟩ _, rd_set5 H.out 4⟩
theorem part_until (B : Nat) (w : World) (f : ByteArray) (e : Int) (sl : Value) (c u p : Int) (hp : p < 6) (h : Rd w B f e sl c u p) :
    Calls Tryz.prog 168 #[.pointer (some ⟨B, 0, none⟩), .string ⟨#[117, 110, 116, 105, 108]⟩] w fun r w' => r = .returned (.bool true) ∧ w.grownBy w' (some B) ∧ Rd w' B f e sl c u 6 := by
  have H : Hid (Rd w B f e sl c u p) := h
  obtain ⟨x0, x1, x2, x3, x4, x5⟩ := rd_cell h
  have z5 := rd_frozen h 5
  clear h
  go_enter Tryz.func168, Tryz.ntmps168
  go_wp2
  go_ret
  exact ⟨rfl, grown_set _ ⟨B, 5, none⟩ _, rd_set5 H.out 6⟩
theorem part_days (B : Nat) (ds : List Int) (w0 w : World) (f : ByteArray) (e : Int) (c u : Int) (g : GlobR w0) (hb0 : Below w0.heap.size w0 w) (hB : w0.heap.size ≤ B) (h0 : ds ≠ []) (hD : bD ds) (h20 : ds.length ≤ 20)
    (h : Rd w B f e (.slice none 0 0) c u 2) :
    Calls Tryz.prog 168 #[.pointer (some ⟨B, 0, none⟩), .string (bs (Lib.join (ds.map nm) [44]))] w fun r w' => r = .returned (.bool true) ∧ w.grownBy w' (some B) ∧
      ∃ sl, Rd w' B f e sl c u 3 ∧ w'.ownsRow w.heap.size 3 1 sl ds.length (ds.map (Value.int .i64)) := by
  have C : Hid (_) := takeDays_any B ds w0 w f e c u 2 g hb0 hB h0 hD h20 h
  have n1 : ((bs (Lib.join (ds.map nm) [44])).toList == [99, 111, 117, 110, 116]) = false := by
    rw [beq_eq_false_iff_ne, ByteArray.toList_eq]; exact days_ne_count h0
  have n2 : ((bs (Lib.join (ds.map nm) [44])).toList == [117, 110, 116, 105, 108]) = false := by
    rw [beq_eq_false_iff_ne, ByteArray.toList_eq]; exact days_ne_until h0
  generalize bs (Lib.join (ds.map nm) [44]) = sb at C n1 n2
  have CC : Hid (Calls Tryz.prog 190 #[.pointer (some ⟨B, 0, none⟩), .string sb] w fun r w' => r = .returned (.bool true) ∧ w.grownBy w' (some B) ∧
      ∃ sl, Rd w' B f e sl c u 3 ∧ w'.ownsRow w.heap.size 3 1 sl ds.length (ds.map (Value.int .i64))) := C.out
  obtain ⟨x0, x1, x2, x3, x4, x5⟩ := rd_cell h
  clear C h g hb0 hD
  go_enter Tryz.func168, Tryz.ntmps168
  go_wp2_with (go_at_call 190; refine Calls.mono CC.out ?_; rintro r w' ⟨rfl, hg1, hg2⟩)
  go_ret
  exact ⟨rfl, hg1, hg2⟩

theorem take_freq (B : Nat) (x : ByteArray) (sl : Value) (w : World) (hx : isF x = true) (h : Rd w B ⟨#[]⟩ 0 sl 0 (-1) 0) :
    Calls Tryz.prog 146 #[.pointer (some ⟨B, 0, none⟩), .string x] w fun r w' => r = .returned (.bool true) ∧ w.grownBy w' (some B) ∧
      ((x.toList == [111, 110, 99, 101]) = true → Rd w' B x 1 sl 0 (-1) 7) ∧ ((x.toList == [111, 110, 99, 101]) = false → Rd w' B x 0 sl 0 (-1) 1) := by
  have C : Hid (_) := takeFreq_any B x sl w hx h
  obtain ⟨x0, x1, x2, x3, x4, x5⟩ := rd_cell h
  clear h hx
  go_enter Tryz.func146, Tryz.ntmps146
  go_wp2_with (go_at_call 165; refine Calls.mono C.out ?_; rintro r w' ⟨rfl, h1, h2, h3⟩)
  go_ret
  exact ⟨rfl, h1, h2, h3⟩
theorem take_every (B : Nat) (m : Int) (w : World) (f : ByteArray) (e : Int) (sl : Value) (c u : Int) (h0 : 0 ≤ m) (h1 : m ≤ 100000) (ht : Tab w) (h : Rd w B f e sl c u 1) :
    Calls Tryz.prog 146 #[.pointer (some ⟨B, 0, none⟩), .string (bs (Lib.itoa m))] w fun r w' => r = .returned (.bool true) ∧ w.grownBy w' (some B) ∧ Rd w' B f m sl c u 2 := by
  have C := takeNumber_any B m 2 1 w f e sl c u 1 h0 h1 (Or.inl rfl) ht h
  generalize bs (Lib.itoa m) = sb at C
  have CC : Hid (Calls Tryz.prog 166 #[.pointer (some ⟨B, 0, none⟩), .string sb, .pointer (some ⟨B, 1, none⟩), .int .i64 2] w fun r w' => r = .returned (.bool true) ∧ w.grownBy w' (some B) ∧ Rd w' B f m sl c u 2) := by
    refine C.mono ?_; rintro r w' ⟨a, b, c1, _⟩; exact ⟨a, b, c1 rfl⟩
  obtain ⟨x0, x1, x2, x3, x4, x5⟩ := rd_cell h
  clear h C ht
  go_enter Tryz.func146, Tryz.ntmps146
  go_wp2_with (go_at_call 166; refine Calls.mono CC.out ?_; rintro r w' ⟨rfl, h1, h2⟩)
  go_ret
  exact ⟨rfl, h1, h2⟩
theorem take_count (B : Nat) (m : Int) (w : World) (f : ByteArray) (e : Int) (sl : Value) (c u : Int) (h0 : 0 < m) (h1 : m ≤ 100000) (ht : Tab w) (h : Rd w B f e sl c u 4) :
    Calls Tryz.prog 146 #[.pointer (some ⟨B, 0, none⟩), .string (bs (Lib.itoa m))] w fun r w' => r = .returned (.bool true) ∧ w.grownBy w' (some B) ∧ Rd w' B f e sl m u 5 := by
  have C := takeNumber_any B m 5 3 w f e sl c u 4 (by omega) h1 (Or.inr rfl) ht h
  generalize bs (Lib.itoa m) = sb at C
  have CC : Hid (Calls Tryz.prog 166 #[.pointer (some ⟨B, 0, none⟩), .string sb, .pointer (some ⟨B, 3, none⟩), .int .i64 5] w fun r w' => r = .returned (.bool true) ∧ w.grownBy w' (some B) ∧ Rd w' B f e sl m u 5) := by
    refine C.mono ?_; rintro r w' ⟨a, b, _, c1⟩; exact ⟨a, b, c1 rfl⟩
  obtain ⟨x0, x1, x2, x3, x4, x5⟩ := rd_cell h
  clear h C ht
  go_enter Tryz.func146, Tryz.ntmps146
  go_wp2_with (go_at_call 166; refine Calls.mono CC.out ?_; rintro r w' ⟨rfl, h1, h2⟩; have y3 := (rd_cell h2).2.2.2.1)
  go_ret
  exact ⟨rfl, h1, h2⟩
theorem take_until (B : Nat) (n y m d : Int) (w : World) (f : ByteArray) (e : Int) (sl : Value) (c u : Int) (hv : vld y m d) (hn : num y m d = n) (g : GlobR w) (h : Rd w B f e sl c u 6) :
    Calls Tryz.prog 146 #[.pointer (some ⟨B, 0, none⟩), .string (bs (txt y m d))] w fun r w' => r = .returned (.bool true) ∧ w.grownBy w' (some B) ∧ Rd w' B f e sl c n 7 := by
  have C := takeUntil_any B n y m d w f e sl c u 6 hv hn g h
  generalize bs (txt y m d) = sb at C
  have CC : Hid (_) := C
  obtain ⟨x0, x1, x2, x3, x4, x5⟩ := rd_cell h
  clear h C g
  go_enter Tryz.func146, Tryz.ntmps146
  go_wp2_with (go_at_call 167; refine Calls.mono CC.out ?_; rintro r w' ⟨rfl, h1, h2⟩)
  go_ret
  exact ⟨rfl, h1, h2⟩
/-- the other places: the word goes to takePart -/
theorem take_part (B : Nat) (x : ByteArray) (w : World) (f : ByteArray) (e : Int) (sl : Value) (c u p : Int) (R : World → Prop) (hp : p = 2 ∨ p = 3 ∨ p = 5) (h : Rd w B f e sl c u p)
    (C : Calls Tryz.prog 168 #[.pointer (some ⟨B, 0, none⟩), .string x] w fun r w' => r = .returned (.bool true) ∧ R w') :
    Calls Tryz.prog 146 #[.pointer (some ⟨B, 0, none⟩), .string x] w fun r w' => r = .returned (.bool true) ∧ R w' := by
  have CC : Hid (_) := C
  obtain ⟨x0, x1, x2, x3, x4, x5⟩ := rd_cell h
  clear h C
  rcases hp with rfl | rfl | rfl
  all_goals
    go_enter Tryz.func146, Tryz.ntmps146
    go_wp2_with (go_at_call 168; refine Calls.mono CC.out ?_; rintro r w' ⟨rfl, h1⟩)
    go_ret
    exact ⟨rfl, h1⟩
end Go.Proofs.YtekminpoiokgfaaGreatDoor

/- The reader word by word: each word of a rule that is well leads on. -/
namespace Go.Proofs.YtekminpoiokgfaaGreatDoor
open Go.RowKit Cal

theorem bs_toList (f : ByteArray) : bs f.toList = f := ba_ext (by rw [bs_data, ByteArray.toList_eq])
/-- where the reader stands -/
def St (base : Nat) (W : World) (B : Nat) (f : ByteArray) (e : Int) (ds : List Int) (c u : Int) (t : List UInt8) (l : List (List UInt8)) : Prop :=
  (Rd W B ⟨#[]⟩ 0 (.slice none 0 0) 0 (-1) 0 ∧ l = words (rd f e ds c u) t) ∨
  (Rd W B f 0 (.slice none 0 0) 0 (-1) 1 ∧ l = Lib.itoa e :: (wDays (rd f e ds c u) ++ (wCount (rd f e ds c u) ++ wUntil (rd f e ds c u) t))) ∨
  (Rd W B f e (.slice none 0 0) 0 (-1) 2 ∧ l = wDays (rd f e ds c u) ++ (wCount (rd f e ds c u) ++ wUntil (rd f e ds c u) t)) ∨
  (∃ sl p, (p = 2 ∨ p = 3) ∧ Rd W B f e sl 0 (-1) p ∧ Ow base W sl ds ∧ l = wCount (rd f e ds c u) ++ wUntil (rd f e ds c u) t) ∨
  (∃ sl, Rd W B f e sl 0 (-1) 4 ∧ Ow base W sl ds ∧ c ≠ 0 ∧ l = Lib.itoa c :: wUntil (rd f e ds c u) t) ∨
  (∃ sl p, (p = 2 ∨ p = 3 ∨ p = 5) ∧ Rd W B f e sl c (-1) p ∧ Ow base W sl ds ∧ l = wUntil (rd f e ds c u) t) ∨
  (∃ sl, Rd W B f e sl c (-1) 6 ∧ Ow base W sl ds ∧ u ≠ -1 ∧ l = [t]) ∨
  (∃ sl, Rd W B f e sl c u 7 ∧ Ow base W sl ds ∧ l = [])

section
variable {base : Nat} {w0 W : World} {B : Nat} {f : ByteArray} {e : Int} {ds : List Int} {c u : Int} {t : List UInt8}

theorem St.s1 (h : Rd W B f 0 (.slice none 0 0) 0 (-1) 1) : St base W B f e ds c u t (Lib.itoa e :: (wDays (rd f e ds c u) ++ (wCount (rd f e ds c u) ++ wUntil (rd f e ds c u) t))) := .inr (.inl ⟨h, rfl⟩)
theorem St.s2 (h : Rd W B f e (.slice none 0 0) 0 (-1) 2) : St base W B f e ds c u t (wDays (rd f e ds c u) ++ (wCount (rd f e ds c u) ++ wUntil (rd f e ds c u) t)) := .inr (.inr (.inl ⟨h, rfl⟩))
theorem St.s3 (sl : Value) (p : Int) (hp : p = 2 ∨ p = 3) (h : Rd W B f e sl 0 (-1) p) (ho : Ow base W sl ds) : St base W B f e ds c u t (wCount (rd f e ds c u) ++ wUntil (rd f e ds c u) t) := .inr (.inr (.inr (.inl ⟨sl, p, hp, h, ho, rfl⟩)))
theorem St.s4 (sl : Value) (h : Rd W B f e sl 0 (-1) 4) (ho : Ow base W sl ds) (hc : c ≠ 0) : St base W B f e ds c u t (Lib.itoa c :: wUntil (rd f e ds c u) t) := .inr (.inr (.inr (.inr (.inl ⟨sl, h, ho, hc, rfl⟩))))
theorem St.s5 (sl : Value) (p : Int) (hp : p = 2 ∨ p = 3 ∨ p = 5) (h : Rd W B f e sl c (-1) p) (ho : Ow base W sl ds) : St base W B f e ds c u t (wUntil (rd f e ds c u) t) := .inr (.inr (.inr (.inr (.inr (.inl ⟨sl, p, hp, h, ho, rfl⟩)))))
theorem St.s6 (sl : Value) (h : Rd W B f e sl c (-1) 6) (ho : Ow base W sl ds) (hu : u ≠ -1) : St base W B f e ds c u t [t] := .inr (.inr (.inr (.inr (.inr (.inr (.inl ⟨sl, h, ho, hu, rfl⟩))))))
theorem St.s7 (sl : Value) (h : Rd W B f e sl c u 7) (ho : Ow base W sl ds) : St base W B f e ds c u t [] := .inr (.inr (.inr (.inr (.inr (.inr (.inr ⟨sl, h, ho, rfl⟩))))))

theorem count_nil (h : c = 0) : wCount (rd f e ds c u) = [] := by unfold wCount; rw [if_pos (show (rd f e ds c u).count = 0 from h)]
theorem count_some (h : c ≠ 0) : wCount (rd f e ds c u) = [countW, Lib.itoa c] := by unfold wCount; rw [if_neg (show ¬ (rd f e ds c u).count = 0 from h)]; rfl
theorem until_nil (h : u = -1) : wUntil (rd f e ds c u) t = [] := by unfold wUntil; rw [if_pos (show (rd f e ds c u).til = -1 from h)]
theorem until_some (h : u ≠ -1) : wUntil (rd f e ds c u) t = [untilW, t] := by unfold wUntil; rw [if_neg (show ¬ (rd f e ds c u).til = -1 from h)]
theorem days_nil (h : ds = []) : wDays (rd f e ds c u) = [] := by unfold wDays; rw [if_pos (show (rd f e ds c u).days = [] from h)]
theorem days_some (h : ds ≠ []) : wDays (rd f e ds c u) = [Lib.join (ds.map nm) [44]] := by unfold wDays; rw [if_neg (show ¬ (rd f e ds c u).days = [] from h)]; rfl

theorem step5 {x : List UInt8} {rest : List (List UInt8)} (hB : B < base) {sl : Value} {p : Int} (hp : p = 2 ∨ p = 3 ∨ p = 5) (hr : Rd W B f e sl c (-1) p) (ho : Ow base W sl ds) (hx : wUntil (rd f e ds c u) t = x :: rest) :
    Calls Tryz.prog 146 #[.pointer (some ⟨B, 0, none⟩), .string (bs x)] W fun r w' => r = .returned (.bool true) ∧ (W.grownBy w' (some B) ∧ St base w' B f e ds c u t rest) := by
  by_cases hu : u = -1
  · rw [until_nil hu] at hx; cases hx
  · rw [until_some hu] at hx
    injection hx with h1 h2
    subst h1 h2
    refine take_part B _ W f e sl c (-1) p _ hp hr ?_
    refine (part_until B W f e sl c (-1) p (by omega) hr).mono ?_
    rintro r w' ⟨rfl, hg, h⟩
    exact ⟨rfl, hg, St.s6 sl h (ho.grown hg hB) hu⟩
theorem step3 {x : List UInt8} {rest : List (List UInt8)} (hB : B < base) {sl : Value} {p : Int} (hp : p = 2 ∨ p = 3) (hr : Rd W B f e sl 0 (-1) p) (ho : Ow base W sl ds) (hx : wCount (rd f e ds c u) ++ wUntil (rd f e ds c u) t = x :: rest) :
    Calls Tryz.prog 146 #[.pointer (some ⟨B, 0, none⟩), .string (bs x)] W fun r w' => r = .returned (.bool true) ∧ (W.grownBy w' (some B) ∧ St base w' B f e ds c u t rest) := by
  by_cases hc : c = 0
  · rw [count_nil hc, List.nil_append] at hx
    refine step5 hB (p := p) (by omega) (by rw [hc]; exact hr) ho hx
  · rw [count_some hc] at hx
    injection hx with h1 h2
    subst h1
    have h2' : Lib.itoa c :: wUntil (rd f e ds c u) t = rest := h2
    subst h2'
    refine take_part B _ W f e sl 0 (-1) p _ (by omega) hr ?_
    refine (part_count B W f e sl 0 (-1) p (by omega) hr).mono ?_
    rintro r w' ⟨rfl, hg, h⟩
    exact ⟨rfl, hg, St.s4 sl h (ho.grown hg hB) hc⟩

theorem take_step {x : List UInt8} {rest l : List (List UInt8)} (hw : Well (rd f e ds c u)) (ht : UT (rd f e ds c u) t) (h20 : ds.length ≤ 20) (g : GlobR w0) (hb0 : Below w0.heap.size w0 W) (hB0 : w0.heap.size ≤ B) (hB : B < base) (hbs : base ≤ W.heap.size)
    (h : St base W B f e ds c u t l) (hl : l = x :: rest) :
    Calls Tryz.prog 146 #[.pointer (some ⟨B, 0, none⟩), .string (bs x)] W fun r w' => r = .returned (.bool true) ∧ (W.grownBy w' (some B) ∧ St base w' B f e ds c u t rest) := by
  have gW := g.step hb0
  rcases h with ⟨hr, el⟩ | ⟨hr, el⟩ | ⟨hr, el⟩ | ⟨sl, p, hp, hr, ho, el⟩ | ⟨sl, hr, ho, hc, el⟩ | ⟨sl, p, hp, hr, ho, el⟩ | ⟨sl, hr, ho, hu, el⟩ | ⟨sl, hr, ho, el⟩
  all_goals rw [el] at hl
  · have hF := (of_well hw).1
    unfold words at hl
    by_cases ho : (rd f e ds c u).freq = onceW
    · rw [if_pos ho] at hl
      injection hl with h1 h2
      subst h1 h2
      have hon := hw.on ho
      have hdn := hw.wk (by rw [ho]; decide)
      have hf : bs onceW = f := by rw [← ho]; exact bs_toList f
      rw [hf]
      refine (take_freq B f _ W hF hr).mono ?_
      rintro r w' ⟨rfl, hg, h7, _⟩
      have hd : ds = [] := hdn
      have h1 : e = 1 := hon.1
      have h2 : c = 0 := hon.2.1
      have h3 : u = -1 := hon.2.2
      subst hd h1 h2 h3
      exact ⟨rfl, hg, St.s7 _ (h7 (by rw [beq_iff_eq]; exact ho)) (Ow.nil _ _)⟩
    · rw [if_neg ho] at hl
      injection hl with h1 h2
      subst h1 h2
      have hf : bs (rd f e ds c u).freq = f := bs_toList f
      rw [hf]
      refine (take_freq B f _ W hF hr).mono ?_
      rintro r w' ⟨rfl, hg, _, h1⟩
      exact ⟨rfl, hg, St.s1 (h1 (by rw [beq_eq_false_iff_ne]; exact ho))⟩
  · injection hl with h1 h2
    subst h1 h2
    have he : 1 ≤ e ∧ e ≤ 100 := hw.ev
    refine (take_every B e W f 0 _ 0 (-1) (by omega) (by omega) gW.tab hr).mono ?_
    rintro r w' ⟨rfl, hg, h⟩
    exact ⟨rfl, hg, St.s2 h⟩
  · by_cases hd : ds = []
    · rw [days_nil hd, List.nil_append] at hl
      refine step3 hB (p := 2) (Or.inl rfl) hr (by rw [hd]; exact Ow.nil _ _) hl
    · rw [days_some hd, List.singleton_append] at hl
      injection hl with h1 h2
      subst h1 h2
      refine take_part B _ W f e _ 0 (-1) 2 _ (Or.inl rfl) hr ?_
      refine (part_days B ds w0 W f e 0 (-1) g hb0 hB0 hd hw.ds h20 hr).mono ?_
      rintro r w' ⟨rfl, hg, sl, h1, h2⟩
      exact ⟨rfl, hg, St.s3 sl 3 (Or.inr rfl) h1 (own_base h2 hbs)⟩
  · exact step3 hB hp hr ho hl
  · injection hl with h1 h2
    subst h1 h2
    have hcc : 0 ≤ c ∧ c ≤ 1000 := hw.co
    refine (take_count B c W f e sl 0 (-1) (by omega) (by omega) gW.tab hr).mono ?_
    rintro r w' ⟨rfl, hg, h⟩
    exact ⟨rfl, hg, St.s5 sl 5 (by omega) h (ho.grown hg hB)⟩
  · exact step5 hB hp hr ho hl
  · injection hl with h1 h2
    subst h1 h2
    rcases ht with ⟨e1, _⟩ | ⟨_, y, m, d, hv, hn, rfl⟩
    · exact absurd e1 hu
    · refine (take_until B u y m d W f e sl c (-1) hv hn gW hr).mono ?_
      rintro r w' ⟨rfl, hg, h⟩
      exact ⟨rfl, hg, St.s7 sl h (ho.grown hg hB)⟩
  · cases hl

theorem st_end {l : List (List UInt8)} (h : St base W B f e ds c u t l) (hl : l = []) : ∃ sl p, (p = 2 ∨ p = 3 ∨ p = 5 ∨ p = 7) ∧ Rd W B f e sl c u p ∧ Ow base W sl ds := by
  have until_e : wUntil (rd f e ds c u) t = [] → u = -1 := fun h => by
    by_cases hu : u = -1
    · exact hu
    · rw [until_some hu] at h; cases h
  have count_e : wCount (rd f e ds c u) = [] → c = 0 := fun h => by
    by_cases hu : c = 0
    · exact hu
    · rw [count_some hu] at h; cases h
  have days_e : wDays (rd f e ds c u) = [] → ds = [] := fun h => by
    by_cases hu : ds = []
    · exact hu
    · rw [days_some hu] at h; cases h
  rcases h with ⟨hr, el⟩ | ⟨hr, el⟩ | ⟨hr, el⟩ | ⟨sl, p, hp, hr, ho, el⟩ | ⟨sl, hr, ho, hc, el⟩ | ⟨sl, p, hp, hr, ho, el⟩ | ⟨sl, hr, ho, hu, el⟩ | ⟨sl, hr, ho, el⟩
  all_goals rw [el] at hl
  · exact absurd hl (words_ne _ _)
  · cases hl
  · obtain ⟨h1, h2⟩ := List.append_eq_nil_iff.1 hl
    obtain ⟨h2, h3⟩ := List.append_eq_nil_iff.1 h2
    have e1 := days_e h1
    have e2 := count_e h2
    have e3 := until_e h3
    subst e1 e2 e3
    exact ⟨_, 2, Or.inl rfl, hr, Ow.nil _ _⟩
  · obtain ⟨h2, h3⟩ := List.append_eq_nil_iff.1 hl
    have e2 := count_e h2
    have e3 := until_e h3
    subst e2 e3
    exact ⟨sl, p, by omega, hr, ho⟩
  · cases hl
  · have e3 := until_e hl
    subst e3
    exact ⟨sl, p, by omega, hr, ho⟩
  · cases hl
  · exact ⟨sl, 7, by omega, hr, ho⟩
end
end Go.Proofs.YtekminpoiokgfaaGreatDoor
