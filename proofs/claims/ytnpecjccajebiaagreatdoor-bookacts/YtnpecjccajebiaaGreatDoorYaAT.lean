/- Contracts of the document's own answer to days: MonthOf, MakeDay, DateOf, AddMonths: each returns what the plain mathematics (Cal) says. -/
import Derived.Test.YtnpecjccajebiaaGreatDoorYaAA
import Derived.Deep.RegionWith
import Derived.Test.YtnpecjccajebiaaGreatDoorYaAS
import Derived.Test.YtnpecjccajebiaaGreatDoorYaAR
import Derived.Test.YtnpecjccajebiaaGreatDoorYaAN
namespace Go.Proofs.YtnpecjccajebiaaGreatDoor
open Go.RowKit Cal

theorem in_yes (n a b : Int) (w : World) (h0 : a ≤ n) (h1 : n ≤ b) :
    Calls Tryz.prog 82 #[.int .i64 n, .int .i64 a, .int .i64 b] w fun e w' => e = .returned (.bool true) ∧ w' = w := by
  go_enter Tryz.func82, Tryz.ntmps82
  go_wp2
  go_ret
  exact ⟨rfl, rfl⟩
theorem in_no (n a b : Int) (w : World) (h : n < a ∨ b < n) :
    Calls Tryz.prog 82 #[.int .i64 n, .int .i64 a, .int .i64 b] w fun e w' => e = .returned (.bool false) ∧ w' = w := by
  by_cases h0 : n < a
  · clear h
    go_enter Tryz.func82, Tryz.ntmps82
    go_wp2
    go_ret
    exact ⟨rfl, rfl⟩
  · have h1 : b < n := by omega
    have h2 : a ≤ n := by omega
    clear h h0
    go_enter Tryz.func82, Tryz.ntmps82
    go_wp2
    go_ret
    exact ⟨ret_bool (by simp; omega), rfl⟩
theorem isDayR_yes (n : Int) (w : World) (h0 : 0 ≤ n) (h1 : n ≤ 73048) :
    Calls Tryz.prog 56 #[.int .i64 n] w fun e w' => e = .returned (.bool true) ∧ w' = w := by
  go_enter Tryz.func56, Tryz.ntmps56
  go_wp2_with (go_at_call 82; refine (in_yes _ _ _ _ h0 h1).mono ?_; rintro e w' ⟨rfl, rfl⟩)
  go_ret
  exact ⟨rfl, rfl⟩
theorem isDayR_no (n : Int) (w : World) (h : n < 0 ∨ 73048 < n) :
    Calls Tryz.prog 56 #[.int .i64 n] w fun e w' => e = .returned (.bool false) ∧ w' = w := by
  go_enter Tryz.func56, Tryz.ntmps56
  go_wp2_with (go_at_call 82; refine (in_no _ _ _ _ h).mono ?_; rintro e w' ⟨rfl, rfl⟩)
  go_ret
  exact ⟨rfl, rfl⟩

theorem monthOf_out (y m : Int) (w : World) (h : y < 2000 ∨ 2199 < y) :
    Calls Tryz.prog 245 #[.int .i64 y, .int .i64 m] w fun e w' => e = .returned (.int .i64 0) ∧ w' = w := by
  by_cases hm : m < 1 ∨ 12 < m
  · go_enter Tryz.func245, Tryz.ntmps245
    go_wp2_with (first
      | (go_at_call_of 82 (Value.int .i64 y); refine (in_no y _ _ _ h).mono ?_; rintro e w' ⟨rfl, rfl⟩)
      | (go_at_call_of 82 (Value.int .i64 m); refine (in_no m _ _ _ hm).mono ?_; rintro e w' ⟨rfl, rfl⟩))
    go_ret
    exact ⟨rfl, rfl⟩
  · go_enter Tryz.func245, Tryz.ntmps245
    go_wp2_with (first
      | (go_at_call_of 82 (Value.int .i64 y); refine (in_no y _ _ _ h).mono ?_; rintro e w' ⟨rfl, rfl⟩)
      | (go_at_call_of 82 (Value.int .i64 m); refine (in_yes m _ _ _ (by omega) (by omega)).mono ?_; rintro e w' ⟨rfl, rfl⟩))
    go_ret
    exact ⟨rfl, rfl⟩
theorem monthOf_none (y m : Int) (w : World) (h0 : 2000 ≤ y) (h1 : y ≤ 2199) (h : m < 1 ∨ 12 < m) :
    Calls Tryz.prog 245 #[.int .i64 y, .int .i64 m] w fun e w' => e = .returned (.int .i64 0) ∧ w' = w := by
  go_enter Tryz.func245, Tryz.ntmps245
  go_wp2_with (first
    | (go_at_call_of 82 (Value.int .i64 y); refine (in_yes y _ _ _ h0 h1).mono ?_; rintro e w' ⟨rfl, rfl⟩)
    | (go_at_call_of 82 (Value.int .i64 m); refine (in_no m _ _ _ h).mono ?_; rintro e w' ⟨rfl, rfl⟩))
  go_ret
  exact ⟨rfl, rfl⟩
theorem monthOf_feb (y : Int) (w : World) (h0 : 2000 ≤ y) (h1 : y ≤ 2199) :
    Calls Tryz.prog 245 #[.int .i64 y, .int .i64 2] w fun e w' => e = .returned (.int .i64 (28 + lp y)) ∧ w' = w := by
  have hy : Hid (2000 ≤ y ∧ y ≤ 2199) := ⟨h0, h1⟩
  rcases lp_eq y with ⟨hb, hl⟩ | ⟨hb, hl⟩
  · rw [hl]
    rw [lpB_iff] at hb
    by_cases c : y % 400 = 0
    · clear hb hl
      go_enter Tryz.func245, Tryz.ntmps245
      go_wp2_with (first
        | (go_at_call_of 82 (Value.int .i64 y); refine (in_yes y _ _ _ hy.out.1 hy.out.2).mono ?_; rintro e w' ⟨rfl, rfl⟩)
        | (go_at_call 82; refine (in_yes 2 _ _ _ (by omega) (by omega)).mono ?_; rintro e w' ⟨rfl, rfl⟩))
      go_ret
      exact ⟨rfl, rfl⟩
    · have c' : (y % 400 == 0) = false := by simpa using c
      have a' : (y % 4 == 0) = true := by simp; omega
      have b' : (y % 100 == 0) = false := by simp; omega
      clear hb hl c
      go_enter Tryz.func245, Tryz.ntmps245
      go_wp2_with (first
        | (go_at_call_of 82 (Value.int .i64 y); refine (in_yes y _ _ _ hy.out.1 hy.out.2).mono ?_; rintro e w' ⟨rfl, rfl⟩)
        | (go_at_call 82; refine (in_yes 2 _ _ _ (by omega) (by omega)).mono ?_; rintro e w' ⟨rfl, rfl⟩))
      go_ret
      exact ⟨rfl, rfl⟩
  · rw [hl]
    rw [← Bool.not_eq_true, lpB_iff] at hb
    have c' : (y % 400 == 0) = false := by simp; omega
    by_cases a : y % 4 = 0
    · have a' : (y % 4 == 0) = true := by simpa using a
      have b' : (y % 100 == 0) = true := by simp; omega
      clear hb hl a
      go_enter Tryz.func245, Tryz.ntmps245
      go_wp2_with (first
        | (go_at_call_of 82 (Value.int .i64 y); refine (in_yes y _ _ _ hy.out.1 hy.out.2).mono ?_; rintro e w' ⟨rfl, rfl⟩)
        | (go_at_call 82; refine (in_yes 2 _ _ _ (by omega) (by omega)).mono ?_; rintro e w' ⟨rfl, rfl⟩))
      go_ret
      exact ⟨rfl, rfl⟩
    · have a' : (y % 4 == 0) = false := by simpa using a
      clear hb hl a
      go_enter Tryz.func245, Tryz.ntmps245
      go_wp2_with (first
        | (go_at_call_of 82 (Value.int .i64 y); refine (in_yes y _ _ _ hy.out.1 hy.out.2).mono ?_; rintro e w' ⟨rfl, rfl⟩)
        | (go_at_call 82; refine (in_yes 2 _ _ _ (by omega) (by omega)).mono ?_; rintro e w' ⟨rfl, rfl⟩))
      go_ret
      exact ⟨rfl, rfl⟩
theorem monthOf_any (y m : Int) (w : World) :
    Calls Tryz.prog 245 #[.int .i64 y, .int .i64 m] w fun e w' => e = .returned (.int .i64 (dim y m)) ∧ w' = w := by
  by_cases hy : y < 2000 ∨ 2199 < y
  · rw [dim_out y m (by omega)]; exact monthOf_out y m w hy
  · by_cases hm : m < 1 ∨ 12 < m
    · rw [dim_out y m (by omega)]; exact monthOf_none y m w (by omega) (by omega) hm
    · have h0 : 2000 ≤ y := by omega
      have h1 : y ≤ 2199 := by omega
      by_cases h2 : m = 2
      · subst h2
        rw [dim_feb y h0 h1]; exact monthOf_feb y w h0 h1
      · by_cases h30 : m = 4 ∨ m = 6 ∨ m = 9 ∨ m = 11
        · rw [dim_30 y m h0 h1 h30]
          rcases h30 with h | h | h | h
          all_goals
            subst h
            clear hm hy h2
            go_enter Tryz.func245, Tryz.ntmps245
            go_wp2_with (first
              | (go_at_call_of 82 (Value.int .i64 y); refine (in_yes y _ _ _ h0 h1).mono ?_; rintro e w' ⟨rfl, rfl⟩)
              | (go_at_call 82; refine (in_yes _ _ _ _ (by omega) (by omega)).mono ?_; rintro e w' ⟨rfl, rfl⟩))
            go_ret
            exact ⟨rfl, rfl⟩
        · have h31 : m = 1 ∨ m = 3 ∨ m = 5 ∨ m = 7 ∨ m = 8 ∨ m = 10 ∨ m = 12 := by omega
          rw [dim_31 y m h0 h1 h31]
          clear h2 h30 hm hy
          rcases h31 with h | h | h | h | h | h | h
          all_goals
            subst h
            go_enter Tryz.func245, Tryz.ntmps245
            go_wp2_with (first
              | (go_at_call_of 82 (Value.int .i64 y); refine (in_yes y _ _ _ h0 h1).mono ?_; rintro e w' ⟨rfl, rfl⟩)
              | (go_at_call 82; refine (in_yes _ _ _ _ (by omega) (by omega)).mono ?_; rintro e w' ⟨rfl, rfl⟩))
            go_ret
            exact ⟨rfl, rfl⟩
end Go.Proofs.YtnpecjccajebiaaGreatDoor

/- A book as a calendar in plain words: New, Put, Drop, Get, IDs, On. -/
namespace Go.Proofs.YtnpecjccajebiaaGreatDoor
open Go Go.RowKit Go.Maps Go.Sort Cal

theorem ew_bd {E : EV} (h : EW E) : E.id.size ≤ 12 ∧ E.ti.size ≤ 40 ∧ E.sk.length ≤ 20 ∧ E.mv.length ≤ 20 := ⟨h.id.2.2, h.ti.2, (lk_of h.ls).1, (lk_of h.ls).2.1⟩
theorem OffI.step {N : Nat → Prop} {W W' : World} {v : Value} {xs : List Int} (h : OffI N W v xs) (hb : Below W.heap.size W W') : OffI N W' v xs := by
  obtain ⟨a, c, h1, h2, h3, h4⟩ := h
  refine ⟨a, c, h1, h2, h3, fun j hj => ?_⟩
  obtain ⟨b, e, hn, hl, hc⟩ := h4 j hj
  exact ⟨b, e, hn, Nat.lt_of_lt_of_le hl hb.size, cell_step hc hb⟩
theorem OffM.step {N : Nat → Prop} {W W' : World} {v : Value} {xs : List (Int × Int)} (h : OffM N W v xs) (hb : Below W.heap.size W W') : OffM N W' v xs := by
  obtain ⟨a, c, h1, h2, h3, h4⟩ := h
  refine ⟨a, c, h1, h2, h3, fun j hj => ?_⟩
  obtain ⟨b, e, hn, hl, hc, hd⟩ := h4 j hj
  exact ⟨b, e, hn, Nat.lt_of_lt_of_le hl hb.size, cell_step hc hb, cell_step hd hb⟩
theorem Off.step {N : Nat → Prop} {W W' : World} {E : EV} {sl skv mvv : Value} (h : Off N W E sl skv mvv) (hb : Below W.heap.size W W') : Off N W' E sl skv mvv := ⟨h.d.step hb, h.s.step hb, h.m.step hb⟩
theorem Off.ls {N : Nat → Prop} {W : World} {E : EV} {sl skv mvv : Value} (h : Off N W E sl skv mvv) (h20 : E.ds.length ≤ 20) : Ls W E sl skv mvv := ⟨ints_days h.d.ints h20, h.s.ints, h.m.movs⟩
theorem kept_cellM {w w' : World} {bb b o : Nat} {mo : Option Nat} {v : Value} (h : Kept w w' bb mo) (hc : w.cell? ⟨b, o, none⟩ = some v) (h1 : b ≠ bb) (h2 : some b ≠ mo) : w'.cell? ⟨b, o, none⟩ = some v :=
  (World.cell?_of_block (a := ⟨b, o, none⟩) (h.block b (lt_of_cell hc) h1 h2)).trans hc
theorem OffI.kept {N : Nat → Prop} {w w' : World} {bb : Nat} {mo : Option Nat} {v : Value} {xs : List Int} (h : OffI N w v xs) (hk : Kept w w' bb mo) (h1 : N bb) (h2 : ∀ b, some b = mo → N b) : OffI N w' v xs := by
  obtain ⟨a, c, q1, q2, q3, q4⟩ := h
  refine ⟨a, c, q1, q2, q3, fun j hj => ?_⟩
  obtain ⟨b, e, hn, hl, hc⟩ := q4 j hj
  exact ⟨b, e, hn, Nat.lt_of_lt_of_le hl hk.size, kept_cellM hk hc (fun q => hn (q ▸ h1)) (fun q => hn (h2 b q))⟩
theorem OffM.kept {N : Nat → Prop} {w w' : World} {bb : Nat} {mo : Option Nat} {v : Value} {xs : List (Int × Int)} (h : OffM N w v xs) (hk : Kept w w' bb mo) (h1 : N bb) (h2 : ∀ b, some b = mo → N b) : OffM N w' v xs := by
  obtain ⟨a, c, q1, q2, q3, q4⟩ := h
  refine ⟨a, c, q1, q2, q3, fun j hj => ?_⟩
  obtain ⟨b, e, hn, hl, hc, hd⟩ := q4 j hj
  exact ⟨b, e, hn, Nat.lt_of_lt_of_le hl hk.size, kept_cellM hk hc (fun q => hn (q ▸ h1)) (fun q => hn (h2 b q)), kept_cellM hk hd (fun q => hn (q ▸ h1)) (fun q => hn (h2 b q))⟩
theorem Off.kept {N : Nat → Prop} {w w' : World} {bb : Nat} {mo : Option Nat} {E : EV} {sl skv mvv : Value} (h : Off N w E sl skv mvv) (hk : Kept w w' bb mo) (h1 : N bb) (h2 : ∀ b, some b = mo → N b) : Off N w' E sl skv mvv := ⟨h.d.kept hk h1 h2, h.s.kept hk h1 h2, h.m.kept hk h1 h2⟩

/-- the blocks in which no event's list of a book lies -/
def NotIn (lo bb : Nat) (mo : Option Nat) (k : Nat) : Prop := k < lo ∨ k = bb ∨ some k = mo
/-- block bb is a book of the calendar C; all that is its own lies from block lo on; mo: its map -/
def BookAt (lo : Nat) (W : World) (bb : Nat) (mo : Option Nat) (n : Nat) (C : List EV) : Prop :=
  ∃ D, Bok W bb mo n D ∧ lo ≤ W.heap.size ∧ (∀ mb, mo = some mb → lo ≤ mb) ∧ Holds (NotIn lo bb mo) W D C
theorem Holds.step {N : Nat → Prop} {W W' : World} {D : DataW Value} {C : List EV} (h : Holds N W D C) (hb : Below W.heap.size W W') : Holds N W' D C :=
  ⟨h.up, h.tidy, h.size, h.has, fun E hE => by
    obtain ⟨q, sl, skv, mvv, h1, h2⟩ := h.at_ E hE
    exact ⟨q, sl, skv, mvv, h1, h2.step hb⟩⟩
theorem BookAt.step {lo : Nat} {W W' : World} {bb : Nat} {mo : Option Nat} {n : Nat} {C : List EV} (h : BookAt lo W bb mo n C) (hb : Below W.heap.size W W') : BookAt lo W' bb mo n C := by
  obtain ⟨D, h1, h2, h3, h4⟩ := h
  exact ⟨D, h1.step hb, Nat.le_trans h2 hb.size, h3, h4.step hb⟩
theorem BookAt.lt {lo : Nat} {W : World} {bb : Nat} {mo : Option Nat} {n : Nat} {C : List EV} (h : BookAt lo W bb mo n C) : bb < W.heap.size ∧ ∀ mb, mo = some mb → mb < W.heap.size := by
  obtain ⟨D, h1, h2, h3, h4⟩ := h
  refine ⟨(Array.getElem?_eq_some_iff.1 h1.1).1, fun mb e => ?_⟩
  subst e
  exact h1.2.2.lt
theorem BookAt.rises {lo : Nat} {W : World} {bb : Nat} {mo : Option Nat} {n : Nat} {C : List EV} (h : BookAt lo W bb mo n C) : Rises C ∧ ∀ E ∈ C, EW E := by
  obtain ⟨D, h1, h2, h3, h4⟩ := h
  exact ⟨h4.up, fun E hE => (h4.at_ E hE).1.1⟩
theorem bookAt_new (w : World) : Calls Tryz.prog 13 #[] w fun r w' => r = .returned (.pointer (some ⟨w.heap.size, 0, none⟩)) ∧ BookAt w.heap.size w' w.heap.size none 0 [] ∧ Below w.heap.size w w' :=
  Calls.mono (new_any w) (by
    rintro r w' ⟨rfl, h1, h2⟩
    exact ⟨rfl, ⟨_, h1, h2.size, (fun mb e => by cases e), Holds.none _ _⟩, h2⟩)

theorem BookAt.nil {lo : Nat} {W : World} {bb n : Nat} {C : List EV} (h : BookAt lo W bb none n C) : C = [] := by
  obtain ⟨D, h1, h2, h3, h4⟩ := h
  have hD : D = .map [] := h1.2
  subst hD
  exact List.length_eq_zero_iff.1 (by rw [← h4.size]; rfl)
theorem BookAt.lift {lo lo' : Nat} {W : World} {bb n : Nat} (h : BookAt lo W bb none n []) (hl : lo' ≤ W.heap.size) : BookAt lo' W bb none n [] := by
  obtain ⟨D, h1, h2, h3, h4⟩ := h
  have hD : D = .map [] := h1.2
  subst hD
  exact ⟨_, h1, hl, (fun mb e => by cases e), Holds.none _ _⟩
theorem BookAt.grown {lo : Nat} {W W' : World} {bb : Nat} {mo : Option Nat} {n B : Nat} {C : List EV} (h : BookAt lo W bb mo n C) (hg : W.grownBy W' (some B)) (hB : B < lo) (hne : B ≠ bb) : BookAt lo W' bb mo n C := by
  obtain ⟨D, h1, h2, h3, h4⟩ := h
  refine ⟨D, ⟨(hg.block bb (Array.getElem?_eq_some_iff.1 h1.1).1 (fun q => hne (Option.some.inj q).symm)).trans h1.1, ?_⟩, Nat.le_trans h2 hg.size, h3, h4.up, h4.tidy, h4.size, h4.has, fun E hE => ?_⟩
  · cases mo with
    | none => exact h1.2
    | some mb => exact ⟨h1.2.1, h1.2.2.kept hg (fun q => by have := Option.some.inj q; have := h3 mb rfl; omega)⟩
  · obtain ⟨q, sl, skv, mvv, q1, q2⟩ := h4.at_ E hE
    exact ⟨q, sl, skv, mvv, q1, q2.grown (.inl hB) hg⟩

theorem key_ne {a b : ByteArray} (h : a ≠ b) : key a ≠ key b := fun q => h (id_eq (by unfold key at q; exact Lit.string.inj q))
theorem key_lit (a : ByteArray) : WideAt.IsKeyLit (key a) := trivial
theorem Holds.hasE {N : Nat → Prop} {W : World} {D : DataW Value} {C : List EV} (h : Holds N W D C) (id : ByteArray) : Maps.has D (key id) = true ↔ ∃ E ∈ C, E.id = id := by
  unfold key
  rw [h.has]
  constructor
  · rintro ⟨E, hE, q⟩; exact ⟨E, hE, id_eq q⟩
  · rintro ⟨E, hE, q⟩; exact ⟨E, hE, by unfold kb; rw [q]⟩
theorem tidy_map {D : DataW Value} (h : Tidy D) : IsMap D := by
  obtain ⟨es, q, _⟩ := h
  exact ⟨es, q⟩
/-- what a book holds behind an event that is kept -/
theorem Holds.put {N N' : Nat → Prop} {W W' : World} {D : DataW Value} {C : List EV} (h : Holds N W D C) {E : EV} {sl skv mvv : Value} (hw : EW E) (h20 : E.ds.length ≤ 20) (ho : Off N' W' E sl skv mvv)
    (hold : ∀ F ∈ C, F.id ≠ E.id → ∀ sl skv mvv, Off N W F sl skv mvv → Off N' W' F sl skv mvv) : Holds N' W' (D.put (key E.id) (.held (ev E sl skv mvv))) (putC E C) := by
  refine ⟨putC_rises h.up, h.tidy.put (key_lit _) _, ?_, fun x => ?_, fun F hF => ?_⟩
  · rw [size_put h.tidy]
    by_cases hx : ∃ F ∈ C, F.id = E.id
    · rw [if_pos ((h.hasE E.id).2 hx), h.size]
      obtain ⟨F, hF, e⟩ := hx
      unfold putC
      rw [insE_len, ← e, woC_len h.up hF]
    · rw [if_neg (fun q => hx ((h.hasE E.id).1 q)), h.size]
      unfold putC
      rw [insE_len, woC_same (fun F hF q => hx ⟨F, hF, q⟩)]
  · by_cases hx : kb E = x
    · subst hx
      exact ⟨fun _ => ⟨E, putC_mem.2 (.inl rfl), rfl⟩, fun _ => has_put_same (tidy_map h.tidy) (key_lit E.id) _⟩
    · rw [has_put_other (show Lit.string x ≠ key E.id from fun q => hx (Lit.string.inj q).symm), h.has]
      constructor
      · rintro ⟨F, hF, rfl⟩
        exact ⟨F, putC_mem.2 (.inr ⟨hF, fun q => hx (by unfold kb; rw [q])⟩), rfl⟩
      · rintro ⟨F, hF, rfl⟩
        rcases putC_mem.1 hF with rfl | ⟨hF', _⟩
        · exact absurd rfl hx
        · exact ⟨F, hF', rfl⟩
  · rcases putC_mem.1 hF with rfl | ⟨hF', hne⟩
    · exact ⟨⟨hw, h20⟩, sl, skv, mvv, atKey_put_same (tidy_map h.tidy) (key_lit _) _ _, ho⟩
    · obtain ⟨q, sl1, skv1, mvv1, q1, q2⟩ := h.at_ F hF'
      exact ⟨q, sl1, skv1, mvv1, by rw [atKey_put_other (key_ne hne)]; exact q1, hold F hF' hne _ _ _ q2⟩
/-- what it holds behind one that is dropped -/
theorem Holds.del {N : Nat → Prop} {W W' : World} {D : DataW Value} {C : List EV} (h : Holds N W D C) (id : ByteArray) (hold : ∀ F ∈ C, ∀ sl skv mvv, Off N W F sl skv mvv → Off N W' F sl skv mvv) (hx : ∃ F ∈ C, F.id = id) : Holds N W' (D.del (key id)) (woC id C) := by
  refine ⟨woC_rises h.up, h.tidy.del _, ?_, fun x => ?_, fun F hF => ?_⟩
  · have hs := size_del (k := key id) h.tidy
    rw [if_pos ((h.hasE id).2 hx), h.size] at hs
    obtain ⟨F, hF, e⟩ := hx
    have := woC_len h.up hF
    rw [e] at this
    omega
  · by_cases hq : id.data.toList = x
    · subst hq
      constructor
      · intro q
        rw [show Lit.string id.data.toList = key id from rfl, has_del_same] at q
        cases q
      · rintro ⟨F, hF, e⟩
        exact absurd (id_eq e) (woC_mem.1 hF).2
    · rw [has_del_other (show Lit.string x ≠ key id from fun q => hq (Lit.string.inj q).symm), h.has]
      constructor
      · rintro ⟨F, hF, rfl⟩
        exact ⟨F, woC_mem.2 ⟨hF, fun q => hq (by unfold kb; rw [q])⟩, rfl⟩
      · rintro ⟨F, hF, rfl⟩
        exact ⟨F, (woC_mem.1 hF).1, rfl⟩
  · obtain ⟨hF', hne⟩ := woC_mem.1 hF
    obtain ⟨q, sl1, skv1, mvv1, q1, q2⟩ := h.at_ F hF'
    exact ⟨q, sl1, skv1, mvv1, by rw [atKey_del_other (key_ne hne)]; exact q1, hold F hF' _ _ _ q2⟩
/-- what an ID's element is -/
theorem Holds.look {N : Nat → Prop} {W : World} {D : DataW Value} {C : List EV} (h : Holds N W D C) (id : ByteArray) : (∃ E ∈ C, E.id = id ∧ ∃ sl skv mvv, D.atKey (key id) (.held zV) = .held (ev E sl skv mvv) ∧ Off N W E sl skv mvv) ∨ ((¬ ∃ E ∈ C, E.id = id) ∧ D.atKey (key id) (.held zV) = .held zV) := by
  by_cases hx : ∃ E ∈ C, E.id = id
  · obtain ⟨E, hE, rfl⟩ := hx
    obtain ⟨q, sl, skv, mvv, q1, q2⟩ := h.at_ E hE
    exact .inl ⟨E, hE, rfl, sl, skv, mvv, q1, q2⟩
  · refine .inr ⟨hx, atKey_of_not_has ?_ _⟩
    cases hh : Maps.has D (key id) with
    | false => rfl
    | true => exact absurd ((h.hasE id).1 hh) hx

/-- what Put leaves of a calendar -/
def PutTo (lo : Nat) (w w' : World) (bb : Nat) (mo : Option Nat) (n : Nat) (C : List EV) : Prop :=
  ∃ mo', BookAt lo w' bb mo' (n + 1) C ∧ Kept w w' bb mo ∧ (mo' = mo ∨ (mo = none ∧ ∀ mb, mo' = some mb → w.heap.size ≤ mb))
theorem Z0_ev : zV = ev Z0 (.slice none 0 0) (.slice none 0 0) (.slice none 0 0) := rfl
theorem bok_mono {W : World} {bb n n' : Nat} {mo : Option Nat} {D : DataW Value} (h : Bok W bb mo n D) (hn : n ≤ n') : Bok W bb mo n' D := by
  obtain ⟨h1, h2⟩ := h
  refine ⟨h1, ?_⟩
  cases mo with
  | none => exact h2
  | some mb =>
    obtain ⟨h3, es, clock, q1, q2, q3, q4⟩ := h2
    exact ⟨h3, es, clock, q1, q2, Nat.le_trans q3 hn, q4⟩
theorem keep_C (lo bb n : Nat) (mo : Option Nat) (C : List EV) (E : EV) (sl skv mvv : Value) (w : World) (h : BookAt lo w bb mo n C) (hn : n ≤ 90000) (hw : EW E) (hL : Ls w E sl skv mvv) :
    Calls Tryz.prog 43 #[.pointer (some ⟨bb, 0, none⟩), ev E sl skv mvv] w fun r w' => (∃ v, r = .returned v) ∧ PutTo lo w w' bb mo n (putC E C) := by
  obtain ⟨i12, t40, k20, m20⟩ := ew_bd hw
  have h20 : E.ds.length ≤ 20 := by obtain ⟨_, _, _, q, _⟩ := hL.d; exact q
  have hlt := h.lt
  obtain ⟨D, h1, h2, h3, h4⟩ := h
  cases mo with
  | none =>
    have hD : D = .map [] := h1.2
    subst hD
    have hC : C = [] := List.length_eq_zero_iff.1 (by rw [← h4.size]; rfl)
    subst hC
    refine Calls.mono (keep_none bb E sl skv mvv n w h1 (by omega) hL k20 m20) ?_
    rintro r w' ⟨hr, mb, hm, sl', skv', mvv', q1, q2, q3⟩
    refine ⟨hr, some mb, ⟨_, bok_mono q1 (by omega), Nat.le_trans h2 q3.size, fun mb' e => ?_, h4.put hw h20 (q2.mono (fun k hk => ?_)) (fun F hF => absurd hF (by simp))⟩, q3, .inr ⟨rfl, fun mb' e => ?_⟩⟩
    · cases e; omega
    · rcases hk with hk | hk | hk
      · exact .inl (by omega)
      · exact .inl (by omega)
      · exact .inr (Option.some.inj hk)
    · cases e; omega
  | some mb =>
    refine Calls.mono (keep_some bb mb n D E sl skv mvv w h1 (by omega) (by omega) hL k20 m20) ?_
    rintro r w' ⟨hr, sl', skv', mvv', q1, q2, q3⟩
    have hmb := hlt.2 mb rfl
    refine ⟨hr, some mb, ⟨_, q1, Nat.le_trans h2 q3.size, h3, h4.put hw h20 (q2.mono (fun k hk => ?_)) (fun F hF hne s1 s2 s3 hO => hO.kept q3 (.inr (.inl rfl)) (fun b e => .inr (.inr e)))⟩, q3, .inl rfl⟩
    rcases hk with hk | hk | hk
    · exact .inl (by omega)
    · exact .inl (by omega)
    · exact .inr (Option.some.inj hk)
theorem put_C (lo bb n : Nat) (mo : Option Nat) (C : List EV) (E : EV) (sl skv mvv : Value) (k : Int) (s : Nat → Addr) (w : World) (g : GlobK s w) (h : BookAt lo w bb mo n C) (hn : n ≤ 90000) (hi : E.id.size ≤ 60) (ht : E.ti.size ≤ 60) (hL : Ls w E sl skv mvv) (hk : EvK E k) :
    Calls Tryz.prog 15 #[.pointer (some ⟨bb, 0, none⟩), ev E sl skv mvv] w fun r w' =>
      (k ≠ 0 ∧ r = .returned (errV s k) ∧ Below w.heap.size w w') ∨ (k = 0 ∧ ((¬ ∃ F ∈ C, F.id = E.id) ∧ 60 ≤ C.length) ∧ r = .returned (.iface 288 (.pointer (some (s 6)))) ∧ Below w.heap.size w w') ∨ (k = 0 ∧ ¬ ((¬ ∃ F ∈ C, F.id = E.id) ∧ 60 ≤ C.length) ∧ r = .returned .nilIface ∧ PutTo lo w w' bb mo n (putC E C)) := by
  have hbk := h
  obtain ⟨D, h1, h2, h3, h4⟩ := h
  have hat : ∃ (U : EV) (ua : Option Addr) (un uc : Nat) (va : Option Addr) (vn vc : Nat) (wa : Option Addr) (wn wd : Nat), D.atKey (key E.id) (.held zV) = .held (ev U (.slice ua un uc) (.slice va vn vc) (.slice wa wn wd)) := by
    rcases h4.look E.id with ⟨F, hF, e, sl1, skv1, mvv1, q1, q2⟩ | ⟨_, q⟩
    · obtain ⟨a1, c1, rfl, _⟩ := q2.d
      obtain ⟨a2, c2, rfl, _⟩ := q2.s
      obtain ⟨a3, c3, rfl, _⟩ := q2.m
      exact ⟨F, _, _, _, _, _, _, _, _, _, q1⟩
    · exact ⟨Z0, _, _, _, _, _, _, _, _, _, q⟩
  obtain ⟨U, ua, un, uc, va, vn, vc, wa, wn, wd, hat⟩ := hat
  have hfull : (Maps.has D (key E.id) = false ∧ 60 ≤ Maps.size D) ↔ ((¬ ∃ F ∈ C, F.id = E.id) ∧ 60 ≤ C.length) := by
    rw [h4.size, ← h4.hasE E.id, Bool.not_eq_true]
  refine Calls.mono (put_of bb n mo D E U sl skv mvv ua un uc va vn vc wa wn wd k s w g h1 (by omega) hi ht hL hk hat (fun w' => PutTo lo w w' bb mo n (putC E C)) (fun hk0 W hW => ?_)) ?_
  · refine Calls.mono (keep_C lo bb n mo C E sl skv mvv W (hbk.step hW) hn ((evK_0 hk).1 hk0) (hL.step hW)) ?_
    rintro r w' ⟨hr, mo', q1, q2, q3⟩
    refine ⟨hr, mo', q1, kept_from hW q2, q3.imp id (fun q => ⟨q.1, fun mb e => Nat.le_trans hW.size (q.2 mb e)⟩)⟩
  · rintro r w' (q | ⟨q0, q1, q2, q3⟩ | ⟨q0, q1, q2, q3⟩)
    · exact .inl q
    · exact .inr (.inl ⟨q0, hfull.1 q1, q2, q3⟩)
    · exact .inr (.inr ⟨q0, fun z => q1 (hfull.2 z), q2, q3⟩)

theorem bs_kb (E : EV) : bs (kb E) = E.id := by
  unfold bs kb
  cases E.id
  rfl
theorem keys_C {lo : Nat} {W : World} {bb : Nat} {mo : Option Nat} {n : Nat} {D : DataW Value} {C : List EV} (h1 : Bok W bb mo n D) (h4 : Holds (NotIn lo bb mo) W D C) {ss : List (List UInt8)} (hp : ss.Perm (strKeys D)) : ss.mergeSort (fun x y => decide (x ≤ y)) = C.map kb := by
  have hsk : (C.map kb).Perm (strKeys D) := by
    obtain ⟨es, hD, hpw⟩ := h4.tidy
    have hks : ∀ p ∈ es, ∃ x, p.1 = .string x := by
      cases mo with
      | none =>
        have hD' : D = .map [] := h1.2
        rw [hD] at hD'
        have : es = [] := by simpa using hD'
        rw [this]
        exact fun p hp => absurd hp (by simp)
      | some mb =>
        obtain ⟨es', hD', hko⟩ := h1.2.2.keysOf
        obtain rfl : es = es' := by rw [hD] at hD'; simpa using hD'
        exact fun p hp => by obtain ⟨v, hv⟩ := hko p hp; obtain ⟨x, _, hx, _⟩ := Maps.keyOf_str Tryz.underlying9 hv; exact ⟨x, hx⟩
    have hnd : (C.map kb).Nodup := List.pairwise_map.2 (h4.up.imp (fun {a b} q e => by rw [e] at q; exact List.lt_irrefl _ q))
    have hm : ∀ x, x ∈ C.map kb ↔ Maps.has (.map es) (.string x) = true := fun x => by
      rw [← hD, h4.has, List.mem_map]
    rw [hD]
    exact perm_strKeys hpw hks hnd hm
  have e1 : ss.mergeSort (fun x y => decide (x ≤ y)) = (C.map kb).mergeSort (fun x y => decide (x ≤ y)) := mergeSort_of_perm (hp.trans hsk.symm)
  rw [e1]
  refine List.mergeSort_of_pairwise ?_
  exact List.pairwise_map.2 (h4.up.imp (fun {a b} q => decide_eq_true (List.le_of_lt q)))
theorem ids_C (lo bb n : Nat) (mo : Option Nat) (C : List EV) (w : World) (h : BookAt lo w bb mo n C) (hn : n ≤ 100000) :
    Calls Tryz.prog 12 #[.pointer (some ⟨bb, 0, none⟩)] w fun r w' => ∃ v, r = .returned v ∧ RowV w.heap.size w' v (C.map EV.id) ∧ Below w.heap.size w w' := by
  obtain ⟨D, h1, h2, h3, h4⟩ := h
  refine Calls.mono (ids_any bb mo n D w h1 hn) ?_
  rintro r w' ⟨v, ss, rfl, hp, hr, hb⟩
  refine ⟨v, rfl, ?_, hb⟩
  have := rowV_own hr
  rw [keys_C h1 h4 hp, List.map_map] at this
  rwa [show (bs ∘ kb) = EV.id from funext bs_kb] at this
theorem on_C (lo bb n : Nat) (mo : Option Nat) (C : List EV) (d : Int) (cv : EV → Bool) (hcv : ∀ E ∈ C, (cv E = true ↔ covers E d)) (s : Nat → Addr) (w : World) (g : GlobK s w) (h : BookAt lo w bb mo n C) (hn : n ≤ 80000) :
    Calls Tryz.prog 17 #[.pointer (some ⟨bb, 0, none⟩), .int .i64 d] w fun r w' => ∃ v, r = .returned v ∧ RowV w.heap.size w' v ((C.filter cv).map EV.id) ∧ Below w.heap.size w w' := by
  classical
  obtain ⟨D, h1, h2, h3, h4⟩ := h
  have hc : ∀ E ∈ C, (decide (∃ F ∈ C, F.id = E.id ∧ cv F = true)) = cv E := fun E hE => by
    cases hq : cv E with
    | true => exact decide_eq_true ⟨E, hE, rfl, hq⟩
    | false =>
      refine decide_eq_false ?_
      rintro ⟨F, hF, e, q⟩
      rw [h4.up.uniq hF hE e, hq] at q
      cases q
  refine Calls.mono (on_any bb n mo D d (fun id => decide (∃ F ∈ C, F.id = id ∧ cv F = true)) s w g h1 hn (fun k hk => ?_)) ?_
  · have hks : k ∈ C.map kb := by
      rw [← keys_C h1 h4 (List.Perm.refl _)]
      exact List.mem_mergeSort.2 hk
    obtain ⟨E, hE, rfl⟩ := List.mem_map.1 hks
    obtain ⟨⟨hw, h20⟩, sl, skv, mvv, q1, q2⟩ := h4.at_ E hE
    obtain ⟨i12, t40, k20, m20⟩ := ew_bd hw
    rw [bs_kb]
    refine ⟨E, sl, skv, mvv, q1, q2.ls h20, by omega, by omega, by omega, ?_⟩
    show decide (∃ F ∈ C, F.id = E.id ∧ cv F = true) = true ↔ _
    rw [hc E hE]
    exact hcv E hE
  · rintro r w' ⟨v, ss, rfl, hp, hr, hb⟩
    refine ⟨v, rfl, ?_, hb⟩
    rw [keys_C h1 h4 hp, List.map_map, show (bs ∘ kb) = EV.id from funext bs_kb, List.filter_map] at hr
    have : C.filter ((fun id => decide (∃ F ∈ C, F.id = id ∧ cv F = true)) ∘ EV.id) = C.filter cv := List.filter_congr (fun E hE => hc E hE)
    rwa [this] at hr
theorem get_C (lo bb n : Nat) (mo : Option Nat) (C : List EV) (E : EV) (hE : E ∈ C) (w : World) (h : BookAt lo w bb mo n C) :
    Calls Tryz.prog 14 #[.pointer (some ⟨bb, 0, none⟩), .string E.id] w fun r w' => ∃ sl' skv' mvv', r = .returned (.tuple #[ev E sl' skv' mvv', .bool true]) ∧ Ls w' E sl' skv' mvv' ∧ Below w.heap.size w w' := by
  obtain ⟨D, h1, h2, h3, h4⟩ := h
  obtain ⟨⟨hw, h20⟩, sl, skv, mvv, q1, q2⟩ := h4.at_ E hE
  obtain ⟨i12, t40, k20, m20⟩ := ew_bd hw
  have hh := (h4.hasE E.id).2 ⟨E, hE, rfl⟩
  cases mo with
  | none =>
    have hD : D = .map [] := h1.2
    rw [hD] at hh
    cases hh
  | some mb =>
    have := bget_any bb mb n D E.id E sl skv mvv w h1 (by omega) q1 (q2.ls h20) k20 m20
    rwa [hh] at this
/-- what Drop leaves of a calendar -/
theorem drop_C (lo bb n : Nat) (mo : Option Nat) (C : List EV) (id : ByteArray) (hid : id.size ≤ 1000) (p : Addr) (w : World) (h : BookAt lo w bb mo n C) (hN : w.cell? ⟨3, 0, none⟩ = some (.iface 288 (.pointer (some p)))) :
    Calls Tryz.prog 16 #[.pointer (some ⟨bb, 0, none⟩), .string id] w fun r w' => ((∃ E ∈ C, E.id = id) ∧ r = .returned .nilIface ∧ BookAt lo w' bb mo n (woC id C) ∧ Kept w w' bb mo) ∨ ((¬ ∃ E ∈ C, E.id = id) ∧ r = .returned (.iface 288 (.pointer (some p))) ∧ Below w.heap.size w w') := by
  obtain ⟨D, h1, h2, h3, h4⟩ := h
  by_cases hx : ∃ E ∈ C, E.id = id
  · have hh := (h4.hasE id).2 hx
    cases mo with
    | none =>
      have hD : D = .map [] := h1.2
      rw [hD] at hh
      cases hh
    | some mb =>
      obtain ⟨E, hE, rfl⟩ := hx
      obtain ⟨⟨hw, h20⟩, sl, skv, mvv, q1, q2⟩ := h4.at_ E hE
      obtain ⟨a1, c1, rfl, _⟩ := q2.d
      obtain ⟨a2, c2, rfl, _⟩ := q2.s
      obtain ⟨a3, c3, rfl, _⟩ := q2.m
      refine Calls.mono (drop_yes bb mb n D E.id E _ _ _ _ _ _ _ _ _ w h1 hid q1 hh) ?_
      rintro r w' ⟨rfl, hb1, hg⟩
      have hK : Kept w w' bb (some mb) := ⟨hg.os, hg.tape, hg.output, hg.size, fun k hk h1 h2 => hg.block k hk h2⟩
      exact .inl ⟨⟨E, hE, rfl⟩, rfl, ⟨_, hb1, Nat.le_trans h2 hK.size, h3, h4.del E.id (fun F hF s1 s2 s3 hO => hO.kept hK (.inr (.inl rfl)) (fun b e => .inr (.inr e))) ⟨E, hE, rfl⟩⟩, hK⟩
  · have hh : Maps.has D (key id) = false := by
      cases hq : Maps.has D (key id) with
      | false => rfl
      | true => exact absurd ((h4.hasE id).1 hq) hx
    refine Calls.mono (drop_no bb n mo D id p w h1 hid hh hN) ?_
    rintro r w' ⟨rfl, hb⟩
    exact .inr ⟨hx, rfl, hb⟩
end Go.Proofs.YtnpecjccajebiaaGreatDoor
