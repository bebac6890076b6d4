/- A book as a calendar in plain words: New, Put, Drop, Get, IDs, On. -/
import Derived.Test.YtekminpoiokgfaaGreatDoorYaS
import Derived.Test.YtekminpoiokgfaaGreatDoorYaK
import Derived.Test.YtekminpoiokgfaaGreatDoorYaJ
import Derived.Test.YtekminpoiokgfaaGreatDoorBkFW
import Derived.Test.YtekminpoiokgfaaGreatDoorYaH
namespace Go.Proofs.YtekminpoiokgfaaGreatDoor
open Go Go.RowKit Go.Maps Go.Sort Cal

theorem ew_bd {E : EV} (h : EW E) : E.id.size ≤ 12 ∧ E.ti.size ≤ 40 ∧ E.sk.length ≤ 20 ∧ E.mv.length ≤ 20 := ⟨h.id.2.2, h.ti.2, (lk_of h.ls).1, (lk_of h.ls).2.1⟩
theorem OffI.step {N : Nat → Prop} {W W' : World} {v : Value} {xs : List Int} (h : OffI N W v xs) (hb : Below W.heap.size W W') : OffI N W' v xs := by
  obtain ⟨a, c, h1, h2, h3, h4⟩ := h
  refine ⟨a, c, h1, h2, h3, fun j hj => ?_⟩
  obtain ⟨b, e, hn, hl, hc⟩ := h4 j hj
  exact ⟨b, e, hn, Nat.lt_of_lt_of_le hl hb.size, cell_step hc hb⟩
theorem OffM.step {N : Nat → Prop} {W W' : World} {v : Value} {xs : List (Int × Int)} (h : OffM N W v xs) (hb : Below W.heap.size W W') : OffM N W' v xs := by
  obtain ⟨a, c, h1, h2, h3, h4⟩ := h
  refine ⟨a, c, h1, h2, h3, fun j hj => ?_⟩
  obtain ⟨b, e, hn, hl, hc, hd⟩ := h4 j hj
  exact ⟨b, e, hn, Nat.lt_of_lt_of_le hl hb.size, cell_step hc hb, cell_step hd hb⟩
theorem Off.step {N : Nat → Prop} {W W' : World} {E : EV} {sl skv mvv : Value} (h : Off N W E sl skv mvv) (hb : Below W.heap.size W W') : Off N W' E sl skv mvv := ⟨h.d.step hb, h.s.step hb, h.m.step hb⟩
theorem Off.ls {N : Nat → Prop} {W : World} {E : EV} {sl skv mvv : Value} (h : Off N W E sl skv mvv) (h20 : E.ds.length ≤ 20) : Ls W E sl skv mvv := ⟨ints_days h.d.ints h20, h.s.ints, h.m.movs⟩
theorem kept_cellM {w w' : World} {bb b o : Nat} {mo : Option Nat} {v : Value} (h : Kept w w' bb mo) (hc : w.cell? ⟨b, o, none⟩ = some v) (h1 : b ≠ bb) (h2 : some b ≠ mo) : w'.cell? ⟨b, o, none⟩ = some v :=
  (World.cell?_of_block (a := ⟨b, o, none⟩) (h.block b (lt_of_cell hc) h1 h2)).trans hc
theorem OffI.kept {N : Nat → Prop} {w w' : World} {bb : Nat} {mo : Option Nat} {v : Value} {xs : List Int} (h : OffI N w v xs) (hk : Kept w w' bb mo) (h1 : N bb) (h2 : ∀ b, some b = mo → N b) : OffI N w' v xs := by
  obtain ⟨a, c, q1, q2, q3, q4⟩ := h
  refine ⟨a, c, q1, q2, q3, fun j hj => ?_⟩
  obtain ⟨b, e, hn, hl, hc⟩ := q4 j hj
  exact ⟨b, e, hn, Nat.lt_of_lt_of_le hl hk.size, kept_cellM hk hc (fun q => hn (q ▸ h1)) (fun q => hn (h2 b q))⟩
theorem OffM.kept {N : Nat → Prop} {w w' : World} {bb : Nat} {mo : Option Nat} {v : Value} {xs : List (Int × Int)} (h : OffM N w v xs) (hk : Kept w w' bb mo) (h1 : N bb) (h2 : ∀ b, some b = mo → N b) : OffM N w' v xs := by
  obtain ⟨a, c, q1, q2, q3, q4⟩ := h
  refine ⟨a, c, q1, q2, q3, fun j hj => ?_⟩
  obtain ⟨b, e, hn, hl, hc, hd⟩ := q4 j hj
  exact ⟨b, e, hn, Nat.lt_of_lt_of_le hl hk.size, kept_cellM hk hc (fun q => hn (q ▸ h1)) (fun q => hn (h2 b q)), kept_cellM hk hd (fun q => hn (q ▸ h1)) (fun q => hn (h2 b q))⟩
theorem Off.kept {N : Nat → Prop} {w w' : World} {bb : Nat} {mo : Option Nat} {E : EV} {sl skv mvv : Value} (h : Off N w E sl skv mvv) (hk : Kept w w' bb mo) (h1 : N bb) (h2 : ∀ b, some b = mo → N b) : Off N w' E sl skv mvv := ⟨h.d.kept hk h1 h2, h.s.kept hk h1 h2, h.m.kept hk h1 h2⟩

/-- the blocks in which no event's list of a book lies -/
def NotIn (lo bb : Nat) (mo : Option Nat) (k : Nat) : Prop := k < lo ∨ k = bb ∨ some k = mo
/-- block bb is a book of the calendar C; all that is its own lies from block lo on; mo: its map -/
def BookAt (lo : Nat) (W : World) (bb : Nat) (mo : Option Nat) (n : Nat) (C : List EV) : Prop :=
  ∃ D, Bok W bb mo n D ∧ lo ≤ W.heap.size ∧ (∀ mb, mo = some mb → lo ≤ mb) ∧ Holds (NotIn lo bb mo) W D C
theorem Holds.step {N : Nat → Prop} {W W' : World} {D : DataW Value} {C : List EV} (h : Holds N W D C) (hb : Below W.heap.size W W') : Holds N W' D C :=
  ⟨h.up, h.tidy, h.size, h.has, fun E hE => by
    obtain ⟨q, sl, skv, mvv, h1, h2⟩ := h.at_ E hE
    exact ⟨q, sl, skv, mvv, h1, h2.step hb⟩⟩
theorem BookAt.step {lo : Nat} {W W' : World} {bb : Nat} {mo : Option Nat} {n : Nat} {C : List EV} (h : BookAt lo W bb mo n C) (hb : Below W.heap.size W W') : BookAt lo W' bb mo n C := by
  obtain ⟨D, h1, h2, h3, h4⟩ := h
  exact ⟨D, h1.step hb, Nat.le_trans h2 hb.size, h3, h4.step hb⟩
theorem BookAt.lt {lo : Nat} {W : World} {bb : Nat} {mo : Option Nat} {n : Nat} {C : List EV} (h : BookAt lo W bb mo n C) : bb < W.heap.size ∧ ∀ mb, mo = some mb → mb < W.heap.size := by
  obtain ⟨D, h1, h2, h3, h4⟩ := h
  refine ⟨(Array.getElem?_eq_some_iff.1 h1.1).1, fun mb e => ?_⟩
  subst e
  exact h1.2.2.lt
theorem BookAt.rises {lo : Nat} {W : World} {bb : Nat} {mo : Option Nat} {n : Nat} {C : List EV} (h : BookAt lo W bb mo n C) : Rises C ∧ ∀ E ∈ C, EW E := by
  obtain ⟨D, h1, h2, h3, h4⟩ := h
  exact ⟨h4.up, fun E hE => (h4.at_ E hE).1.1⟩
theorem bookAt_new (w : World) : Calls Tryz.prog 13 #[] w fun r w' => r = .returned (.pointer (some ⟨w.heap.size, 0, none⟩)) ∧ BookAt w.heap.size w' w.heap.size none 0 [] ∧ Below w.heap.size w w' :=
  Calls.mono (new_any w) (by
    rintro r w' ⟨rfl, h1, h2⟩
    exact ⟨rfl, ⟨_, h1, h2.size, (fun mb e => by cases e), Holds.none _ _⟩, h2⟩)

theorem BookAt.nil {lo : Nat} {W : World} {bb n : Nat} {C : List EV} (h : BookAt lo W bb none n C) : C = [] := by
  obtain ⟨D, h1, h2, h3, h4⟩ := h
  have hD : D = .map [] := h1.2
  subst hD
  exact List.length_eq_zero_iff.1 (by rw [← h4.size]; rfl)
theorem BookAt.lift {lo lo' : Nat} {W : World} {bb n : Nat} (h : BookAt lo W bb none n []) (hl : lo' ≤ W.heap.size) : BookAt lo' W bb none n [] := by
  obtain ⟨D, h1, h2, h3, h4⟩ := h
  have hD : D = .map [] := h1.2
  subst hD
  exact ⟨_, h1, hl, (fun mb e => by cases e), Holds.none _ _⟩
theorem BookAt.grown {lo : Nat} {W W' : World} {bb : Nat} {mo : Option Nat} {n B : Nat} {C : List EV} (h : BookAt lo W bb mo n C) (hg : W.grownBy W' (some B)) (hB : B < lo) (hne : B ≠ bb) : BookAt lo W' bb mo n C := by
  obtain ⟨D, h1, h2, h3, h4⟩ := h
  refine ⟨D, ⟨(hg.block bb (Array.getElem?_eq_some_iff.1 h1.1).1 (fun q => hne (Option.some.inj q).symm)).trans h1.1, ?_⟩, Nat.le_trans h2 hg.size, h3, h4.up, h4.tidy, h4.size, h4.has, fun E hE => ?_⟩
  · cases mo with
    | none => exact h1.2
    | some mb => exact ⟨h1.2.1, h1.2.2.kept hg (fun q => by have := Option.some.inj q; have := h3 mb rfl; omega)⟩
  · obtain ⟨q, sl, skv, mvv, q1, q2⟩ := h4.at_ E hE
    exact ⟨q, sl, skv, mvv, q1, q2.grown (.inl hB) hg⟩

theorem key_ne {a b : ByteArray} (h : a ≠ b) : key a ≠ key b := fun q => h (id_eq (by unfold key at q; exact Lit.string.inj q))
theorem key_lit (a : ByteArray) : WideAt.IsKeyLit (key a) := trivial
theorem Holds.hasE {N : Nat → Prop} {W : World} {D : DataW Value} {C : List EV} (h : Holds N W D C) (id : ByteArray) : Maps.has D (key id) = true ↔ ∃ E ∈ C, E.id = id := by
  unfold key
  rw [h.has]
  constructor
  · rintro ⟨E, hE, q⟩; exact ⟨E, hE, id_eq q⟩
  · rintro ⟨E, hE, q⟩; exact ⟨E, hE, by unfold kb; rw [q]⟩
theorem tidy_map {D : DataW Value} (h : Tidy D) : IsMap D := by
  obtain ⟨es, q, _⟩ := h
  exact ⟨es, q⟩
/-- what a book holds behind an event that is kept -/
theorem Holds.put {N N' : Nat → Prop} {W W' : World} {D : DataW Value} {C : List EV} (h : Holds N W D C) {E : EV} {sl skv mvv : Value} (hw : EW E) (h20 : E.ds.length ≤ 20) (ho : Off N' W' E sl skv mvv)
    (hold : ∀ F ∈ C, F.id ≠ E.id → ∀ sl skv mvv, Off N W F sl skv mvv → Off N' W' F sl skv mvv) : Holds N' W' (D.put (key E.id) (.held (ev E sl skv mvv))) (putC E C) := by
  refine ⟨putC_rises h.up, h.tidy.put (key_lit _) _, ?_, fun x => ?_, fun F hF => ?_⟩
  · rw [size_put h.tidy]
    by_cases hx : ∃ F ∈ C, F.id = E.id
    · rw [if_pos ((h.hasE E.id).2 hx), h.size]
      obtain ⟨F, hF, e⟩ := hx
      unfold putC
      rw [insE_len, ← e, woC_len h.up hF]
    · rw [if_neg (fun q => hx ((h.hasE E.id).1 q)), h.size]
      unfold putC
      rw [insE_len, woC_same (fun F hF q => hx ⟨F, hF, q⟩)]
  · by_cases hx : kb E = x
    · subst hx
      exact ⟨fun _ => ⟨E, putC_mem.2 (.inl rfl), rfl⟩, fun _ => has_put_same (tidy_map h.tidy) (key_lit E.id) _⟩
    · rw [has_put_other (show Lit.string x ≠ key E.id from fun q => hx (Lit.string.inj q).symm), h.has]
      constructor
      · rintro ⟨F, hF, rfl⟩
        exact ⟨F, putC_mem.2 (.inr ⟨hF, fun q => hx (by unfold kb; rw [q])⟩), rfl⟩
      · rintro ⟨F, hF, rfl⟩
        rcases putC_mem.1 hF with rfl | ⟨hF', _⟩
        · exact absurd rfl hx
        · exact ⟨F, hF', rfl⟩
  · rcases putC_mem.1 hF with rfl | ⟨hF', hne⟩
    · exact ⟨⟨hw, h20⟩, sl, skv, mvv, atKey_put_same (tidy_map h.tidy) (key_lit _) _ _, ho⟩
    · obtain ⟨q, sl1, skv1, mvv1, q1, q2⟩ := h.at_ F hF'
      exact ⟨q, sl1, skv1, mvv1, by rw [atKey_put_other (key_ne hne)]; exact q1, hold F hF' hne _ _ _ q2⟩
/-- what an ID's element is -/
theorem Holds.look {N : Nat → Prop} {W : World} {D : DataW Value} {C : List EV} (h : Holds N W D C) (id : ByteArray) : (∃ E ∈ C, E.id = id ∧ ∃ sl skv mvv, D.atKey (key id) (.held zV) = .held (ev E sl skv mvv) ∧ Off N W E sl skv mvv) ∨ ((¬ ∃ E ∈ C, E.id = id) ∧ D.atKey (key id) (.held zV) = .held zV) := by
  by_cases hx : ∃ E ∈ C, E.id = id
  · obtain ⟨E, hE, rfl⟩ := hx
    obtain ⟨q, sl, skv, mvv, q1, q2⟩ := h.at_ E hE
    exact .inl ⟨E, hE, rfl, sl, skv, mvv, q1, q2⟩
  · refine .inr ⟨hx, atKey_of_not_has ?_ _⟩
    cases hh : Maps.has D (key id) with
    | false => rfl
    | true => exact absurd ((h.hasE id).1 hh) hx

/-- what Put leaves of a calendar -/
def PutTo (lo : Nat) (w w' : World) (bb : Nat) (mo : Option Nat) (n : Nat) (C : List EV) : Prop :=
  ∃ mo', BookAt lo w' bb mo' (n + 1) C ∧ Kept w w' bb mo ∧ (mo' = mo ∨ (mo = none ∧ ∀ mb, mo' = some mb → w.heap.size ≤ mb))
theorem bok_mono {W : World} {bb n n' : Nat} {mo : Option Nat} {D : DataW Value} (h : Bok W bb mo n D) (hn : n ≤ n') : Bok W bb mo n' D := by
  obtain ⟨h1, h2⟩ := h
  refine ⟨h1, ?_⟩
  cases mo with
  | none => exact h2
  | some mb =>
    obtain ⟨h3, es, clock, q1, q2, q3, q4⟩ := h2
    exact ⟨h3, es, clock, q1, q2, Nat.le_trans q3 hn, q4⟩
theorem keep_C (lo bb n : Nat) (mo : Option Nat) (C : List EV) (E : EV) (sl skv mvv : Value) (w : World) (h : BookAt lo w bb mo n C) (hn : n ≤ 90000) (hw : EW E) (hL : Ls w E sl skv mvv) :
    Calls Tryz.prog 31 #[.pointer (some ⟨bb, 0, none⟩), ev E sl skv mvv] w fun r w' => (∃ v, r = .returned v) ∧ PutTo lo w w' bb mo n (putC E C) := by
  obtain ⟨i12, t40, k20, m20⟩ := ew_bd hw
  have h20 : E.ds.length ≤ 20 := by obtain ⟨_, _, _, q, _⟩ := hL.d; exact q
  have hlt := h.lt
  obtain ⟨D, h1, h2, h3, h4⟩ := h
  cases mo with
  | none =>
    have hD : D = .map [] := h1.2
    subst hD
    have hC : C = [] := List.length_eq_zero_iff.1 (by rw [← h4.size]; rfl)
    subst hC
    refine Calls.mono (keep_none bb E sl skv mvv n w h1 (by omega) hL k20 m20) ?_
    rintro r w' ⟨hr, mb, hm, sl', skv', mvv', q1, q2, q3⟩
    refine ⟨hr, some mb, ⟨_, bok_mono q1 (by omega), Nat.le_trans h2 q3.size, fun mb' e => ?_, h4.put hw h20 (q2.mono (fun k hk => ?_)) (fun F hF => absurd hF (by simp))⟩, q3, .inr ⟨rfl, fun mb' e => ?_⟩⟩
    · cases e; omega
    · rcases hk with hk | hk | hk
      · exact .inl (by omega)
      · exact .inl (by omega)
      · exact .inr (Option.some.inj hk)
    · cases e; omega
  | some mb =>
    refine Calls.mono (keep_some bb mb n D E sl skv mvv w h1 (by omega) (by omega) hL k20 m20) ?_
    rintro r w' ⟨hr, sl', skv', mvv', q1, q2, q3⟩
    have hmb := hlt.2 mb rfl
    refine ⟨hr, some mb, ⟨_, q1, Nat.le_trans h2 q3.size, h3, h4.put hw h20 (q2.mono (fun k hk => ?_)) (fun F hF hne s1 s2 s3 hO => hO.kept q3 (.inr (.inl rfl)) (fun b e => .inr (.inr e)))⟩, q3, .inl rfl⟩
    rcases hk with hk | hk | hk
    · exact .inl (by omega)
    · exact .inl (by omega)
    · exact .inr (Option.some.inj hk)
theorem put_C (lo bb n : Nat) (mo : Option Nat) (C : List EV) (E : EV) (sl skv mvv : Value) (k : Int) (s : Nat → Addr) (w : World) (g : GlobK s w) (h : BookAt lo w bb mo n C) (hn : n ≤ 90000) (hi : E.id.size ≤ 60) (ht : E.ti.size ≤ 60) (hL : Ls w E sl skv mvv) (hk : EvK E k) :
    Calls Tryz.prog 14 #[.pointer (some ⟨bb, 0, none⟩), ev E sl skv mvv] w fun r w' =>
      (k ≠ 0 ∧ r = .returned (errV s k) ∧ Below w.heap.size w w') ∨ (k = 0 ∧ ((¬ ∃ F ∈ C, F.id = E.id) ∧ 60 ≤ C.length) ∧ r = .returned (.iface 250 (.pointer (some (s 6)))) ∧ Below w.heap.size w w') ∨ (k = 0 ∧ ¬ ((¬ ∃ F ∈ C, F.id = E.id) ∧ 60 ≤ C.length) ∧ r = .returned .nilIface ∧ PutTo lo w w' bb mo n (putC E C)) := by
  have hbk := h
  obtain ⟨D, h1, h2, h3, h4⟩ := h
  have hat : ∃ (U : EV) (ua : Option Addr) (un uc : Nat) (va : Option Addr) (vn vc : Nat) (wa : Option Addr) (wn wd : Nat), D.atKey (key E.id) (.held zV) = .held (ev U (.slice ua un uc) (.slice va vn vc) (.slice wa wn wd)) := by
    rcases h4.look E.id with ⟨F, hF, e, sl1, skv1, mvv1, q1, q2⟩ | ⟨_, q⟩
    · obtain ⟨a1, c1, rfl, _⟩ := q2.d
      obtain ⟨a2, c2, rfl, _⟩ := q2.s
      obtain ⟨a3, c3, rfl, _⟩ := q2.m
      exact ⟨F, _, _, _, _, _, _, _, _, _, q1⟩
    · exact ⟨Z0, _, _, _, _, _, _, _, _, _, q⟩
  obtain ⟨U, ua, un, uc, va, vn, vc, wa, wn, wd, hat⟩ := hat
  have hfull : (Maps.has D (key E.id) = false ∧ 60 ≤ Maps.size D) ↔ ((¬ ∃ F ∈ C, F.id = E.id) ∧ 60 ≤ C.length) := by
    rw [h4.size, ← h4.hasE E.id, Bool.not_eq_true]
  refine Calls.mono (put_of bb n mo D E U sl skv mvv ua un uc va vn vc wa wn wd k s w g h1 (by omega) hi ht hL hk hat (fun w' => PutTo lo w w' bb mo n (putC E C)) (fun hk0 W hW => ?_)) ?_
  · refine Calls.mono (keep_C lo bb n mo C E sl skv mvv W (hbk.step hW) hn ((evK_0 hk).1 hk0) (hL.step hW)) ?_
    rintro r w' ⟨hr, mo', q1, q2, q3⟩
    refine ⟨hr, mo', q1, kept_from hW q2, q3.imp id (fun q => ⟨q.1, fun mb e => Nat.le_trans hW.size (q.2 mb e)⟩)⟩
  · rintro r w' (q | ⟨q0, q1, q2, q3⟩ | ⟨q0, q1, q2, q3⟩)
    · exact .inl q
    · exact .inr (.inl ⟨q0, hfull.1 q1, q2, q3⟩)
    · exact .inr (.inr ⟨q0, fun z => q1 (hfull.2 z), q2, q3⟩)

theorem bs_kb (E : EV) : bs (kb E) = E.id := by
  unfold bs kb
  cases E.id
  rfl
theorem keys_C {lo : Nat} {W : World} {bb : Nat} {mo : Option Nat} {n : Nat} {D : DataW Value} {C : List EV} (h1 : Bok W bb mo n D) (h4 : Holds (NotIn lo bb mo) W D C) {ss : List (List UInt8)} (hp : ss.Perm (strKeys D)) : ss.mergeSort (fun x y => decide (x ≤ y)) = C.map kb := by
  have hsk : (C.map kb).Perm (strKeys D) := by
    obtain ⟨es, hD, hpw⟩ := h4.tidy
    have hks : ∀ p ∈ es, ∃ x, p.1 = .string x := by
      cases mo with
      | none =>
        have hD' : D = .map [] := h1.2
        rw [hD] at hD'
        have : es = [] := by simpa using hD'
        rw [this]
        exact fun p hp => absurd hp (by simp)
      | some mb =>
        obtain ⟨es', hD', hko⟩ := h1.2.2.keysOf
        obtain rfl : es = es' := by rw [hD] at hD'; simpa using hD'
        exact fun p hp => by obtain ⟨v, hv⟩ := hko p hp; obtain ⟨x, _, hx, _⟩ := Maps.keyOf_str Tryz.underlying9 hv; exact ⟨x, hx⟩
    have hnd : (C.map kb).Nodup := List.pairwise_map.2 (h4.up.imp (fun {a b} q e => by rw [e] at q; exact List.lt_irrefl _ q))
    have hm : ∀ x, x ∈ C.map kb ↔ Maps.has (.map es) (.string x) = true := fun x => by
      rw [← hD, h4.has, List.mem_map]
    rw [hD]
    exact perm_strKeys hpw hks hnd hm
  have e1 : ss.mergeSort (fun x y => decide (x ≤ y)) = (C.map kb).mergeSort (fun x y => decide (x ≤ y)) := mergeSort_of_perm (hp.trans hsk.symm)
  rw [e1]
  refine List.mergeSort_of_pairwise ?_
  exact List.pairwise_map.2 (h4.up.imp (fun {a b} q => decide_eq_true (List.le_of_lt q)))
theorem ids_C (lo bb n : Nat) (mo : Option Nat) (C : List EV) (w : World) (h : BookAt lo w bb mo n C) (hn : n ≤ 100000) :
    Calls Tryz.prog 10 #[.pointer (some ⟨bb, 0, none⟩)] w fun r w' => ∃ v, r = .returned v ∧ RowV w.heap.size w' v (C.map EV.id) ∧ Below w.heap.size w w' := by
  obtain ⟨D, h1, h2, h3, h4⟩ := h
  refine Calls.mono (ids_any bb mo n D w h1 hn) ?_
  rintro r w' ⟨v, ss, rfl, hp, hr, hb⟩
  refine ⟨v, rfl, ?_, hb⟩
  have := rowV_own hr
  rw [keys_C h1 h4 hp, List.map_map] at this
  rwa [show (bs ∘ kb) = EV.id from funext bs_kb] at this
end Go.Proofs.YtekminpoiokgfaaGreatDoor

/- Package event's fill: a field of an event, read of its text; the fields' names; Copy. -/
namespace Go.Proofs.YtekminpoiokgfaaGreatDoor
open Go Go.RowKit Cal
attribute [local go_sem] Oper.semAt_some

/-- an event with one field of another's -/
def upd (E F : EV) : Nat → EV
  | 0 => { E with ti := F.ti }
  | 1 => { E with st := F.st }
  | 2 => { E with lg := F.lg }
  | 3 => { E with f := F.f, e := F.e, ds := F.ds, c := F.c, u := F.u }
  | 4 => { E with sk := F.sk }
  | _ => { E with mv := F.mv }
theorem bs_own (s : ByteArray) : bs s.data.toList = s := ba_ext rfl

theorem shaped_any (E : EV) (k : Nat) (hk : k < 6) (w : World) (hw : EW E) (ht : Tab w) :
    Calls Tryz.prog 70 #[.string (fldB k), .string (bs (fT E k))] w fun r w' => r = .returned (.bool true) ∧ Below w.heap.size w w' := by
  obtain ⟨k20, m20, _⟩ := lk_of hw.ls
  match k, hk with
  | 0, _ =>
    generalize bs (fT E 0) = sb
    unfold fldB
    go_enter Tryz.func70, Tryz.ntmps70
    go_wp2
    go_ret
    exact ⟨rfl, Below.refl _ _⟩
  | 1, _ =>
    generalize bs (fT E 1) = sb
    unfold fldB
    go_enter Tryz.func70, Tryz.ntmps70
    go_wp2
    go_ret
    exact ⟨rfl, Below.refl _ _⟩
  | 2, _ =>
    have R : Hid (Calls _ _ _ _ _) := ereadNumber_any E.lg w (by have := hw.bd.2.1; omega) (by have := hw.bd.2.2; omega) ht
    show Calls _ _ #[.string (fldB 2), .string (bs (Lib.itoa E.lg))] _ _
    generalize bs (Lib.itoa E.lg) = sb at R ⊢
    unfold fldB
    go_enter Tryz.func70, Tryz.ntmps70
    go_wp2_with (go_at_call 108; refine Calls.mono R.out ?_; rintro r w1 ⟨rfl, hb1⟩)
    go_ret
    exact ⟨rfl, hb1⟩
  | 3, _ =>
    generalize bs (fT E 3) = sb
    unfold fldB
    go_enter Tryz.func70, Tryz.ntmps70
    go_wp2
    go_ret
    exact ⟨rfl, Below.refl _ _⟩
  | 4, _ =>
    generalize bs (fT E 4) = sb
    unfold fldB
    go_enter Tryz.func70, Tryz.ntmps70
    go_wp2
    go_ret
    exact ⟨rfl, Below.refl _ _⟩
  | 5, _ =>
    have R : Hid (Calls _ _ _ _ _) := areMoves_any E.mv w (by omega)
    show Calls _ _ #[.string (fldB 5), .string (bs (Lib.join (E.mv.map mtx) [44]))] _ _
    generalize bs (Lib.join (E.mv.map mtx) [44]) = sb at R ⊢
    unfold fldB
    go_enter Tryz.func70, Tryz.ntmps70
    go_wp2_with (go_at_call 109; refine Calls.mono R.out ?_; rintro r w1 ⟨rfl, hb1⟩)
    go_ret
    exact ⟨rfl, hb1⟩

set_option maxHeartbeats 4000000 in
set_option maxRecDepth 100000 in
theorem fill_any (E F : EV) (sl skv mvv : Value) (k : Nat) (hk : k < 6) (B : Nat) (N : Nat → Prop) (hN : N B) (w : World) (hN2 : ∀ n, N n → n < w.heap.size) (g : GlobR w) (hB : EB w B E sl skv mvv) (hO : Off N w E sl skv mvv) (hw : EW F) (h20 : F.ds.length ≤ 20) :
    Calls Tryz.prog 71 #[.pointer (some ⟨B, 0, none⟩), .string (fldB k), .string (bs (fT F k))] w fun r w' => r = .returned .nilIface ∧ w.grownBy w' (some B) ∧ ∃ sl' skv' mvv', EB w' B (upd E F k) sl' skv' mvv' ∧ Off N w' (upd E F k) sl' skv' mvv' := by
  obtain ⟨k20, m20, _, _, kd, md, _⟩ := lk_of hw.ls
  match k, hk with
  | 0, _ =>
    show Calls _ _ #[_, .string (fldB 0), .string (bs F.ti.data.toList)] _ _
    rw [bs_own]
    have HBX : Hid (EB w B E sl skv mvv) := hB
    have HOX : Hid (Off N w E sl skv mvv) := hO
    obtain ⟨x0, x1, x2, x3, x4, x5, x6, x7, x8, x9, x10⟩ := blk11 (show w.heap[B]? = _ from hB)
    have z := blk11_frozen (show w.heap[B]? = _ from hB) 1
    unfold fldB
    go_enter Tryz.func71, Tryz.ntmps71
    go_wp2
    go_ret
    exact ⟨rfl, grown_set _ ⟨B, 1, none⟩ _, sl, skv, mvv, set11_1 (.string F.ti) HBX.out, (HOX.out.grown hN (grown_set _ ⟨B, 1, none⟩ _) : Off N _ E sl skv mvv).d, (HOX.out.grown hN (grown_set _ ⟨B, 1, none⟩ _) : Off N _ E sl skv mvv).s, (HOX.out.grown hN (grown_set _ ⟨B, 1, none⟩ _) : Off N _ E sl skv mvv).m⟩
  | 1, _ =>
    have R : Hid (Calls _ _ _ _ _) := readDay_any F.st w hw.bd.1.1 hw.bd.1.2
    show Calls _ _ #[_, .string (fldB 1), .string (bs (dtx F.st))] _ _
    generalize bs (dtx F.st) = sb at R ⊢
    have HBX : Hid (EB w B E sl skv mvv) := hB
    have HOX : Hid (Off N w E sl skv mvv) := hO
    unfold fldB
    clear hB hO
    go_enter Tryz.func71, Tryz.ntmps71
    go_wp2_with (go_at_call 110; refine Calls.mono R.out ?_; rintro r w1 ⟨rfl, hb1⟩; obtain ⟨x0, x1, x2, x3, x4, x5, x6, x7, x8, x9, x10⟩ := blk11 (show w1.heap[B]? = _ from HBX.out.step hb1); have z := blk11_frozen (show w1.heap[B]? = _ from HBX.out.step hb1) 2)
    go_ret
    have gg : w.grownBy (w1.setCell ⟨B, 2, none⟩ (.int .i64 F.st)) (some B) := grown_then (grown_below hb1 _) (grown_set _ ⟨B, 2, none⟩ _)
    exact ⟨rfl, gg, sl, skv, mvv, set11_2 (.int .i64 F.st) (HBX.out.step hb1), (HOX.out.grown hN gg).d, (HOX.out.grown hN gg).s, (HOX.out.grown hN gg).m⟩
  | 2, _ =>
    have R : Hid (Calls _ _ _ _ _) := ereadNumber_any F.lg w (by have := hw.bd.2.1; omega) (by have := hw.bd.2.2; omega) g.tab
    show Calls _ _ #[_, .string (fldB 2), .string (bs (Lib.itoa F.lg))] _ _
    generalize bs (Lib.itoa F.lg) = sb at R ⊢
    have HBX : Hid (EB w B E sl skv mvv) := hB
    have HOX : Hid (Off N w E sl skv mvv) := hO
    unfold fldB
    clear hB hO
    go_enter Tryz.func71, Tryz.ntmps71
    go_wp2_with (go_at_call 108; refine Calls.mono R.out ?_; rintro r w1 ⟨rfl, hb1⟩; obtain ⟨x0, x1, x2, x3, x4, x5, x6, x7, x8, x9, x10⟩ := blk11 (show w1.heap[B]? = _ from HBX.out.step hb1); have z := blk11_frozen (show w1.heap[B]? = _ from HBX.out.step hb1) 3)
    go_ret
    have gg : w.grownBy (w1.setCell ⟨B, 3, none⟩ (.int .i64 F.lg)) (some B) := grown_then (grown_below hb1 _) (grown_set _ ⟨B, 3, none⟩ _)
    exact ⟨rfl, gg, sl, skv, mvv, set11_3 (.int .i64 F.lg) (HBX.out.step hb1), (HOX.out.grown hN gg).d, (HOX.out.grown hN gg).s, (HOX.out.grown hN gg).m⟩
  | 3, _ =>
    obtain ⟨t, ht, et⟩ := ruT_ok hw.rl
    have R := rread_ow F.f F.e F.ds F.c F.u t w g h20 hw.rl ht
    show Calls _ _ #[_, .string (fldB 3), .string (bs (ruT (rd F.f F.e F.ds F.c F.u)))] _ _
    rw [et]
    generalize bs (rtext (rd F.f F.e F.ds F.c F.u) t) = sb at R ⊢
    unfold rv at R
    have HR : Hid (Calls _ _ _ _ _) := R
    have HBX : Hid (EB w B E sl skv mvv) := hB
    have HOX : Hid (Off N w E sl skv mvv) := hO
    unfold fldB
    clear hB hO R
    go_enter Tryz.func71, Tryz.ntmps71
    go_wp2_with (go_at_call 111; refine Calls.mono HR.out ?_; rintro r w1 ⟨s1, rfl, ho1, hb1⟩; obtain ⟨ra, rc, rfl⟩ := ow_form ho1; obtain ⟨x0, x1, x2, x3, x4, x5, x6, x7, x8, x9, x10⟩ := blk11 (show w1.heap[B]? = _ from HBX.out.step hb1); have z4 := blk11_frozen (show w1.heap[B]? = _ from HBX.out.step hb1) 4; have z5 := blk11_frozen (show w1.heap[B]? = _ from HBX.out.step hb1) 5; have z6 := blk11_frozen (show w1.heap[B]? = _ from HBX.out.step hb1) 6; have z7 := blk11_frozen (show w1.heap[B]? = _ from HBX.out.step hb1) 7; have z8 := blk11_frozen (show w1.heap[B]? = _ from HBX.out.step hb1) 8)
    rw [put5_fold]
    have g5 := put5_grown w1 B (.string F.f) (.int .i64 F.e) (.slice ra F.ds.length rc) (.int .i64 F.c) (.int .i64 F.u)
    have b5 := put5_blk (.string F.f) (.int .i64 F.e) (.slice ra F.ds.length rc) (.int .i64 F.c) (.int .i64 F.u) (show w1.heap[B]? = _ from HBX.out.step hb1)
    generalize put5 w1 B (.string F.f) (.int .i64 F.e) (.slice ra F.ds.length rc) (.int .i64 F.c) (.int .i64 F.u) = w2 at g5 b5 ⊢
    go_ret
    have gg : w.grownBy w2 (some B) := grown_then (grown_below hb1 _) g5
    exact ⟨rfl, gg, .slice ra F.ds.length rc, skv, mvv, b5, (ow_off ho1 hN2 (by omega)).grown hN g5, (HOX.out.grown hN gg).s, (HOX.out.grown hN gg).m⟩
  | 4, _ =>
    have R : Hid (Calls _ _ _ _ _) := readListI_any F.sk w (by omega) kd
    show Calls _ _ #[_, .string (fldB 4), .string (bs (Lib.join (F.sk.map dtx) [44]))] _ _
    generalize bs (Lib.join (F.sk.map dtx) [44]) = sb at R ⊢
    have HBX : Hid (EB w B E sl skv mvv) := hB
    have HOX : Hid (Off N w E sl skv mvv) := hO
    unfold fldB
    clear hB hO
    go_enter Tryz.func71, Tryz.ntmps71
    go_wp2_with (go_at_call 112; refine Calls.mono R.out ?_; rintro r w1 ⟨s1, rfl, ho1, hb1⟩; obtain ⟨ra, rc, rfl⟩ := ow_form ho1; obtain ⟨x0, x1, x2, x3, x4, x5, x6, x7, x8, x9, x10⟩ := blk11 (show w1.heap[B]? = _ from HBX.out.step hb1); have z := blk11_frozen (show w1.heap[B]? = _ from HBX.out.step hb1) 9)
    go_ret
    have gg : w.grownBy (w1.setCell ⟨B, 9, none⟩ (.slice ra F.sk.length rc)) (some B) := grown_then (grown_below hb1 _) (grown_set _ ⟨B, 9, none⟩ _)
    exact ⟨rfl, gg, sl, (.slice ra F.sk.length rc), mvv, set11_9 (.slice ra F.sk.length rc) (HBX.out.step hb1), (HOX.out.grown hN gg).d, (ow_off ho1 hN2 (by omega)).grown hN (grown_set _ ⟨B, 9, none⟩ _), (HOX.out.grown hN gg).m⟩
  | 5, _ =>
    have R : Hid (Calls _ _ _ _ _) := readListM_any F.mv w (by omega) md
    show Calls _ _ #[_, .string (fldB 5), .string (bs (Lib.join (F.mv.map mtx) [44]))] _ _
    generalize bs (Lib.join (F.mv.map mtx) [44]) = sb at R ⊢
    have HBX : Hid (EB w B E sl skv mvv) := hB
    have HOX : Hid (Off N w E sl skv mvv) := hO
    unfold fldB
    clear hB hO
    go_enter Tryz.func71, Tryz.ntmps71
    go_wp2_with (go_at_call 113; refine Calls.mono R.out ?_; rintro r w1 ⟨s1, rfl, ho1, hb1⟩; obtain ⟨ra, rc, rfl⟩ := gotM_form (owm_movs ho1 (by omega)).2; obtain ⟨x0, x1, x2, x3, x4, x5, x6, x7, x8, x9, x10⟩ := blk11 (show w1.heap[B]? = _ from HBX.out.step hb1); have z := blk11_frozen (show w1.heap[B]? = _ from HBX.out.step hb1) 10)
    go_ret
    have gg : w.grownBy (w1.setCell ⟨B, 10, none⟩ (.slice ra F.mv.length rc)) (some B) := grown_then (grown_below hb1 _) (grown_set _ ⟨B, 10, none⟩ _)
    exact ⟨rfl, gg, sl, skv, (.slice ra F.mv.length rc), set11_10 (.slice ra F.mv.length rc) (HBX.out.step hb1), (HOX.out.grown hN gg).d, (HOX.out.grown hN gg).s, (owm_off ho1 hN2 (by omega)).grown hN (grown_set _ ⟨B, 10, none⟩ _)⟩
end Go.Proofs.YtekminpoiokgfaaGreatDoor

/- Whether a name is a field's. -/
namespace Go.Proofs.YtekminpoiokgfaaGreatDoor
open Go Go.RowKit Cal
attribute [local go_sem] Oper.semAt_some

theorem fld_eq (i k : Nat) (hi : i < 6) (hk : k < 6) : ((fldB k).toList == (fldB i).toList) = decide (i = k) := by
  rw [ByteArray.toList_eq, ByteArray.toList_eq]
  have h : ∀ i : Fin 6, ∀ k : Fin 6, ((fldB k.1).data.toList == (fldB i.1).data.toList) = decide (i.1 = k.1) := by decide
  exact h ⟨i, hi⟩ ⟨k, hk⟩

end Go.Proofs.YtekminpoiokgfaaGreatDoor

/- Package event's Set: a field of an event, set as another one's is. -/
namespace Go.Proofs.YtekminpoiokgfaaGreatDoor
open Go Go.RowKit Cal
attribute [local go_sem] Oper.semAt_some

end Go.Proofs.YtekminpoiokgfaaGreatDoor
