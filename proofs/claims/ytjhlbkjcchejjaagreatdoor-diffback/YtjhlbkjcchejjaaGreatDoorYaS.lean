/- A book as a calendar in plain words: New, Put, Drop, Get, IDs, On. -/
import Derived.Test.YtjhlbkjcchejjaaGreatDoorYaR
import Derived.Test.YtjhlbkjcchejjaaGreatDoorYaP
import Derived.Test.YtjhlbkjcchejjaaGreatDoorBkJW
import Derived.Test.YtjhlbkjcchejjaaGreatDoorBkIW
namespace Go.Proofs.YtjhlbkjcchejjaaGreatDoor
open Go Go.RowKit Go.Maps Go.Sort Cal

theorem ew_bd {E : EV} (h : EW E) : E.id.size ≤ 12 ∧ E.ti.size ≤ 40 ∧ E.sk.length ≤ 20 ∧ E.mv.length ≤ 20 := ⟨h.id.2.2, h.ti.2, (lk_of h.ls).1, (lk_of h.ls).2.1⟩
theorem OffI.step {N : Nat → Prop} {W W' : World} {v : Value} {xs : List Int} (h : OffI N W v xs) (hb : Below W.heap.size W W') : OffI N W' v xs := by
  obtain ⟨a, c, h1, h2, h3, h4⟩ := h
  refine ⟨a, c, h1, h2, h3, fun j hj => ?_⟩
  obtain ⟨b, e, hn, hl, hc⟩ := h4 j hj
  exact ⟨b, e, hn, Nat.lt_of_lt_of_le hl hb.size, cell_step hc hb⟩
theorem OffM.step {N : Nat → Prop} {W W' : World} {v : Value} {xs : List (Int × Int)} (h : OffM N W v xs) (hb : Below W.heap.size W W') : OffM N W' v xs := by
  obtain ⟨a, c, h1, h2, h3, h4⟩ := h
  refine ⟨a, c, h1, h2, h3, fun j hj => ?_⟩
  obtain ⟨b, e, hn, hl, hc, hd⟩ := h4 j hj
  exact ⟨b, e, hn, Nat.lt_of_lt_of_le hl hb.size, cell_step hc hb, cell_step hd hb⟩
theorem Off.step {N : Nat → Prop} {W W' : World} {E : EV} {sl skv mvv : Value} (h : Off N W E sl skv mvv) (hb : Below W.heap.size W W') : Off N W' E sl skv mvv := ⟨h.d.step hb, h.s.step hb, h.m.step hb⟩
theorem Off.ls {N : Nat → Prop} {W : World} {E : EV} {sl skv mvv : Value} (h : Off N W E sl skv mvv) (h20 : E.ds.length ≤ 20) : Ls W E sl skv mvv := ⟨ints_days h.d.ints h20, h.s.ints, h.m.movs⟩
theorem kept_cellM {w w' : World} {bb b o : Nat} {mo : Option Nat} {v : Value} (h : Kept w w' bb mo) (hc : w.cell? ⟨b, o, none⟩ = some v) (h1 : b ≠ bb) (h2 : some b ≠ mo) : w'.cell? ⟨b, o, none⟩ = some v :=
  (World.cell?_of_block (a := ⟨b, o, none⟩) (h.block b (lt_of_cell hc) h1 h2)).trans hc
theorem OffI.kept {N : Nat → Prop} {w w' : World} {bb : Nat} {mo : Option Nat} {v : Value} {xs : List Int} (h : OffI N w v xs) (hk : Kept w w' bb mo) (h1 : N bb) (h2 : ∀ b, some b = mo → N b) : OffI N w' v xs := by
  obtain ⟨a, c, q1, q2, q3, q4⟩ := h
  refine ⟨a, c, q1, q2, q3, fun j hj => ?_⟩
  obtain ⟨b, e, hn, hl, hc⟩ := q4 j hj
  exact ⟨b, e, hn, Nat.lt_of_lt_of_le hl hk.size, kept_cellM hk hc (fun q => hn (q ▸ h1)) (fun q => hn (h2 b q))⟩
theorem OffM.kept {N : Nat → Prop} {w w' : World} {bb : Nat} {mo : Option Nat} {v : Value} {xs : List (Int × Int)} (h : OffM N w v xs) (hk : Kept w w' bb mo) (h1 : N bb) (h2 : ∀ b, some b = mo → N b) : OffM N w' v xs := by
  obtain ⟨a, c, q1, q2, q3, q4⟩ := h
  refine ⟨a, c, q1, q2, q3, fun j hj => ?_⟩
  obtain ⟨b, e, hn, hl, hc, hd⟩ := q4 j hj
  exact ⟨b, e, hn, Nat.lt_of_lt_of_le hl hk.size, kept_cellM hk hc (fun q => hn (q ▸ h1)) (fun q => hn (h2 b q)), kept_cellM hk hd (fun q => hn (q ▸ h1)) (fun q => hn (h2 b q))⟩
theorem Off.kept {N : Nat → Prop} {w w' : World} {bb : Nat} {mo : Option Nat} {E : EV} {sl skv mvv : Value} (h : Off N w E sl skv mvv) (hk : Kept w w' bb mo) (h1 : N bb) (h2 : ∀ b, some b = mo → N b) : Off N w' E sl skv mvv := ⟨h.d.kept hk h1 h2, h.s.kept hk h1 h2, h.m.kept hk h1 h2⟩

/-- the blocks in which no event's list of a book lies -/
def NotIn (lo bb : Nat) (mo : Option Nat) (k : Nat) : Prop := k < lo ∨ k = bb ∨ some k = mo
/-- block bb is a book of the calendar C; all that is its own lies from block lo on; mo: its map -/
def BookAt (lo : Nat) (W : World) (bb : Nat) (mo : Option Nat) (n : Nat) (C : List EV) : Prop :=
  ∃ D, Bok W bb mo n D ∧ lo ≤ W.heap.size ∧ (∀ mb, mo = some mb → lo ≤ mb) ∧ Holds (NotIn lo bb mo) W D C
theorem Holds.step {N : Nat → Prop} {W W' : World} {D : DataW Value} {C : List EV} (h : Holds N W D C) (hb : Below W.heap.size W W') : Holds N W' D C :=
  ⟨h.up, h.tidy, h.size, h.has, fun E hE => by
    obtain ⟨q, sl, skv, mvv, h1, h2⟩ := h.at_ E hE
    exact ⟨q, sl, skv, mvv, h1, h2.step hb⟩⟩
theorem BookAt.step {lo : Nat} {W W' : World} {bb : Nat} {mo : Option Nat} {n : Nat} {C : List EV} (h : BookAt lo W bb mo n C) (hb : Below W.heap.size W W') : BookAt lo W' bb mo n C := by
  obtain ⟨D, h1, h2, h3, h4⟩ := h
  exact ⟨D, h1.step hb, Nat.le_trans h2 hb.size, h3, h4.step hb⟩
theorem BookAt.lt {lo : Nat} {W : World} {bb : Nat} {mo : Option Nat} {n : Nat} {C : List EV} (h : BookAt lo W bb mo n C) : bb < W.heap.size ∧ ∀ mb, mo = some mb → mb < W.heap.size := by
  obtain ⟨D, h1, h2, h3, h4⟩ := h
  refine ⟨(Array.getElem?_eq_some_iff.1 h1.1).1, fun mb e => ?_⟩
  subst e
  exact h1.2.2.lt
theorem BookAt.rises {lo : Nat} {W : World} {bb : Nat} {mo : Option Nat} {n : Nat} {C : List EV} (h : BookAt lo W bb mo n C) : Rises C ∧ ∀ E ∈ C, EW E := by
  obtain ⟨D, h1, h2, h3, h4⟩ := h
  exact ⟨h4.up, fun E hE => (h4.at_ E hE).1.1⟩
theorem bookAt_new (w : World) : Calls Tryz.prog 45 #[] w fun r w' => r = .returned (.pointer (some ⟨w.heap.size, 0, none⟩)) ∧ BookAt w.heap.size w' w.heap.size none 0 [] ∧ Below w.heap.size w w' :=
  Calls.mono (new_any w) (by
    rintro r w' ⟨rfl, h1, h2⟩
    exact ⟨rfl, ⟨_, h1, h2.size, (fun mb e => by cases e), Holds.none _ _⟩, h2⟩)

theorem BookAt.nil {lo : Nat} {W : World} {bb n : Nat} {C : List EV} (h : BookAt lo W bb none n C) : C = [] := by
  obtain ⟨D, h1, h2, h3, h4⟩ := h
  have hD : D = .map [] := h1.2
  subst hD
  exact List.length_eq_zero_iff.1 (by rw [← h4.size]; rfl)
theorem BookAt.lift {lo lo' : Nat} {W : World} {bb n : Nat} (h : BookAt lo W bb none n []) (hl : lo' ≤ W.heap.size) : BookAt lo' W bb none n [] := by
  obtain ⟨D, h1, h2, h3, h4⟩ := h
  have hD : D = .map [] := h1.2
  subst hD
  exact ⟨_, h1, hl, (fun mb e => by cases e), Holds.none _ _⟩
theorem BookAt.grown {lo : Nat} {W W' : World} {bb : Nat} {mo : Option Nat} {n B : Nat} {C : List EV} (h : BookAt lo W bb mo n C) (hg : W.grownBy W' (some B)) (hB : B < lo) (hne : B ≠ bb) : BookAt lo W' bb mo n C := by
  obtain ⟨D, h1, h2, h3, h4⟩ := h
  refine ⟨D, ⟨(hg.block bb (Array.getElem?_eq_some_iff.1 h1.1).1 (fun q => hne (Option.some.inj q).symm)).trans h1.1, ?_⟩, Nat.le_trans h2 hg.size, h3, h4.up, h4.tidy, h4.size, h4.has, fun E hE => ?_⟩
  · cases mo with
    | none => exact h1.2
    | some mb => exact ⟨h1.2.1, h1.2.2.kept hg (fun q => by have := Option.some.inj q; have := h3 mb rfl; omega)⟩
  · obtain ⟨q, sl, skv, mvv, q1, q2⟩ := h4.at_ E hE
    exact ⟨q, sl, skv, mvv, q1, q2.grown (.inl hB) hg⟩

theorem key_ne {a b : ByteArray} (h : a ≠ b) : key a ≠ key b := fun q => h (id_eq (by unfold key at q; exact Lit.string.inj q))
theorem key_lit (a : ByteArray) : WideAt.IsKeyLit (key a) := trivial
theorem Holds.hasE {N : Nat → Prop} {W : World} {D : DataW Value} {C : List EV} (h : Holds N W D C) (id : ByteArray) : Maps.has D (key id) = true ↔ ∃ E ∈ C, E.id = id := by
  unfold key
  rw [h.has]
  constructor
  · rintro ⟨E, hE, q⟩; exact ⟨E, hE, id_eq q⟩
  · rintro ⟨E, hE, q⟩; exact ⟨E, hE, by unfold kb; rw [q]⟩
theorem tidy_map {D : DataW Value} (h : Tidy D) : IsMap D := by
  obtain ⟨es, q, _⟩ := h
  exact ⟨es, q⟩
/-- what a book holds behind an event that is kept -/
theorem Holds.put {N N' : Nat → Prop} {W W' : World} {D : DataW Value} {C : List EV} (h : Holds N W D C) {E : EV} {sl skv mvv : Value} (hw : EW E) (h20 : E.ds.length ≤ 20) (ho : Off N' W' E sl skv mvv)
    (hold : ∀ F ∈ C, F.id ≠ E.id → ∀ sl skv mvv, Off N W F sl skv mvv → Off N' W' F sl skv mvv) : Holds N' W' (D.put (key E.id) (.held (ev E sl skv mvv))) (putC E C) := by
  refine ⟨putC_rises h.up, h.tidy.put (key_lit _) _, ?_, fun x => ?_, fun F hF => ?_⟩
  · rw [size_put h.tidy]
    by_cases hx : ∃ F ∈ C, F.id = E.id
    · rw [if_pos ((h.hasE E.id).2 hx), h.size]
      obtain ⟨F, hF, e⟩ := hx
      unfold putC
      rw [insE_len, ← e, woC_len h.up hF]
    · rw [if_neg (fun q => hx ((h.hasE E.id).1 q)), h.size]
      unfold putC
      rw [insE_len, woC_same (fun F hF q => hx ⟨F, hF, q⟩)]
  · by_cases hx : kb E = x
    · subst hx
      exact ⟨fun _ => ⟨E, putC_mem.2 (.inl rfl), rfl⟩, fun _ => has_put_same (tidy_map h.tidy) (key_lit E.id) _⟩
    · rw [has_put_other (show Lit.string x ≠ key E.id from fun q => hx (Lit.string.inj q).symm), h.has]
      constructor
      · rintro ⟨F, hF, rfl⟩
        exact ⟨F, putC_mem.2 (.inr ⟨hF, fun q => hx (by unfold kb; rw [q])⟩), rfl⟩
      · rintro ⟨F, hF, rfl⟩
        rcases putC_mem.1 hF with rfl | ⟨hF', _⟩
        · exact absurd rfl hx
        · exact ⟨F, hF', rfl⟩
  · rcases putC_mem.1 hF with rfl | ⟨hF', hne⟩
    · exact ⟨⟨hw, h20⟩, sl, skv, mvv, atKey_put_same (tidy_map h.tidy) (key_lit _) _ _, ho⟩
    · obtain ⟨q, sl1, skv1, mvv1, q1, q2⟩ := h.at_ F hF'
      exact ⟨q, sl1, skv1, mvv1, by rw [atKey_put_other (key_ne hne)]; exact q1, hold F hF' hne _ _ _ q2⟩
/-- what it holds behind one that is dropped -/
theorem Holds.del {N : Nat → Prop} {W W' : World} {D : DataW Value} {C : List EV} (h : Holds N W D C) (id : ByteArray) (hold : ∀ F ∈ C, ∀ sl skv mvv, Off N W F sl skv mvv → Off N W' F sl skv mvv) (hx : ∃ F ∈ C, F.id = id) : Holds N W' (D.del (key id)) (woC id C) := by
  refine ⟨woC_rises h.up, h.tidy.del _, ?_, fun x => ?_, fun F hF => ?_⟩
  · have hs := size_del (k := key id) h.tidy
    rw [if_pos ((h.hasE id).2 hx), h.size] at hs
    obtain ⟨F, hF, e⟩ := hx
    have := woC_len h.up hF
    rw [e] at this
    omega
  · by_cases hq : id.data.toList = x
    · subst hq
      constructor
      · intro q
        rw [show Lit.string id.data.toList = key id from rfl, has_del_same] at q
        cases q
      · rintro ⟨F, hF, e⟩
        exact absurd (id_eq e) (woC_mem.1 hF).2
    · rw [has_del_other (show Lit.string x ≠ key id from fun q => hq (Lit.string.inj q).symm), h.has]
      constructor
      · rintro ⟨F, hF, rfl⟩
        exact ⟨F, woC_mem.2 ⟨hF, fun q => hq (by unfold kb; rw [q])⟩, rfl⟩
      · rintro ⟨F, hF, rfl⟩
        exact ⟨F, (woC_mem.1 hF).1, rfl⟩
  · obtain ⟨hF', hne⟩ := woC_mem.1 hF
    obtain ⟨q, sl1, skv1, mvv1, q1, q2⟩ := h.at_ F hF'
    exact ⟨q, sl1, skv1, mvv1, by rw [atKey_del_other (key_ne hne)]; exact q1, hold F hF' _ _ _ q2⟩
/-- what an ID's element is -/
theorem Holds.look {N : Nat → Prop} {W : World} {D : DataW Value} {C : List EV} (h : Holds N W D C) (id : ByteArray) : (∃ E ∈ C, E.id = id ∧ ∃ sl skv mvv, D.atKey (key id) (.held zV) = .held (ev E sl skv mvv) ∧ Off N W E sl skv mvv) ∨ ((¬ ∃ E ∈ C, E.id = id) ∧ D.atKey (key id) (.held zV) = .held zV) := by
  by_cases hx : ∃ E ∈ C, E.id = id
  · obtain ⟨E, hE, rfl⟩ := hx
    obtain ⟨q, sl, skv, mvv, q1, q2⟩ := h.at_ E hE
    exact .inl ⟨E, hE, rfl, sl, skv, mvv, q1, q2⟩
  · refine .inr ⟨hx, atKey_of_not_has ?_ _⟩
    cases hh : Maps.has D (key id) with
    | false => rfl
    | true => exact absurd ((h.hasE id).1 hh) hx

/-- what Put leaves of a calendar -/
def PutTo (lo : Nat) (w w' : World) (bb : Nat) (mo : Option Nat) (n : Nat) (C : List EV) : Prop :=
  ∃ mo', BookAt lo w' bb mo' (n + 1) C ∧ Kept w w' bb mo ∧ (mo' = mo ∨ (mo = none ∧ ∀ mb, mo' = some mb → w.heap.size ≤ mb))
theorem bok_mono {W : World} {bb n n' : Nat} {mo : Option Nat} {D : DataW Value} (h : Bok W bb mo n D) (hn : n ≤ n') : Bok W bb mo n' D := by
  obtain ⟨h1, h2⟩ := h
  refine ⟨h1, ?_⟩
  cases mo with
  | none => exact h2
  | some mb =>
    obtain ⟨h3, es, clock, q1, q2, q3, q4⟩ := h2
    exact ⟨h3, es, clock, q1, q2, Nat.le_trans q3 hn, q4⟩
theorem keep_C (lo bb n : Nat) (mo : Option Nat) (C : List EV) (E : EV) (sl skv mvv : Value) (w : World) (h : BookAt lo w bb mo n C) (hn : n ≤ 90000) (hw : EW E) (hL : Ls w E sl skv mvv) :
    Calls Tryz.prog 85 #[.pointer (some ⟨bb, 0, none⟩), ev E sl skv mvv] w fun r w' => (∃ v, r = .returned v) ∧ PutTo lo w w' bb mo n (putC E C) := by
  obtain ⟨i12, t40, k20, m20⟩ := ew_bd hw
  have h20 : E.ds.length ≤ 20 := by obtain ⟨_, _, _, q, _⟩ := hL.d; exact q
  have hlt := h.lt
  obtain ⟨D, h1, h2, h3, h4⟩ := h
  cases mo with
  | none =>
    have hD : D = .map [] := h1.2
    subst hD
    have hC : C = [] := List.length_eq_zero_iff.1 (by rw [← h4.size]; rfl)
    subst hC
    refine Calls.mono (keep_none bb E sl skv mvv n w h1 (by omega) hL k20 m20) ?_
    rintro r w' ⟨hr, mb, hm, sl', skv', mvv', q1, q2, q3⟩
    refine ⟨hr, some mb, ⟨_, bok_mono q1 (by omega), Nat.le_trans h2 q3.size, fun mb' e => ?_, h4.put hw h20 (q2.mono (fun k hk => ?_)) (fun F hF => absurd hF (by simp))⟩, q3, .inr ⟨rfl, fun mb' e => ?_⟩⟩
    · cases e; omega
    · rcases hk with hk | hk | hk
      · exact .inl (by omega)
      · exact .inl (by omega)
      · exact .inr (Option.some.inj hk)
    · cases e; omega
  | some mb =>
    refine Calls.mono (keep_some bb mb n D E sl skv mvv w h1 (by omega) (by omega) hL k20 m20) ?_
    rintro r w' ⟨hr, sl', skv', mvv', q1, q2, q3⟩
    have hmb := hlt.2 mb rfl
    refine ⟨hr, some mb, ⟨_, q1, Nat.le_trans h2 q3.size, h3, h4.put hw h20 (q2.mono (fun k hk => ?_)) (fun F hF hne s1 s2 s3 hO => hO.kept q3 (.inr (.inl rfl)) (fun b e => .inr (.inr e)))⟩, q3, .inl rfl⟩
    rcases hk with hk | hk | hk
    · exact .inl (by omega)
    · exact .inl (by omega)
    · exact .inr (Option.some.inj hk)
theorem put_C (lo bb n : Nat) (mo : Option Nat) (C : List EV) (E : EV) (sl skv mvv : Value) (k : Int) (s : Nat → Addr) (w : World) (g : GlobK s w) (h : BookAt lo w bb mo n C) (hn : n ≤ 90000) (hi : E.id.size ≤ 60) (ht : E.ti.size ≤ 60) (hL : Ls w E sl skv mvv) (hk : EvK E k) :
    Calls Tryz.prog 46 #[.pointer (some ⟨bb, 0, none⟩), ev E sl skv mvv] w fun r w' =>
      (k ≠ 0 ∧ r = .returned (errV s k) ∧ Below w.heap.size w w') ∨ (k = 0 ∧ ((¬ ∃ F ∈ C, F.id = E.id) ∧ 60 ≤ C.length) ∧ r = .returned (.iface 236 (.pointer (some (s 6)))) ∧ Below w.heap.size w w') ∨ (k = 0 ∧ ¬ ((¬ ∃ F ∈ C, F.id = E.id) ∧ 60 ≤ C.length) ∧ r = .returned .nilIface ∧ PutTo lo w w' bb mo n (putC E C)) := by
  have hbk := h
  obtain ⟨D, h1, h2, h3, h4⟩ := h
  have hat : ∃ (U : EV) (ua : Option Addr) (un uc : Nat) (va : Option Addr) (vn vc : Nat) (wa : Option Addr) (wn wd : Nat), D.atKey (key E.id) (.held zV) = .held (ev U (.slice ua un uc) (.slice va vn vc) (.slice wa wn wd)) := by
    rcases h4.look E.id with ⟨F, hF, e, sl1, skv1, mvv1, q1, q2⟩ | ⟨_, q⟩
    · obtain ⟨a1, c1, rfl, _⟩ := q2.d
      obtain ⟨a2, c2, rfl, _⟩ := q2.s
      obtain ⟨a3, c3, rfl, _⟩ := q2.m
      exact ⟨F, _, _, _, _, _, _, _, _, _, q1⟩
    · exact ⟨Z0, _, _, _, _, _, _, _, _, _, q⟩
  obtain ⟨U, ua, un, uc, va, vn, vc, wa, wn, wd, hat⟩ := hat
  have hfull : (Maps.has D (key E.id) = false ∧ 60 ≤ Maps.size D) ↔ ((¬ ∃ F ∈ C, F.id = E.id) ∧ 60 ≤ C.length) := by
    rw [h4.size, ← h4.hasE E.id, Bool.not_eq_true]
  refine Calls.mono (put_of bb n mo D E U sl skv mvv ua un uc va vn vc wa wn wd k s w g h1 (by omega) hi ht hL hk hat (fun w' => PutTo lo w w' bb mo n (putC E C)) (fun hk0 W hW => ?_)) ?_
  · refine Calls.mono (keep_C lo bb n mo C E sl skv mvv W (hbk.step hW) hn ((evK_0 hk).1 hk0) (hL.step hW)) ?_
    rintro r w' ⟨hr, mo', q1, q2, q3⟩
    refine ⟨hr, mo', q1, kept_from hW q2, q3.imp id (fun q => ⟨q.1, fun mb e => Nat.le_trans hW.size (q.2 mb e)⟩)⟩
  · rintro r w' (q | ⟨q0, q1, q2, q3⟩ | ⟨q0, q1, q2, q3⟩)
    · exact .inl q
    · exact .inr (.inl ⟨q0, hfull.1 q1, q2, q3⟩)
    · exact .inr (.inr ⟨q0, fun z => q1 (hfull.2 z), q2, q3⟩)

theorem bs_kb (E : EV) : bs (kb E) = E.id := by
  unfold bs kb
  cases E.id
  rfl
theorem keys_C {lo : Nat} {W : World} {bb : Nat} {mo : Option Nat} {n : Nat} {D : DataW Value} {C : List EV} (h1 : Bok W bb mo n D) (h4 : Holds (NotIn lo bb mo) W D C) {ss : List (List UInt8)} (hp : ss.Perm (strKeys D)) : ss.mergeSort (fun x y => decide (x ≤ y)) = C.map kb := by
  have hsk : (C.map kb).Perm (strKeys D) := by
    obtain ⟨es, hD, hpw⟩ := h4.tidy
    have hks : ∀ p ∈ es, ∃ x, p.1 = .string x := by
      cases mo with
      | none =>
        have hD' : D = .map [] := h1.2
        rw [hD] at hD'
        have : es = [] := by simpa using hD'
        rw [this]
        exact fun p hp => absurd hp (by simp)
      | some mb =>
        obtain ⟨es', hD', hko⟩ := h1.2.2.keysOf
        obtain rfl : es = es' := by rw [hD] at hD'; simpa using hD'
        exact fun p hp => by obtain ⟨v, hv⟩ := hko p hp; obtain ⟨x, _, hx, _⟩ := Maps.keyOf_str Tryz.underlying9 hv; exact ⟨x, hx⟩
    have hnd : (C.map kb).Nodup := List.pairwise_map.2 (h4.up.imp (fun {a b} q e => by rw [e] at q; exact List.lt_irrefl _ q))
    have hm : ∀ x, x ∈ C.map kb ↔ Maps.has (.map es) (.string x) = true := fun x => by
      rw [← hD, h4.has, List.mem_map]
    rw [hD]
    exact perm_strKeys hpw hks hnd hm
  have e1 : ss.mergeSort (fun x y => decide (x ≤ y)) = (C.map kb).mergeSort (fun x y => decide (x ≤ y)) := mergeSort_of_perm (hp.trans hsk.symm)
  rw [e1]
  refine List.mergeSort_of_pairwise ?_
  exact List.pairwise_map.2 (h4.up.imp (fun {a b} q => decide_eq_true (List.le_of_lt q)))
theorem ids_C (lo bb n : Nat) (mo : Option Nat) (C : List EV) (w : World) (h : BookAt lo w bb mo n C) (hn : n ≤ 100000) :
    Calls Tryz.prog 90 #[.pointer (some ⟨bb, 0, none⟩)] w fun r w' => ∃ v, r = .returned v ∧ RowV w.heap.size w' v (C.map EV.id) ∧ Below w.heap.size w w' := by
  obtain ⟨D, h1, h2, h3, h4⟩ := h
  refine Calls.mono (ids_any bb mo n D w h1 hn) ?_
  rintro r w' ⟨v, ss, rfl, hp, hr, hb⟩
  refine ⟨v, rfl, ?_, hb⟩
  have := rowV_own hr
  rw [keys_C h1 h4 hp, List.map_map] at this
  rwa [show (bs ∘ kb) = EV.id from funext bs_kb] at this
theorem get_C (lo bb n : Nat) (mo : Option Nat) (C : List EV) (E : EV) (hE : E ∈ C) (w : World) (h : BookAt lo w bb mo n C) :
    Calls Tryz.prog 94 #[.pointer (some ⟨bb, 0, none⟩), .string E.id] w fun r w' => ∃ sl' skv' mvv', r = .returned (.tuple #[ev E sl' skv' mvv', .bool true]) ∧ Ls w' E sl' skv' mvv' ∧ Below w.heap.size w w' := by
  obtain ⟨D, h1, h2, h3, h4⟩ := h
  obtain ⟨⟨hw, h20⟩, sl, skv, mvv, q1, q2⟩ := h4.at_ E hE
  obtain ⟨i12, t40, k20, m20⟩ := ew_bd hw
  have hh := (h4.hasE E.id).2 ⟨E, hE, rfl⟩
  cases mo with
  | none =>
    have hD : D = .map [] := h1.2
    rw [hD] at hh
    cases hh
  | some mb =>
    have := bget_any bb mb n D E.id E sl skv mvv w h1 (by omega) q1 (q2.ls h20) k20 m20
    rwa [hh] at this
/-- what Drop leaves of a calendar -/
theorem drop_C (lo bb n : Nat) (mo : Option Nat) (C : List EV) (id : ByteArray) (hid : id.size ≤ 1000) (p : Addr) (w : World) (h : BookAt lo w bb mo n C) (hN : w.cell? ⟨8, 0, none⟩ = some (.iface 236 (.pointer (some p)))) :
    Calls Tryz.prog 135 #[.pointer (some ⟨bb, 0, none⟩), .string id] w fun r w' => ((∃ E ∈ C, E.id = id) ∧ r = .returned .nilIface ∧ BookAt lo w' bb mo n (woC id C) ∧ Kept w w' bb mo) ∨ ((¬ ∃ E ∈ C, E.id = id) ∧ r = .returned (.iface 236 (.pointer (some p))) ∧ Below w.heap.size w w') := by
  obtain ⟨D, h1, h2, h3, h4⟩ := h
  by_cases hx : ∃ E ∈ C, E.id = id
  · have hh := (h4.hasE id).2 hx
    cases mo with
    | none =>
      have hD : D = .map [] := h1.2
      rw [hD] at hh
      cases hh
    | some mb =>
      obtain ⟨E, hE, rfl⟩ := hx
      obtain ⟨⟨hw, h20⟩, sl, skv, mvv, q1, q2⟩ := h4.at_ E hE
      obtain ⟨a1, c1, rfl, _⟩ := q2.d
      obtain ⟨a2, c2, rfl, _⟩ := q2.s
      obtain ⟨a3, c3, rfl, _⟩ := q2.m
      refine Calls.mono (drop_yes bb mb n D E.id E _ _ _ _ _ _ _ _ _ w h1 hid q1 hh) ?_
      rintro r w' ⟨rfl, hb1, hg⟩
      have hK : Kept w w' bb (some mb) := ⟨hg.os, hg.tape, hg.output, hg.size, fun k hk h1 h2 => hg.block k hk h2⟩
      exact .inl ⟨⟨E, hE, rfl⟩, rfl, ⟨_, hb1, Nat.le_trans h2 hK.size, h3, h4.del E.id (fun F hF s1 s2 s3 hO => hO.kept hK (.inr (.inl rfl)) (fun b e => .inr (.inr e))) ⟨E, hE, rfl⟩⟩, hK⟩
  · have hh : Maps.has D (key id) = false := by
      cases hq : Maps.has D (key id) with
      | false => rfl
      | true => exact absurd ((h4.hasE id).1 hq) hx
    refine Calls.mono (drop_no bb n mo D id p w h1 hid hh hN) ?_
    rintro r w' ⟨rfl, hb⟩
    exact .inr ⟨hx, rfl, hb⟩
end Go.Proofs.YtjhlbkjcchejjaaGreatDoor

/- Package diff's textOf and find: a field of an event, or all of it, as a change names it. -/
namespace Go.Proofs.YtjhlbkjcchejjaaGreatDoor
open Go Go.RowKit Go.Maps Go.Sort Cal
attribute [local go_sem] Oper.semAt_some

/-- the name of the whole event -/
def allW : ByteArray := ⟨#[97, 108, 108]⟩
/-- field k of the fields' names, or (6) all of an event -/
def fieldB : Nat → ByteArray
  | 6 => allW
  | k => fldB k
/-- an event's text in a field, or (6) all of it -/
noncomputable def cT (E : EV) : Nat → List UInt8
  | 6 => eT E
  | k => fT E k

theorem fld_all (k : Nat) (hk : k < 6) : ((fldB k).toList == [97, 108, 108]) = false := by
  rw [ByteArray.toList_eq]
  match k, hk with
  | 0, _ => rfl
  | 1, _ => rfl
  | 2, _ => rfl
  | 3, _ => rfl
  | 4, _ => rfl
  | 5, _ => rfl
theorem textOf_field (E : EV) (sl skv mvv : Value) (k : Nat) (hk : k < 6) (w : World) (g : GlobR w) (hL : Ls w E sl skv mvv) (hw : EW E) :
    Calls Tryz.prog 95 #[ev E sl skv mvv, .string (fldB k)] w fun r w' => r = .returned (.string (bs (fT E k))) ∧ Below w.heap.size w w' := by
  obtain ⟨hd, hs, hm⟩ := hL
  have H : Hid (∀ W, Below w.heap.size w W → Calls _ _ _ W _) := fun W hW => get_any E sl skv mvv k hk W (g.step hW) (hd.step hW) (hs.step hW) (hm.step hW) hw
  have hne := fld_all k hk
  obtain ⟨ra, rc, rfl, _⟩ := hd
  obtain ⟨sa, sc, rfl, _⟩ := hs
  obtain ⟨ma, mc, rfl, _⟩ := hm
  clear hw
  generalize fT E k = t at *
  generalize fldB k = f at *
  obtain ⟨idn, ti, st, lg, f', e, ds, c, u, sk, mv⟩ := E
  unfold ev at H ⊢
  dsimp only at H ⊢
  go_enter Tryz.func95, Tryz.ntmps95
  go_wp2_with (first
    | rw [hne]
    | (go_at_call 15; refine Calls.mono (H.out _ (below_alloc _ _)) ?_; rintro r w1 ⟨rfl, hb1⟩))
  go_ret
  exact ⟨rfl, below_then (below_alloc _ _) hb1⟩
theorem textOf_all (E : EV) (sl skv mvv : Value) (s : Nat → Addr) (w : World) (gk : GlobK s w) (g : GlobR w) (hL : Ls w E sl skv mvv) (hw : EW E) :
    Calls Tryz.prog 95 #[ev E sl skv mvv, .string allW] w fun r w' => r = .returned (.string (bs (eT E))) ∧ Below w.heap.size w w' := by
  obtain ⟨hd, hs, hm⟩ := hL
  have H : Hid (∀ W, Below w.heap.size w W → Calls _ _ _ W _) := fun W hW => etext_any E sl skv mvv s W (gk.step hW) (g.step hW) (hd.step hW) (hs.step hW) (hm.step hW) hw
  obtain ⟨ra, rc, rfl, _⟩ := hd
  obtain ⟨sa, sc, rfl, _⟩ := hs
  obtain ⟨ma, mc, rfl, _⟩ := hm
  clear hw
  generalize eT E = t at *
  obtain ⟨idn, ti, st, lg, f', e, ds, c, u, sk, mv⟩ := E
  unfold ev at H ⊢
  unfold allW
  dsimp only at H ⊢
  go_enter Tryz.func95, Tryz.ntmps95
  go_wp2_with (go_at_call 11; refine Calls.mono (H.out _ (below_alloc _ _)) ?_; rintro r w1 ⟨rfl, hb1⟩)
  go_ret
  exact ⟨rfl, below_then (below_alloc _ _) hb1⟩
theorem textOf_any (E : EV) (sl skv mvv : Value) (k : Nat) (hk : k < 7) (s : Nat → Addr) (w : World) (gk : GlobK s w) (g : GlobR w) (hL : Ls w E sl skv mvv) (hw : EW E) :
    Calls Tryz.prog 95 #[ev E sl skv mvv, .string (fieldB k)] w fun r w' => r = .returned (.string (bs (cT E k))) ∧ Below w.heap.size w w' := by
  match k, hk with
  | 0, _ => exact textOf_field E sl skv mvv 0 (by omega) w g hL hw
  | 1, _ => exact textOf_field E sl skv mvv 1 (by omega) w g hL hw
  | 2, _ => exact textOf_field E sl skv mvv 2 (by omega) w g hL hw
  | 3, _ => exact textOf_field E sl skv mvv 3 (by omega) w g hL hw
  | 4, _ => exact textOf_field E sl skv mvv 4 (by omega) w g hL hw
  | 5, _ => exact textOf_field E sl skv mvv 5 (by omega) w g hL hw
  | 6, _ => exact textOf_all E sl skv mvv s w gk g hL hw
end Go.Proofs.YtjhlbkjcchejjaaGreatDoor

/- Package book's Get, whether a book has a map or none; package diff's find. -/
namespace Go.Proofs.YtjhlbkjcchejjaaGreatDoor
open Go Go.RowKit Go.Maps Go.Sort Cal
attribute [local go_sem] Oper.semAt_some

set_option maxHeartbeats 4000000 in
set_option maxRecDepth 100000 in
theorem bget_mo (bb n : Nat) (mo : Option Nat) (D : DataW Value) (id : ByteArray) (E : EV) (sl skv mvv : Value) (w : World) (h : Bok w bb mo n D) (hid : id.size ≤ 1000) (hat : D.atKey (key id) (.held zV) = .held (ev E sl skv mvv)) (hL : Ls w E sl skv mvv) (k20 : E.sk.length ≤ 20) (m20 : E.mv.length ≤ 20) :
    Calls Tryz.prog 94 #[.pointer (some ⟨bb, 0, none⟩), .string id] w fun r w' => ∃ sl' skv' mvv', r = .returned (.tuple #[ev E sl' skv' mvv', .bool (Maps.has D (key id))]) ∧ Ls w' E sl' skv' mvv' ∧ Below w.heap.size w w' := by
  have HD20 : Hid (E.ds.length ≤ 20) := by obtain ⟨_, _, _, q, _⟩ := hL.d; exact q
  have HL : Hid (Ls w E sl skv mvv) := hL
  obtain ⟨hd, hs, hm⟩ := hL
  obtain ⟨ra, rc, rfl, _⟩ := hd
  obtain ⟨sa, sc, rfl, _⟩ := hs
  obtain ⟨ma, mc, rfl, _⟩ := hm
  unfold ev at hat
  have hA := below_alloc w (.cells #[.string ⟨#[]⟩, .string ⟨#[]⟩, .int .i64 0, .int .i64 0, .string ⟨#[]⟩, .int .i64 0, .slice none 0 0, .int .i64 0, .int .i64 0, .slice none 0 0, .slice none 0 0] 27)
  have kR : (w.alloc (.cells #[.string ⟨#[]⟩, .string ⟨#[]⟩, .int .i64 0, .int .i64 0, .string ⟨#[]⟩, .int .i64 0, .slice none 0 0, .int .i64 0, .int .i64 0, .slice none 0 0, .slice none 0 0] 27)).heap[w.heap.size]? = some (.cells #[.string ⟨#[]⟩, .string ⟨#[]⟩, .int .i64 0, .int .i64 0, .string ⟨#[]⟩, .int .i64 0, .slice none 0 0, .int .i64 0, .int .i64 0, .slice none 0 0, .slice none 0 0] 27 (0, 0)) := block_at _ rfl
  have hz : (w.alloc (.cells #[.string ⟨#[]⟩, .string ⟨#[]⟩, .int .i64 0, .int .i64 0, .string ⟨#[]⟩, .int .i64 0, .slice none 0 0, .int .i64 0, .int .i64 0, .slice none 0 0, .slice none 0 0] 27)).heap.size = w.heap.size + 1 := World.size_alloc _ _
  have AL : Hid (Calls _ _ _ _ _) := all_any bb mo n D _ (h.step hA)
  have LK := look_eq (h.step hA) hid hat
  have HA : Hid (_) := hA
  have KR : Hid (_) := kR
  have HZ : Hid (_) := hz
  clear hA kR hz hat h
  unfold ev
  go_enter Tryz.func94, Tryz.ntmps94
  generalize hw0 : w.alloc (.cells #[.string ⟨#[]⟩, .string ⟨#[]⟩, .int .i64 0, .int .i64 0, .string ⟨#[]⟩, .int .i64 0, .slice none 0 0, .int .i64 0, .int .i64 0, .slice none 0 0, .slice none 0 0] 27) = w0 at AL LK HA KR HZ
  go_upto_region 2 with (first
    | (go_at_call 97; refine Calls.mono AL.out ?_; rintro r w' ⟨rfl, hq⟩; have hq := hq.symm; subst hq)
    | go_in)
  have KE : Hid (EB (w0.alloc (.cells #[.string E.id, .string E.ti, .int .i64 E.st, .int .i64 E.lg, .string E.f, .int .i64 E.e, .slice ra E.ds.length rc, .int .i64 E.c, .int .i64 E.u, .slice sa E.sk.length sc, .slice ma E.mv.length mc] 27)) w0.heap.size E (.slice ra E.ds.length rc) (.slice sa E.sk.length sc) (.slice ma E.mv.length mc)) := EB.new w0 E _ _ _
  have LE : Hid (Ls (w0.alloc (.cells #[.string E.id, .string E.ti, .int .i64 E.st, .int .i64 E.lg, .string E.f, .int .i64 E.e, .slice ra E.ds.length rc, .int .i64 E.c, .int .i64 E.u, .slice sa E.sk.length sc, .slice ma E.mv.length mc] 27)) E (.slice ra E.ds.length rc) (.slice sa E.sk.length sc) (.slice ma E.mv.length mc)) := HL.out.step (below_then HA.out (below_alloc _ _))
  have KR1 : Hid ((w0.alloc (.cells #[.string E.id, .string E.ti, .int .i64 E.st, .int .i64 E.lg, .string E.f, .int .i64 E.e, .slice ra E.ds.length rc, .int .i64 E.c, .int .i64 E.u, .slice sa E.sk.length sc, .slice ma E.mv.length mc] 27)).heap[w.heap.size]? = some (.cells #[.string ⟨#[]⟩, .string ⟨#[]⟩, .int .i64 0, .int .i64 0, .string ⟨#[]⟩, .int .i64 0, .slice none 0 0, .int .i64 0, .int .i64 0, .slice none 0 0, .slice none 0 0] 27 (0, 0))) := block_alloc _ KR.out
  have B1 : Hid (Below w.heap.size w (w0.alloc (.cells #[.string E.id, .string E.ti, .int .i64 E.st, .int .i64 E.lg, .string E.f, .int .i64 E.e, .slice ra E.ds.length rc, .int .i64 E.c, .int .i64 E.u, .slice sa E.sk.length sc, .slice ma E.mv.length mc] 27))) := below_then HA.out (below_alloc _ _)
  have hs1 : w.heap.size + 1 ≤ (w0.alloc (.cells #[.string E.id, .string E.ti, .int .i64 E.st, .int .i64 E.lg, .string E.f, .int .i64 E.e, .slice ra E.ds.length rc, .int .i64 E.c, .int .i64 E.u, .slice sa E.sk.length sc, .slice ma E.mv.length mc] 27)).heap.size := by rw [World.size_alloc, HZ.out]; omega
  clear AL LK HA KR HZ HL
  generalize w0.alloc (.cells #[.string E.id, .string E.ti, .int .i64 E.st, .int .i64 E.lg, .string E.f, .int .i64 E.e, .slice ra E.ds.length rc, .int .i64 E.c, .int .i64 E.u, .slice sa E.sk.length sc, .slice ma E.mv.length mc] 27) = w1 at KE LE KR1 B1 hs1 ⊢
  generalize w0.heap.size = be at KE ⊢
  have CP := copy_any E _ _ _ w1 LE.out k20 m20
  unfold ev at CP
  have HCP : Hid (Calls _ _ _ _ _) := CP
  clear CP LE
  obtain ⟨x0, x1, x2, x3, x4, x5, x6, x7, x8, x9, x10⟩ := blk11 (show w1.heap[be]? = _ from KE.out)
  have m8 : E.mv.length ≤ 80000 := by omega
  go_wp2_with (go_at_call 38; refine Calls.mono HCP.out ?_; rintro r w5 ⟨sl2, sk2, mv2, rfl, ho1, ho2, ho3, hb5⟩; obtain ⟨r2, rc2, rfl⟩ := ow_form ho1; obtain ⟨s2, sc2, rfl⟩ := ow_form ho2; obtain ⟨m2, mc2, rfl⟩ := gotM_form (owm_movs ho3 m8).2; have KR5 : Hid (w5.heap[w.heap.size]? = some (.cells #[.string ⟨#[]⟩, .string ⟨#[]⟩, .int .i64 0, .int .i64 0, .string ⟨#[]⟩, .int .i64 0, .slice none 0 0, .int .i64 0, .int .i64 0, .slice none 0 0, .slice none 0 0] 27 (0, 0))) := (hb5.block _ (Nat.lt_of_succ_le hs1)).trans KR1.out; obtain ⟨t0, t1, t2, t3, t4, t5, t6, t7, t8, t9, t10⟩ := blk11 KR5.out; have f0 := blk11_frozen KR5.out 0; have f1 := blk11_frozen KR5.out 1; have f2 := blk11_frozen KR5.out 2; have f3 := blk11_frozen KR5.out 3; have f4 := blk11_frozen KR5.out 4; have f5 := blk11_frozen KR5.out 5; have f6 := blk11_frozen KR5.out 6; have f7 := blk11_frozen KR5.out 7; have f8 := blk11_frozen KR5.out 8; have f9 := blk11_frozen KR5.out 9; have f10 := blk11_frozen KR5.out 10)
  rw [put11_fold]
  have n10 := put11_blk (.string E.id) (.string E.ti) (.int .i64 E.st) (.int .i64 E.lg) (.string E.f) (.int .i64 E.e) (.slice r2 E.ds.length rc2) (.int .i64 E.c) (.int .i64 E.u) (.slice s2 E.sk.length sc2) (.slice m2 E.mv.length mc2) KR5.out
  have g7 := put11_grown w5 w.heap.size (.string E.id) (.string E.ti) (.int .i64 E.st) (.int .i64 E.lg) (.string E.f) (.int .i64 E.e) (.slice r2 E.ds.length rc2) (.int .i64 E.c) (.int .i64 E.u) (.slice s2 E.sk.length sc2) (.slice m2 E.mv.length mc2)
  clear x0 x1 x2 x3 x4 x5 x6 x7 x8 x9 x10 t0 t1 t2 t3 t4 t5 t6 t7 t8 t9 t10 f0 f1 f2 f3 f4 f5 f6 f7 f8 f9 f10
  have o1 := Ow.grown ho1 g7 (by omega)
  have o2 := Ow.grown ho2 g7 (by omega)
  have o3 := OwM.grown ho3 g7 (by omega)
  generalize put11 w5 w.heap.size (.string E.id) (.string E.ti) (.int .i64 E.st) (.int .i64 E.lg) (.string E.f) (.int .i64 E.e) (.slice r2 E.ds.length rc2) (.int .i64 E.c) (.int .i64 E.u) (.slice s2 E.sk.length sc2) (.slice m2 E.mv.length mc2) = w7 at n10 g7 o1 o2 o3 ⊢
  obtain ⟨c0, c1, c2, c3, c4, c5, c6, c7, c8, c9, c10⟩ := blk11 n10
  refine bodyPost_ret (v := .tuple #[.agg #[.string E.id, .string E.ti, .int .i64 E.st, .int .i64 E.lg, .string E.f, .int .i64 E.e, .slice r2 E.ds.length rc2, .int .i64 E.c, .int .i64 E.u, .slice s2 E.sk.length sc2, .slice m2 E.mv.length mc2], .bool (Maps.has D (key id))]) (by simp [results, Tryz.f94, go_sem, c0, c1, c2, c3, c4, c5, c6, c7, c8, c9, c10]) rfl ⟨_, _, _, rfl, ⟨ow_days o1 HD20.out, ow_ints o2 (by omega), (owm_movs o3 m8).1⟩, (below_then B1.out hb5).grown g7 (below_then B1.out hb5).size (fun k q => by cases q; exact Nat.le_refl _)⟩
/-- the event that is none -/
def zE : EV := ⟨⟨#[]⟩, ⟨#[]⟩, 0, 0, ⟨#[]⟩, 0, [], 0, 0, [], []⟩
theorem get_no (lo bb n : Nat) (mo : Option Nat) (C : List EV) (id : ByteArray) (hid : id.size ≤ 1000) (hn : ¬ ∃ E ∈ C, E.id = id) (w : World) (h : BookAt lo w bb mo n C) :
    Calls Tryz.prog 94 #[.pointer (some ⟨bb, 0, none⟩), .string id] w fun r w' => ∃ sl' skv' mvv', r = .returned (.tuple #[ev zE sl' skv' mvv', .bool false]) ∧ Ls w' zE sl' skv' mvv' ∧ Below w.heap.size w w' := by
  obtain ⟨D, h1, h2, h3, h4⟩ := h
  have hh : Maps.has D (key id) = false := by
    cases hq : Maps.has D (key id) with
    | false => rfl
    | true => exact absurd ((h4.hasE id).1 hq) hn
  have := bget_mo bb n mo D id zE (.slice none 0 0) (.slice none 0 0) (.slice none 0 0) w h1 hid (Maps.atKey_of_not_has hh (.held zV)) ⟨Days.nil _ _, Ints.nil _ _, Movs.nil _ _⟩ (by decide) (by decide)
  rwa [hh] at this
end Go.Proofs.YtjhlbkjcchejjaaGreatDoor
