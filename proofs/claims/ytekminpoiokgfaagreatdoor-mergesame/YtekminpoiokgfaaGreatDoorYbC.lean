/- The event that three become, where no field clashes: its text is the joined one. -/
import Derived.Test.YtekminpoiokgfaaGreatDoorMgPW
import Derived.Test.YtekminpoiokgfaaGreatDoorYaZ
namespace Go.Proofs.YtekminpoiokgfaaGreatDoor
open Go Go.RowKit Go.Maps Go.Sort Cal

open Classical in
/-- whose field it is -/
noncomputable def pick (E1 E2 E3 : EV) (k : Nat) : EV := if bs (fT E2 k) = bs (fT E3 k) ∨ bs (fT E3 k) = bs (fT E1 k) then E2 else E3
theorem pick_in (E1 E2 E3 : EV) (k : Nat) : pick E1 E2 E3 k = E2 ∨ pick E1 E2 E3 k = E3 := by
  unfold pick
  split
  · exact .inl rfl
  · exact .inr rfl
theorem pick_one {E1 E2 E3 : EV} {k : Nat} {t : ByteArray} (h : one3 (bs (fT E1 k)) (bs (fT E2 k)) (bs (fT E3 k)) = some t) : t = bs (fT (pick E1 E2 E3 k) k) := by
  unfold one3 at h
  unfold pick
  split at h
  · rename_i q
    rw [if_pos q]
    exact (Option.some.inj h).symm
  · rename_i q
    rw [if_neg q]
    split at h
    · exact (Option.some.inj h).symm
    · cases h
/-- the event that three become -/
noncomputable def jE (E1 E2 E3 : EV) : EV where
  id := E1.id
  ti := (pick E1 E2 E3 0).ti
  st := (pick E1 E2 E3 1).st
  lg := (pick E1 E2 E3 2).lg
  f := (pick E1 E2 E3 3).f
  e := (pick E1 E2 E3 3).e
  ds := (pick E1 E2 E3 3).ds
  c := (pick E1 E2 E3 3).c
  u := (pick E1 E2 E3 3).u
  sk := if (one3 (bs (fT E1 4)) (bs (fT E2 4)) (bs (fT E3 4))).isSome then (pick E1 E2 E3 4).sk else jSk E1.sk E2.sk E3.sk
  mv := if (one3 (bs (fT E1 5)) (bs (fT E2 5)) (bs (fT E3 5))).isSome then (pick E1 E2 E3 5).mv else (jMv E1.mv E2.mv E3.mv).getD []
theorem jF_some {E1 E2 E3 : EV} {k : Nat} {t : ByteArray} (h : one3 (bs (fT E1 k)) (bs (fT E2 k)) (bs (fT E3 k)) = some t) : jF E1 E2 E3 k = (t, true) := by unfold jF; rw [h]
theorem jE_field (E1 E2 E3 : EV) (k : Nat) (hk : k < 6) (h : (jF E1 E2 E3 k).2 = true) : bs (fT (jE E1 E2 E3) k) = (jF E1 E2 E3 k).1 := by
  cases hz : one3 (bs (fT E1 k)) (bs (fT E2 k)) (bs (fT E3 k)) with
  | some t =>
    rw [jF_some hz, pick_one hz]
    match k, hk with
    | 0, _ => rfl
    | 1, _ => rfl
    | 2, _ => rfl
    | 3, _ => rfl
    | 4, _ => show bs (Lib.join (List.map dtx (jE E1 E2 E3).sk) [44]) = bs (Lib.join (List.map dtx (pick E1 E2 E3 4).sk) [44]); unfold jE; dsimp only; rw [hz]; rfl
    | 5, _ => show bs (Lib.join (List.map mtx (jE E1 E2 E3).mv) [44]) = bs (Lib.join (List.map mtx (pick E1 E2 E3 5).mv) [44]); unfold jE; dsimp only; rw [hz]; rfl
  | none =>
    unfold jF at h ⊢
    rw [hz] at h ⊢
    dsimp only at h ⊢
    by_cases h4 : k = 4
    · subst h4
      rw [if_pos rfl]
      show bs (Lib.join (List.map dtx (jE E1 E2 E3).sk) [44]) = _
      unfold jE; dsimp only; rw [hz]; rfl
    · rw [if_neg h4] at h ⊢
      by_cases h5 : k = 5
      · subst h5
        rw [if_pos rfl]
        show bs (Lib.join (List.map mtx (jE E1 E2 E3).mv) [44]) = _
        unfold jE; dsimp only; rw [hz]; rfl
      · rw [if_neg h5] at h
        cases h
/-- where no field clashes the joined text is that event's -/
theorem jE_text {E1 E2 E3 : EV} (h : jCs E1 E2 E3 6 = []) : Lib.join ((jTs E1 E2 E3 6).map fun b => b.data.toList) [124] = eT (jE E1 E2 E3) := by
  have hall : ∀ k, k < 6 → (jF E1 E2 E3 k).1.data.toList = fT (jE E1 E2 E3) k := fun k hk => by
    have h2 : (jF E1 E2 E3 k).2 = true := by
      cases hq : (jF E1 E2 E3 k).2 with
      | true => rfl
      | false =>
        have : fldB k ∈ jCs E1 E2 E3 6 := List.mem_map.2 ⟨k, List.mem_filter.2 ⟨List.mem_range.2 hk, by rw [hq]; rfl⟩, rfl⟩
        rw [h] at this
        cases this
    rw [← jE_field E1 E2 E3 k hk h2]
    rfl
  have e : (jTs E1 E2 E3 6).map (fun b => b.data.toList) = (jE E1 E2 E3).id.data.toList :: pT (jE E1 E2 E3) := by
    show E1.id.data.toList :: [(jF E1 E2 E3 0).1.data.toList, (jF E1 E2 E3 1).1.data.toList, (jF E1 E2 E3 2).1.data.toList, (jF E1 E2 E3 3).1.data.toList, (jF E1 E2 E3 4).1.data.toList, (jF E1 E2 E3 5).1.data.toList] = E1.id.data.toList :: [fT (jE E1 E2 E3) 0, fT (jE E1 E2 E3) 1, fT (jE E1 E2 E3) 2, fT (jE E1 E2 E3) 3, fT (jE E1 E2 E3) 4, fT (jE E1 E2 E3) 5]
    rw [hall 0 (by omega), hall 1 (by omega), hall 2 (by omega), hall 3 (by omega), hall 4 (by omega), hall 5 (by omega)]
  rw [e]
  rfl
/-- it is well but for its lists -/
theorem jE_sw {E1 E2 E3 : EV} (h1 : EW E1) (h2 : EW E2) (h3 : EW E3) : SW (jE E1 E2 E3) := by
  have hp : ∀ k, EW (pick E1 E2 E3 k) := fun k => by
    rcases pick_in E1 E2 E3 k with q | q <;> rw [q]
    · exact h2
    · exact h3
  obtain ⟨k2, m2, _, _, kd2, md2, _⟩ := lk_of h2.ls
  obtain ⟨k3, m3, _, _, kd3, md3, _⟩ := lk_of h3.ls
  refine ⟨h1.id, (hp 0).ti, ⟨(hp 1).bd.1, (hp 2).bd.2⟩, (hp 3).rl, ?_, ?_, ?_, ?_⟩
  · unfold jE; dsimp only
    split
    · have := (lk_of (hp 4).ls).1; omega
    · have := jSk_len E1.sk E2.sk E3.sk; omega
  · unfold jE; dsimp only
    split
    · have := (lk_of (hp 5).ls).2.1; omega
    · have := jMv_len E1.mv E2.mv E3.mv; omega
  · unfold jE; dsimp only
    split
    · exact (lk_of (hp 4).ls).2.2.2.2.1
    · intro x hx
      rcases ris_mem _ _ x (List.mem_filter.1 hx).1 with q | q
      · exact kd2 x q
      · exact kd3 x q
  · unfold jE; dsimp only
    split
    · exact (lk_of (hp 5).ls).2.2.2.2.2.1
    · cases hq : jMv E1.mv E2.mv E3.mv with
      | none => intro m hm; simp at hm
      | some q => exact (jMv_in E1.mv E2.mv E3.mv _ md2 md3 _ [] q (fun m hm => absurd hm (by simp)) hq).1
theorem jE_ds {E1 E2 E3 : EV} (h2 : E2.ds.length ≤ 20) (h3 : E3.ds.length ≤ 20) : (jE E1 E2 E3).ds.length ≤ 20 := by
  show (pick E1 E2 E3 3).ds.length ≤ 20
  rcases pick_in E1 E2 E3 3 with q | q <;> rw [q]
  · exact h2
  · exact h3
end Go.Proofs.YtekminpoiokgfaaGreatDoor

/- Package merge's put of a text whose event is not well. -/
namespace Go.Proofs.YtekminpoiokgfaaGreatDoor
open Go Go.RowKit Go.Maps Go.Sort Cal
attribute [local go_sem] Oper.semAt_some

set_option maxHeartbeats 2000000 in
set_option maxRecDepth 100000 in
theorem mgPut_not (bb : Nat) (E : EV) (s : Nat → Addr) (w : World) (gk : GlobK s w) (g : GlobR w) (hE : SW E) (hn : ¬ EW E) (h20 : E.ds.length ≤ 20) (hne : eT E ≠ []) :
    Calls Tryz.prog 22 #[.pointer (some ⟨bb, 0, none⟩), .string (bs (eT E))] w fun r w' => ∃ p, r = .returned (.iface 250 (.pointer (some p))) ∧ Below w.heap.size w w' := by
  obtain ⟨k, hk⟩ := evK_ex E
  have hk0 : k ≠ 0 := fun q => by
    subst q
    exact hn ((evK_0 hk).1 rfl)
  obtain ⟨p, hp⟩ := errV_ne (s := s) hk0
  have RE := eread_not E s w gk g hE k hk hk0 h20
  rw [hp] at RE
  unfold zV at RE
  have HRE : Hid (Calls _ _ _ _ _) := RE
  have e0 : ((bs (eT E)).toList == []) = false := bs_some hne
  generalize bs (eT E) = tx at HRE e0 ⊢
  clear RE gk g hne hE hn hk hk0 hp
  go_enter Tryz.func22, Tryz.ntmps22
  go_wp2_with (go_at_call 43; refine Calls.mono HRE.out ?_; rintro r w1 ⟨rfl, hb1⟩)
  go_ret
  exact ⟨p, rfl, below_then hb1 (below_alloc _ _)⟩
end Go.Proofs.YtekminpoiokgfaaGreatDoor

/- Plain mathematics of changes: what Diff tells, applied, makes one calendar of another one; and back. -/
namespace Go.Proofs.YtekminpoiokgfaaGreatDoor
open Go Cal

/-- the event of an ID -/
def evOf (id : ByteArray) (C : List EV) : Option EV := C.find? fun E => decide (E.id = id)
theorem evOf_some {id : ByteArray} {C : List EV} {E : EV} (h : evOf id C = some E) : E ∈ C ∧ E.id = id := by
  refine ⟨List.mem_of_find?_eq_some h, ?_⟩
  have := List.find?_some h
  exact of_decide_eq_true this
theorem evOf_of {C : List EV} (h : Rises C) {E : EV} (hE : E ∈ C) : evOf E.id C = some E := by
  cases hq : evOf E.id C with
  | none =>
    have := List.find?_eq_none.1 hq E hE
    simp at this
  | some F =>
    obtain ⟨h1, h2⟩ := evOf_some hq
    rw [h.uniq h1 hE h2]
theorem evOf_none {id : ByteArray} {C : List EV} : evOf id C = none ↔ ¬ ∃ E ∈ C, E.id = id := by
  unfold evOf
  rw [List.find?_eq_none]
  constructor
  · rintro h ⟨E, hE, e⟩
    exact h E hE (decide_eq_true e)
  · intro h E hE q
    exact h ⟨E, hE, of_decide_eq_true q⟩
theorem rises_ext {C D : List EV} (hC : Rises C) (hD : Rises D) (h : ∀ id, evOf id C = evOf id D) : C = D := by
  have hm : ∀ E, E ∈ C ↔ E ∈ D := fun E => by
    constructor
    · intro hE
      have := evOf_of hC hE
      rw [h] at this
      exact (evOf_some this).1
    · intro hE
      have := evOf_of hD hE
      rw [← h] at this
      exact (evOf_some this).1
  refine List.Perm.eq_of_pairwise (le := fun a b => kb a < kb b) (fun a b _ _ h1 h2 => absurd (List.lt_trans h1 h2) (List.lt_irrefl _)) hC hD ?_
  refine (List.perm_ext_iff_of_nodup ?_ ?_).2 hm
  · exact hC.imp (fun {a b} q e => by rw [e] at q; exact List.lt_irrefl _ q)
  · exact hD.imp (fun {a b} q e => by rw [e] at q; exact List.lt_irrefl _ q)
theorem evOf_put {E : EV} {C : List EV} (h : Rises C) (id : ByteArray) : evOf id (putC E C) = if id = E.id then some E else evOf id C := by
  have hp := putC_rises (E := E) h
  by_cases hi : id = E.id
  · rw [if_pos hi, hi]
    exact evOf_of hp (putC_mem.2 (.inl rfl))
  · rw [if_neg hi]
    cases hq : evOf id C with
    | none =>
      rw [evOf_none] at hq ⊢
      rintro ⟨F, hF, e⟩
      rcases putC_mem.1 hF with rfl | ⟨hF', _⟩
      · exact hi e.symm
      · exact hq ⟨F, hF', e⟩
    | some F =>
      obtain ⟨h1, h2⟩ := evOf_some hq
      have := evOf_of hp (putC_mem.2 (.inr ⟨h1, fun q => hi (h2.symm.trans q)⟩))
      rw [h2] at this
      exact this
/-- a field of an event -/
def fld (E : EV) : Nat → (ByteArray × Int) × (ByteArray × Int × List Int × Int × Int) × (List Int × List (Int × Int))
  | 0 => ((E.ti, 0), (⟨#[]⟩, 0, [], 0, 0), ([], []))
  | 1 => ((⟨#[]⟩, E.st), (⟨#[]⟩, 0, [], 0, 0), ([], []))
  | 2 => ((⟨#[]⟩, E.lg), (⟨#[]⟩, 0, [], 0, 0), ([], []))
  | 3 => ((⟨#[]⟩, 0), (E.f, E.e, E.ds, E.c, E.u), ([], []))
  | 4 => ((⟨#[]⟩, 0), (⟨#[]⟩, 0, [], 0, 0), (E.sk, []))
  | _ => ((⟨#[]⟩, 0), (⟨#[]⟩, 0, [], 0, 0), ([], E.mv))
theorem fld_ext {E G : EV} (hid : E.id = G.id) (h : ∀ j, j < 6 → fld E j = fld G j) : E = G := by
  obtain ⟨i1, t1, s1, l1, f1, e1, d1, c1, u1, k1, m1⟩ := E
  obtain ⟨i2, t2, s2, l2, f2, e2, d2, c2, u2, k2, m2⟩ := G
  have h0 := h 0 (by omega)
  have h1 := h 1 (by omega)
  have h2 := h 2 (by omega)
  have h3 := h 3 (by omega)
  have h4 := h 4 (by omega)
  have h5 := h 5 (by omega)
  simp only [fld, Prod.mk.injEq, true_and, and_true] at h0 h1 h2 h3 h4 h5
  have hid' : i1 = i2 := hid
  obtain ⟨g1, g2, g3, g4, g5⟩ := h3
  subst hid' h0 h1 h2 g1 g2 g3 g4 g5 h4 h5
  rfl
end Go.Proofs.YtekminpoiokgfaaGreatDoor

/- Two events that are well have one text in a field only if they have one field. -/
namespace Go.Proofs.YtekminpoiokgfaaGreatDoor
open Go Cal

theorem dtx_inj {a b : Int} (ha : 0 ≤ a ∧ a ≤ 73048) (hb : 0 ≤ b ∧ b ≤ 73048) (h : dtx a = dtx b) : a = b := by
  obtain ⟨y, m, d, hv, hn, e⟩ := dtx_ok ha.1 ha.2
  obtain ⟨y', m', d', hv', hn', e'⟩ := dtx_ok hb.1 hb.2
  rw [e, e'] at h
  rw [← hn, ← hn']
  exact txt_inj hv hv' h
theorem mtx_inj {a b : Int × Int} (ha : (0 ≤ a.1 ∧ a.1 ≤ 73048) ∧ 0 ≤ a.2 ∧ a.2 ≤ 73048) (hb : (0 ≤ b.1 ∧ b.1 ≤ 73048) ∧ 0 ≤ b.2 ∧ b.2 ≤ 73048) (h : mtx a = mtx b) : a = b := by
  have hp := congrArg (pieces 62) h
  rw [mtx_pieces, mtx_pieces] at hp
  injection hp with h1 h2
  injection h2 with h2 _
  exact Prod.ext (dtx_inj ha.1 hb.1 h1) (dtx_inj ha.2 hb.2 h2)
theorem map_inj' {α : Type} (P : α → Prop) (f : α → List UInt8) (hf : ∀ a b, P a → P b → f a = f b → a = b) : ∀ (l k : List α), (∀ a ∈ l, P a) → (∀ a ∈ k, P a) → l.map f = k.map f → l = k
  | [], [], _, _, _ => rfl
  | [], b :: k, _, _, h => by simp at h
  | a :: l, [], _, _, h => by simp at h
  | a :: l, b :: k, hl, hk, h => by
    rw [List.map_cons, List.map_cons] at h
    injection h with h1 h2
    rw [hf a b (hl a List.mem_cons_self) (hk b List.mem_cons_self) h1, map_inj' P f hf l k (fun x hx => hl x (List.mem_cons_of_mem _ hx)) (fun x hx => hk x (List.mem_cons_of_mem _ hx)) h2]
theorem join_inj {α : Type} (P : α → Prop) (f : α → List UInt8) (hf : ∀ a b, P a → P b → f a = f b → a = b) (hne : ∀ a, P a → f a ≠ []) (hno : ∀ a, (44 : UInt8) ∉ f a) (l k : List α) (hl : ∀ a ∈ l, P a) (hk : ∀ a ∈ k, P a) (h : Lib.join (l.map f) [44] = Lib.join (k.map f) [44]) : l = k := by
  have hN : ∀ (l : List α), (∀ a ∈ l, P a) → l ≠ [] → Lib.join (l.map f) [44] ≠ [] := fun l hl q => join_ne (by simpa using q) (fun x hx => by obtain ⟨a, ha, rfl⟩ := List.mem_map.1 hx; exact hne a (hl a ha))
  have hS : ∀ (l : List α), l ≠ [] → pieces 44 (Lib.join (l.map f) [44]) = l.map f := fun l q => list_pieces (by simpa using q) (fun x hx => by obtain ⟨a, _, rfl⟩ := List.mem_map.1 hx; exact hno a)
  by_cases h1 : l = []
  · by_cases h2 : k = []
    · rw [h1, h2]
    · exact absurd (by rw [← h, h1]; rfl) (hN k hk h2)
  · by_cases h2 : k = []
    · exact absurd (by rw [h, h2]; rfl) (hN l hl h1)
    · have hp := congrArg (pieces 44) h
      rw [hS l h1, hS k h2] at hp
      exact map_inj' P f hf l k hl hk hp
open Classical in
/-- the fields in which two events part -/
noncomputable def parts (F G : EV) : List Nat := (List.range 6).filter fun k => decide (fT F k ≠ fT G k)
end Go.Proofs.YtekminpoiokgfaaGreatDoor
