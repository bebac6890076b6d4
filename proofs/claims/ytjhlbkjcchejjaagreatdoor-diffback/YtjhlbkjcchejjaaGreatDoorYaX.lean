/- Plain mathematics of changes: what Diff tells, applied, makes one calendar of another one; and back. -/
import Derived.Test.YtjhlbkjcchejjaaGreatDoorYaW
namespace Go.Proofs.YtjhlbkjcchejjaaGreatDoor
open Go Cal

/-- the event of an ID -/
def evOf (id : ByteArray) (C : List EV) : Option EV := C.find? fun E => decide (E.id = id)
theorem evOf_some {id : ByteArray} {C : List EV} {E : EV} (h : evOf id C = some E) : E ∈ C ∧ E.id = id := by
  refine ⟨List.mem_of_find?_eq_some h, ?_⟩
  have := List.find?_some h
  exact of_decide_eq_true this
theorem evOf_of {C : List EV} (h : Rises C) {E : EV} (hE : E ∈ C) : evOf E.id C = some E := by
  cases hq : evOf E.id C with
  | none =>
    have := List.find?_eq_none.1 hq E hE
    simp at this
  | some F =>
    obtain ⟨h1, h2⟩ := evOf_some hq
    rw [h.uniq h1 hE h2]
theorem evOf_none {id : ByteArray} {C : List EV} : evOf id C = none ↔ ¬ ∃ E ∈ C, E.id = id := by
  unfold evOf
  rw [List.find?_eq_none]
  constructor
  · rintro h ⟨E, hE, e⟩
    exact h E hE (decide_eq_true e)
  · intro h E hE q
    exact h ⟨E, hE, of_decide_eq_true q⟩
theorem rises_ext {C D : List EV} (hC : Rises C) (hD : Rises D) (h : ∀ id, evOf id C = evOf id D) : C = D := by
  have hm : ∀ E, E ∈ C ↔ E ∈ D := fun E => by
    constructor
    · intro hE
      have := evOf_of hC hE
      rw [h] at this
      exact (evOf_some this).1
    · intro hE
      have := evOf_of hD hE
      rw [← h] at this
      exact (evOf_some this).1
  refine List.Perm.eq_of_pairwise (le := fun a b => kb a < kb b) (fun a b _ _ h1 h2 => absurd (List.lt_trans h1 h2) (List.lt_irrefl _)) hC hD ?_
  refine (List.perm_ext_iff_of_nodup ?_ ?_).2 hm
  · exact hC.imp (fun {a b} q e => by rw [e] at q; exact List.lt_irrefl _ q)
  · exact hD.imp (fun {a b} q e => by rw [e] at q; exact List.lt_irrefl _ q)
theorem evOf_put {E : EV} {C : List EV} (h : Rises C) (id : ByteArray) : evOf id (putC E C) = if id = E.id then some E else evOf id C := by
  have hp := putC_rises (E := E) h
  by_cases hi : id = E.id
  · rw [if_pos hi, hi]
    exact evOf_of hp (putC_mem.2 (.inl rfl))
  · rw [if_neg hi]
    cases hq : evOf id C with
    | none =>
      rw [evOf_none] at hq ⊢
      rintro ⟨F, hF, e⟩
      rcases putC_mem.1 hF with rfl | ⟨hF', _⟩
      · exact hi e.symm
      · exact hq ⟨F, hF', e⟩
    | some F =>
      obtain ⟨h1, h2⟩ := evOf_some hq
      have := evOf_of hp (putC_mem.2 (.inr ⟨h1, fun q => hi (h2.symm.trans q)⟩))
      rw [h2] at this
      exact this
theorem evOf_wo {x : ByteArray} {C : List EV} (h : Rises C) (id : ByteArray) : evOf id (woC x C) = if id = x then none else evOf id C := by
  have hp := woC_rises (id := x) h
  by_cases hi : id = x
  · rw [if_pos hi, hi, evOf_none]
    rintro ⟨F, hF, e⟩
    exact (woC_mem.1 hF).2 e
  · rw [if_neg hi]
    cases hq : evOf id C with
    | none =>
      rw [evOf_none] at hq ⊢
      rintro ⟨F, hF, e⟩
      exact hq ⟨F, (woC_mem.1 hF).1, e⟩
    | some F =>
      obtain ⟨h1, h2⟩ := evOf_some hq
      have := evOf_of hp (woC_mem.2 ⟨h1, fun q => hi (h2.symm.trans q)⟩)
      rw [h2] at this
      exact this
/-- a change touches its own ID alone -/
theorem step_other {C : List EV} {c : DC} {A : List EV} (hok : c.ok) (h : Rises C) (ha : StepTo C c A) {id : ByteArray} (hi : id ≠ c.id) : evOf id A = evOf id C := by
  obtain ⟨cid, k, a, b⟩ := c
  match a, b, ha, hok with
  | some F, some G, ha, hok =>
    obtain ⟨H, hH, e1, e2, e3, rfl⟩ := ha
    rw [evOf_put h, if_neg]
    rw [upd_id]
    exact fun q => hi (q.trans e1)
  | some F, none, ha, hok =>
    rw [ha.2, evOf_wo h, if_neg hi]
  | none, some G, ha, hok =>
    obtain ⟨_, hG⟩ : k = 6 ∧ EOk cid G := hok
    rw [ha.2, evOf_put h, if_neg]
    exact fun q => hi (q.trans hG.2.2)
  | none, none, ha, hok => exact absurd ha (by unfold StepTo; exact not_false)
theorem runs_other : ∀ {C : List EV} {l : List DC} {A : List EV}, (∀ c ∈ l, c.ok) → Rises C → Runs C l A → ∀ {id : ByteArray}, (∀ c ∈ l, c.id ≠ id) → evOf id A = evOf id C
  | C, [], A, hok, h, ha, id, hi => by
    have e : A = C := ha
    rw [e]
  | C, c :: l, A, hok, h, ha, id, hi => by
    obtain ⟨D, h1, h2⟩ := ha
    rw [runs_other (fun c hc => hok c (List.mem_cons_of_mem _ hc)) (step_rises h h1) h2 (fun c hc => hi c (List.mem_cons_of_mem _ hc)), step_other (hok c List.mem_cons_self) h h1 (fun q => hi c List.mem_cons_self q.symm)]

/-- a field of an event -/
def fld (E : EV) : Nat → (ByteArray × Int) × (ByteArray × Int × List Int × Int × Int) × (List Int × List (Int × Int))
  | 0 => ((E.ti, 0), (⟨#[]⟩, 0, [], 0, 0), ([], []))
  | 1 => ((⟨#[]⟩, E.st), (⟨#[]⟩, 0, [], 0, 0), ([], []))
  | 2 => ((⟨#[]⟩, E.lg), (⟨#[]⟩, 0, [], 0, 0), ([], []))
  | 3 => ((⟨#[]⟩, 0), (E.f, E.e, E.ds, E.c, E.u), ([], []))
  | 4 => ((⟨#[]⟩, 0), (⟨#[]⟩, 0, [], 0, 0), (E.sk, []))
  | _ => ((⟨#[]⟩, 0), (⟨#[]⟩, 0, [], 0, 0), ([], E.mv))
theorem fld_upd (E G : EV) (k j : Nat) (hk : k < 6) (hj : j < 6) : fld (upd E G k) j = if j = k then fld G j else fld E j := by
  match k, hk with
  | 0, _ => match j, hj with | 0, _ => rfl | 1, _ => rfl | 2, _ => rfl | 3, _ => rfl | 4, _ => rfl | 5, _ => rfl
  | 1, _ => match j, hj with | 0, _ => rfl | 1, _ => rfl | 2, _ => rfl | 3, _ => rfl | 4, _ => rfl | 5, _ => rfl
  | 2, _ => match j, hj with | 0, _ => rfl | 1, _ => rfl | 2, _ => rfl | 3, _ => rfl | 4, _ => rfl | 5, _ => rfl
  | 3, _ => match j, hj with | 0, _ => rfl | 1, _ => rfl | 2, _ => rfl | 3, _ => rfl | 4, _ => rfl | 5, _ => rfl
  | 4, _ => match j, hj with | 0, _ => rfl | 1, _ => rfl | 2, _ => rfl | 3, _ => rfl | 4, _ => rfl | 5, _ => rfl
  | 5, _ => match j, hj with | 0, _ => rfl | 1, _ => rfl | 2, _ => rfl | 3, _ => rfl | 4, _ => rfl | 5, _ => rfl
theorem fld_ext {E G : EV} (hid : E.id = G.id) (h : ∀ j, j < 6 → fld E j = fld G j) : E = G := by
  obtain ⟨i1, t1, s1, l1, f1, e1, d1, c1, u1, k1, m1⟩ := E
  obtain ⟨i2, t2, s2, l2, f2, e2, d2, c2, u2, k2, m2⟩ := G
  have h0 := h 0 (by omega)
  have h1 := h 1 (by omega)
  have h2 := h 2 (by omega)
  have h3 := h 3 (by omega)
  have h4 := h 4 (by omega)
  have h5 := h 5 (by omega)
  simp only [fld, Prod.mk.injEq, true_and, and_true] at h0 h1 h2 h3 h4 h5
  have hid' : i1 = i2 := hid
  obtain ⟨g1, g2, g3, g4, g5⟩ := h3
  subst hid' h0 h1 h2 g1 g2 g3 g4 g5 h4 h5
  rfl
end Go.Proofs.YtjhlbkjcchejjaaGreatDoor

/- Two events that are well have one text in a field only if they have one field. -/
namespace Go.Proofs.YtjhlbkjcchejjaaGreatDoor
open Go Cal

theorem dtx_inj {a b : Int} (ha : 0 ≤ a ∧ a ≤ 73048) (hb : 0 ≤ b ∧ b ≤ 73048) (h : dtx a = dtx b) : a = b := by
  obtain ⟨y, m, d, hv, hn, e⟩ := dtx_ok ha.1 ha.2
  obtain ⟨y', m', d', hv', hn', e'⟩ := dtx_ok hb.1 hb.2
  rw [e, e'] at h
  rw [← hn, ← hn']
  exact txt_inj hv hv' h
theorem mtx_inj {a b : Int × Int} (ha : (0 ≤ a.1 ∧ a.1 ≤ 73048) ∧ 0 ≤ a.2 ∧ a.2 ≤ 73048) (hb : (0 ≤ b.1 ∧ b.1 ≤ 73048) ∧ 0 ≤ b.2 ∧ b.2 ≤ 73048) (h : mtx a = mtx b) : a = b := by
  have hp := congrArg (pieces 62) h
  rw [mtx_pieces, mtx_pieces] at hp
  injection hp with h1 h2
  injection h2 with h2 _
  exact Prod.ext (dtx_inj ha.1 hb.1 h1) (dtx_inj ha.2 hb.2 h2)
theorem map_inj' {α : Type} (P : α → Prop) (f : α → List UInt8) (hf : ∀ a b, P a → P b → f a = f b → a = b) : ∀ (l k : List α), (∀ a ∈ l, P a) → (∀ a ∈ k, P a) → l.map f = k.map f → l = k
  | [], [], _, _, _ => rfl
  | [], b :: k, _, _, h => by simp at h
  | a :: l, [], _, _, h => by simp at h
  | a :: l, b :: k, hl, hk, h => by
    rw [List.map_cons, List.map_cons] at h
    injection h with h1 h2
    rw [hf a b (hl a List.mem_cons_self) (hk b List.mem_cons_self) h1, map_inj' P f hf l k (fun x hx => hl x (List.mem_cons_of_mem _ hx)) (fun x hx => hk x (List.mem_cons_of_mem _ hx)) h2]
theorem join_inj {α : Type} (P : α → Prop) (f : α → List UInt8) (hf : ∀ a b, P a → P b → f a = f b → a = b) (hne : ∀ a, P a → f a ≠ []) (hno : ∀ a, (44 : UInt8) ∉ f a) (l k : List α) (hl : ∀ a ∈ l, P a) (hk : ∀ a ∈ k, P a) (h : Lib.join (l.map f) [44] = Lib.join (k.map f) [44]) : l = k := by
  have hN : ∀ (l : List α), (∀ a ∈ l, P a) → l ≠ [] → Lib.join (l.map f) [44] ≠ [] := fun l hl q => join_ne (by simpa using q) (fun x hx => by obtain ⟨a, ha, rfl⟩ := List.mem_map.1 hx; exact hne a (hl a ha))
  have hS : ∀ (l : List α), l ≠ [] → pieces 44 (Lib.join (l.map f) [44]) = l.map f := fun l q => list_pieces (by simpa using q) (fun x hx => by obtain ⟨a, _, rfl⟩ := List.mem_map.1 hx; exact hno a)
  by_cases h1 : l = []
  · by_cases h2 : k = []
    · rw [h1, h2]
    · exact absurd (by rw [← h, h1]; rfl) (hN k hk h2)
  · by_cases h2 : k = []
    · exact absurd (by rw [h, h2]; rfl) (hN l hl h1)
    · have hp := congrArg (pieces 44) h
      rw [hS l h1, hS k h2] at hp
      exact map_inj' P f hf l k hl hk hp
theorem fT_inj {F G : EV} (hF : EW F) (hG : EW G) (k : Nat) (hk : k < 6) (h : fT F k = fT G k) : fld F k = fld G k := by
  obtain ⟨_, _, _, _, kF, mF, _⟩ := Proofs.YtjhlbkjcchejjaaGreatDoor.lk_of hF.ls
  obtain ⟨_, _, _, _, kG, mG, _⟩ := Proofs.YtjhlbkjcchejjaaGreatDoor.lk_of hG.ls
  match k, hk, h with
  | 0, _, h =>
    have e : F.ti = G.ti := ba_ext h
    show ((F.ti, _), _, _) = ((G.ti, _), _, _)
    rw [e]
  | 1, _, h =>
    have e : F.st = G.st := dtx_inj hF.bd.1 hG.bd.1 h
    show ((_, F.st), _, _) = ((_, G.st), _, _)
    rw [e]
  | 2, _, h =>
    have e : F.lg = G.lg := itoa_inj _ _ (by have := hF.bd.2.1; omega) (by have := hG.bd.2.1; omega) h
    show ((_, F.lg), _, _) = ((_, G.lg), _, _)
    rw [e]
  | 3, _, h =>
    obtain ⟨t, ht, e⟩ := ruT_ok hF.rl
    obtain ⟨t', ht', e'⟩ := ruT_ok hG.rl
    have h' : ruT (rd F.f F.e F.ds F.c F.u) = ruT (rd G.f G.e G.ds G.c G.u) := h
    rw [e, e'] at h'
    have hr := rtext_inj hF.rl hG.rl ht ht' h'
    have e1 : F.f.toList = G.f.toList := congrArg RV.freq hr
    have e2 : F.e = G.e := congrArg RV.every hr
    have e3 : F.ds = G.ds := congrArg RV.days hr
    have e4 : F.c = G.c := congrArg RV.count hr
    have e5 : F.u = G.u := congrArg RV.til hr
    have e6 : F.f = G.f := by
      rw [ByteArray.toList_eq, ByteArray.toList_eq] at e1
      exact ba_ext e1
    show (_, (F.f, F.e, F.ds, F.c, F.u), _) = (_, (G.f, G.e, G.ds, G.c, G.u), _)
    rw [e2, e3, e4, e5, e6]
  | 4, _, h =>
    have e : F.sk = G.sk := join_inj (fun d => 0 ≤ d ∧ d ≤ 73048) dtx (fun a b ha hb q => dtx_inj ha hb q) (fun a ha => dtx_ne ha.1 ha.2) (fun a => dtx_no _ _ (by decide)) _ _ kF kG h
    show (_, _, (F.sk, _)) = (_, _, (G.sk, _))
    rw [e]
  | 5, _, h =>
    have e : F.mv = G.mv := join_inj (fun m => (0 ≤ m.1 ∧ m.1 ≤ 73048) ∧ 0 ≤ m.2 ∧ m.2 ≤ 73048) mtx (fun a b ha hb q => mtx_inj ha hb q) (fun a _ => mtx_ne a) (fun a => mtx_no _ _ (by decide)) _ _ mF mG h
    show (_, _, (_, F.mv)) = (_, _, (_, G.mv))
    rw [e]

/-- the changes of one event: by its fields, in any order, all that part among them -/
theorem runs_fields {id : ByteArray} {F G : EV} (hF : EOk id F) (hG : EOk id G) : ∀ (ks : List Nat), (∀ k ∈ ks, k < 6) → ∀ {C A : List EV} {H : EV}, Rises C → evOf id C = some H → (∀ j, j < 6 → fld H j = fld G j ∨ (j ∈ ks ∧ fld H j = fld F j)) → Runs C (ks.map fun k => ⟨id, k, some F, some G⟩) A → evOf id A = some G
  | [], _, C, A, H, hC, hl, hf, ha => by
    have e : A = C := ha
    obtain ⟨_, hi⟩ := evOf_some hl
    rw [e, hl, fld_ext (hi.trans hG.2.2.symm) (fun j hj => (hf j hj).elim (fun q => q) (fun q => absurd q.1 (by simp)))]
  | k :: ks, hk, C, A, H, hC, hl, hf, ha => by
    obtain ⟨D, h1, h2⟩ := ha
    obtain ⟨K, hK, e1, e2, e3, rfl⟩ : ∃ K ∈ C, K.id = id ∧ cT K k = cT F k ∧ EW (upd K G k) ∧ D = putC (upd K G k) C := h1
    have hKH : K = H := by
      have := evOf_of hC hK
      rw [e1, hl] at this
      exact (Option.some.inj this).symm
    subst hKH
    have hk6 := hk k List.mem_cons_self
    refine runs_fields hF hG ks (fun j hj => hk j (List.mem_cons_of_mem _ hj)) (putC_rises hC) (H := upd K G k) ?_ (fun j hj => ?_) h2
    · rw [evOf_put hC, if_pos]
      rw [upd_id, e1]
    · rw [fld_upd K G k j hk6 hj]
      by_cases hjk : j = k
      · rw [if_pos hjk]; exact .inl rfl
      · rw [if_neg hjk]
        rcases hf j hj with q | ⟨q1, q2⟩
        · exact .inl q
        · rcases List.mem_cons.1 q1 with z | z
          · exact absurd z hjk
          · exact .inr ⟨z, q2⟩

open Classical in
/-- the fields in which two events part -/
noncomputable def parts (F G : EV) : List Nat := (List.range 6).filter fun k => decide (fT F k ≠ fT G k)
/-- the changes that make one event of another one -/
noncomputable def dl (id : ByteArray) : Option EV → Option EV → List DC
  | some F, some G => (parts F G).map fun k => ⟨id, k, some F, some G⟩
  | some F, none => [⟨id, 6, some F, none⟩]
  | none, some G => [⟨id, 6, none, some G⟩]
  | none, none => []
def DC.turn (c : DC) : DC := ⟨c.id, c.k, c.b, c.a⟩
theorem parts_lt {F G : EV} {k : Nat} (h : k ∈ parts F G) : k < 6 := List.mem_range.1 (List.mem_filter.1 h).1
theorem parts_in {F G : EV} {k : Nat} (hk : k < 6) (h : k ∉ parts F G) : fT F k = fT G k := by
  by_cases q : fT F k = fT G k
  · exact q
  · exact absurd (List.mem_filter.2 ⟨List.mem_range.2 hk, decide_eq_true q⟩) h
theorem parts_self (F : EV) : parts F F = [] := by
  unfold parts
  rw [List.filter_eq_nil_iff]
  intro k _ q
  exact (of_decide_eq_true q) rfl
def OOk (id : ByteArray) (p : Option EV) : Prop := ∀ E, p = some E → EOk id E
theorem dl_ok {id : ByteArray} {p q : Option EV} (hp : OOk id p) (hq : OOk id q) : ∀ c ∈ dl id p q, c.ok ∧ c.id = id := by
  intro c hc
  match p, q, hp, hq, hc with
  | some F, some G, hp, hq, hc =>
    obtain ⟨k, hk, rfl⟩ := List.mem_map.1 hc
    exact ⟨⟨parts_lt hk, hp F rfl, hq G rfl⟩, rfl⟩
  | some F, none, hp, hq, hc =>
    rw [List.mem_singleton.1 hc]
    exact ⟨⟨rfl, hp F rfl⟩, rfl⟩
  | none, some G, hp, hq, hc =>
    rw [List.mem_singleton.1 hc]
    exact ⟨⟨rfl, hq G rfl⟩, rfl⟩
  | none, none, hp, hq, hc => cases hc
theorem turn_ok {c : DC} (h : c.ok) : c.turn.ok := by
  obtain ⟨id, k, a, b⟩ := c
  match a, b, h with
  | some F, some G, h =>
    obtain ⟨h1, h2, h3⟩ : k < 6 ∧ EOk id F ∧ EOk id G := h
    exact ⟨h1, h3, h2⟩
  | some F, none, h => exact h
  | none, some G, h => exact h
  | none, none, h => exact h
/-- one event's changes, there -/
theorem runs_dl {id : ByteArray} {p q : Option EV} (hp : OOk id p) (hq : OOk id q) {C A : List EV} (hC : Rises C) (hl : evOf id C = p) (h : Runs C (dl id p q) A) : evOf id A = q := by
  match p, q, hp, hq, hl, h with
  | some F, some G, hp, hq, hl, h =>
    refine runs_fields (hp F rfl) (hq G rfl) (parts F G) (fun k hk => parts_lt hk) hC hl (fun j hj => ?_) h
    by_cases z : j ∈ parts F G
    · exact .inr ⟨z, rfl⟩
    · exact .inl (fT_inj (hp F rfl).1 (hq G rfl).1 j hj (parts_in hj z))
  | some F, none, hp, hq, hl, h =>
    have h1 := (runs_one.1 h).2
    rw [h1, evOf_wo hC, if_pos rfl]
  | none, some G, hp, hq, hl, h =>
    have h1 := (runs_one.1 h).2
    rw [h1, evOf_put hC, if_pos (hq G rfl).2.2.symm]
  | none, none, hp, hq, hl, h =>
    have e : A = C := h
    rw [e, hl]
/-- and back -/
theorem runs_dl_back {id : ByteArray} {p q : Option EV} (hp : OOk id p) (hq : OOk id q) {C A : List EV} (hC : Rises C) (hl : evOf id C = q) (h : Runs C ((dl id p q).reverse.map DC.turn) A) : evOf id A = p := by
  match p, q, hp, hq, hl, h with
  | some F, some G, hp, hq, hl, h =>
    have e : ((dl id (some F) (some G)).reverse.map DC.turn) = (parts F G).reverse.map fun k => ⟨id, k, some G, some F⟩ := by
      unfold dl
      rw [← List.map_reverse, List.map_map]
      rfl
    rw [e] at h
    refine runs_fields (hq G rfl) (hp F rfl) (parts F G).reverse (fun k hk => parts_lt (List.mem_reverse.1 hk)) hC hl (fun j hj => ?_) h
    by_cases z : j ∈ parts F G
    · exact .inr ⟨List.mem_reverse.2 z, rfl⟩
    · exact .inl (fT_inj (hp F rfl).1 (hq G rfl).1 j hj (parts_in hj z)).symm
  | some F, none, hp, hq, hl, h =>
    have h1 := (runs_one (c := ⟨id, 6, none, some F⟩).1 h).2
    rw [h1, evOf_put hC, if_pos (hp F rfl).2.2.symm]
  | none, some G, hp, hq, hl, h =>
    have h1 := (runs_one (c := ⟨id, 6, some G, none⟩).1 h).2
    rw [h1, evOf_wo hC, if_pos rfl]
  | none, none, hp, hq, hl, h =>
    have e : A = C := h
    rw [e, hl]
/-- the changes of many IDs, each in a way of its own -/
theorem runs_ids (f : ByteArray → List DC) (q : ByteArray → Option EV) (X : List EV) : ∀ (ids : List ByteArray), ids.Nodup → (∀ id ∈ ids, ∀ c ∈ f id, c.ok ∧ c.id = id) → (∀ id ∈ ids, ∀ {C A : List EV}, Rises C → evOf id C = evOf id X → Runs C (f id) A → evOf id A = q id) → ∀ {C A : List EV}, Rises C → (∀ id ∈ ids, evOf id C = evOf id X) → Runs C (ids.flatMap f) A → (∀ id ∈ ids, evOf id A = q id) ∧ ∀ id, id ∉ ids → evOf id A = evOf id C
  | [], _, _, _, C, A, hC, hX, h => by
    have e : A = C := h
    rw [e]
    exact ⟨fun id hid => (by cases hid), fun id _ => rfl⟩
  | x :: ids, hnd, hok, hone, C, A, hC, hX, h => by
    obtain ⟨hx, hnd'⟩ := List.nodup_cons.1 hnd
    rw [List.flatMap_cons] at h
    obtain ⟨D, h1, h2⟩ := runs_split.1 h
    have hD := runs_rises hC h1
    have hxD := hone x List.mem_cons_self hC (hX x List.mem_cons_self) h1
    have hoth : ∀ id, id ≠ x → evOf id D = evOf id C := fun id hid => runs_other (fun c hc => (hok x List.mem_cons_self c hc).1) hC h1 (fun c hc => by rw [(hok x List.mem_cons_self c hc).2]; exact fun z => hid z.symm)
    obtain ⟨r1, r2⟩ := runs_ids f q X ids hnd' (fun id hid => hok id (List.mem_cons_of_mem _ hid)) (fun id hid => hone id (List.mem_cons_of_mem _ hid)) hD (fun id hid => by rw [hoth id (fun z => hx (z ▸ hid))]; exact hX id (List.mem_cons_of_mem _ hid)) h2
    refine ⟨fun id hid => ?_, fun id hid => ?_⟩
    · rcases List.mem_cons.1 hid with rfl | hid'
      · rw [r2 id hx]; exact hxD
      · exact r1 id hid'
    · rw [r2 id (fun z => hid (List.mem_cons_of_mem _ z)), hoth id (fun z => hid (by rw [z]; exact List.mem_cons_self))]
/-- the changes that Diff tells, by IDs -/
noncomputable def dfs (ids : List ByteArray) (X Y : List EV) : List DC := ids.flatMap fun id => dl id (evOf id X) (evOf id Y)
/-- what Diff tells, applied, makes Y of X -/
theorem runs_diff {ids : List ByteArray} {X Y A : List EV} (hnd : ids.Nodup) (hall : ∀ id, id ∉ ids → evOf id X = none ∧ evOf id Y = none) (hX : Rises X) (hY : Rises Y) (okX : ∀ id, OOk id (evOf id X)) (okY : ∀ id, OOk id (evOf id Y)) (h : Runs X (dfs ids X Y) A) : A = Y := by
  obtain ⟨r1, r2⟩ := runs_ids (fun id => dl id (evOf id X) (evOf id Y)) (fun id => evOf id Y) X ids hnd (fun id _ => dl_ok (okX id) (okY id)) (fun id _ {C A} hC hl hr => runs_dl (okX id) (okY id) hC hl hr) hX (fun _ _ => rfl) h
  refine rises_ext (runs_rises hX h) hY (fun id => ?_)
  by_cases hi : id ∈ ids
  · exact r1 id hi
  · rw [r2 id hi, (hall id hi).1, (hall id hi).2]
/-- and its Back makes X of Y -/
theorem runs_back {ids : List ByteArray} {X Y A : List EV} (hnd : ids.Nodup) (hall : ∀ id, id ∉ ids → evOf id X = none ∧ evOf id Y = none) (hX : Rises X) (hY : Rises Y) (okX : ∀ id, OOk id (evOf id X)) (okY : ∀ id, OOk id (evOf id Y)) (h : Runs Y ((dfs ids X Y).reverse.map DC.turn) A) : A = X := by
  have e : (dfs ids X Y).reverse.map DC.turn = ids.reverse.flatMap fun id => (dl id (evOf id X) (evOf id Y)).reverse.map DC.turn := by
    unfold dfs
    rw [List.reverse_flatMap, List.map_flatMap]
    rfl
  rw [e] at h
  obtain ⟨r1, r2⟩ := runs_ids (fun id => (dl id (evOf id X) (evOf id Y)).reverse.map DC.turn) (fun id => evOf id X) Y ids.reverse (List.pairwise_reverse.2 (hnd.imp (fun {a b} q z => q z.symm))) (fun id _ c hc => by
    obtain ⟨c', hc', rfl⟩ := List.mem_map.1 hc
    obtain ⟨q1, q2⟩ := dl_ok (okX id) (okY id) c' (List.mem_reverse.1 hc')
    exact ⟨turn_ok q1, q2⟩) (fun id _ {C A} hC hl hr => runs_dl_back (okX id) (okY id) hC hl hr) hY (fun _ _ => rfl) h
  refine rises_ext (runs_rises hY h) hX (fun id => ?_)
  by_cases hi : id ∈ ids
  · exact r1 id (List.mem_reverse.2 hi)
  · rw [r2 id (fun z => hi (List.mem_reverse.1 z)), (hall id hi).1, (hall id hi).2]
/-- of a calendar with itself there is nothing -/
theorem dfs_self (ids : List ByteArray) (X : List EV) : dfs ids X X = [] := by
  unfold dfs
  rw [List.flatMap_eq_nil_iff]
  intro id _
  cases evOf id X with
  | none => rfl
  | some F =>
    show (parts F F).map _ = []
    rw [parts_self]; rfl
end Go.Proofs.YtjhlbkjcchejjaaGreatDoor
