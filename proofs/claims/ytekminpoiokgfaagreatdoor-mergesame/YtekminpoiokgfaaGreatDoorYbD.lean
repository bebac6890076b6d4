/- Merges in plain words: with itself, or with the base, nothing clashes; the two ways may change places. -/
import Derived.Test.YtekminpoiokgfaaGreatDoorMgUW
import Derived.Test.YtekminpoiokgfaaGreatDoorYaZ
import Derived.Test.YtekminpoiokgfaaGreatDoorYbC
import Derived.Test.YtekminpoiokgfaaGreatDoorYaA
import Derived.Test.YtekminpoiokgfaaGreatDoorYaP
import Derived.Shelf.Abstract
import Derived.Shelf.RegionOpen
import Derived.WalkKit
import Derived.OwnWalkIn
import Derived.TacticsInMore
import Derived.LoopNIn
import Derived.LoopIn
import Derived.Test.YtekminpoiokgfaaGreatDoorYbA
import Derived.Test.YtekminpoiokgfaaGreatDoorYaW
import Derived.Deep.RegionHeld3
import Derived.Laws.StructEq
import Derived.Test.YtekminpoiokgfaaGreatDoorYaT
import Derived.Test.YtekminpoiokgfaaGreatDoorYaF
import Derived.Shelf.Strings.BuilderK
namespace Go.Proofs.YtekminpoiokgfaaGreatDoor
open Go Go.RowKit Cal

theorem fT_injS {F G : EV} (hF : SW F) (hG : SW G) (k : Nat) (hk : k < 6) (h : fT F k = fT G k) : fld F k = fld G k := by
  have kF := hF.kd
  have mF := hF.md
  have kG := hG.kd
  have mG := hG.md
  match k, hk, h with
  | 0, _, h =>
    have e : F.ti = G.ti := ba_ext h
    show ((F.ti, _), _, _) = ((G.ti, _), _, _)
    rw [e]
  | 1, _, h =>
    have e : F.st = G.st := dtx_inj hF.bd.1 hG.bd.1 h
    show ((_, F.st), _, _) = ((_, G.st), _, _)
    rw [e]
  | 2, _, h =>
    have e : F.lg = G.lg := itoa_inj _ _ (by have := hF.bd.2.1; omega) (by have := hG.bd.2.1; omega) h
    show ((_, F.lg), _, _) = ((_, G.lg), _, _)
    rw [e]
  | 3, _, h =>
    obtain ⟨t, ht, e⟩ := ruT_ok hF.rl
    obtain ⟨t', ht', e'⟩ := ruT_ok hG.rl
    have h' : ruT (rd F.f F.e F.ds F.c F.u) = ruT (rd G.f G.e G.ds G.c G.u) := h
    rw [e, e'] at h'
    have hr := rtext_inj hF.rl hG.rl ht ht' h'
    have e1 : F.f.toList = G.f.toList := congrArg RV.freq hr
    have e2 : F.e = G.e := congrArg RV.every hr
    have e3 : F.ds = G.ds := congrArg RV.days hr
    have e4 : F.c = G.c := congrArg RV.count hr
    have e5 : F.u = G.u := congrArg RV.til hr
    have e6 : F.f = G.f := by
      rw [ByteArray.toList_eq, ByteArray.toList_eq] at e1
      exact ba_ext e1
    show (_, (F.f, F.e, F.ds, F.c, F.u), _) = (_, (G.f, G.e, G.ds, G.c, G.u), _)
    rw [e2, e3, e4, e5, e6]
  | 4, _, h =>
    have e : F.sk = G.sk := join_inj (fun d => 0 ≤ d ∧ d ≤ 73048) dtx (fun a b ha hb q => dtx_inj ha hb q) (fun a ha => dtx_ne ha.1 ha.2) (fun a => dtx_no _ _ (by decide)) _ _ kF kG h
    show (_, _, (F.sk, _)) = (_, _, (G.sk, _))
    rw [e]
  | 5, _, h =>
    have e : F.mv = G.mv := join_inj (fun m => (0 ≤ m.1 ∧ m.1 ≤ 73048) ∧ 0 ≤ m.2 ∧ m.2 ≤ 73048) mtx (fun a b ha hb q => mtx_inj ha hb q) (fun a _ => mtx_ne a) (fun a => mtx_no _ _ (by decide)) _ _ mF mG h
    show (_, _, (_, F.mv)) = (_, _, (_, G.mv))
    rw [e]

theorem sw_of {E : EV} (h : EW E) : SW E := by
  obtain ⟨k1, m1, _, _, kd, md, _⟩ := lk_of h.ls
  exact ⟨h.id, h.ti, h.bd, h.rl, by omega, by omega, kd, md⟩
theorem eT_injS {F G : EV} (hF : SW F) (hG : SW G) (h : eT F = eT G) : F = G := by
  have hp := congrArg (pieces 124) h
  rw [eT_piecesS hF, eT_piecesS hG] at hp
  injection hp with h1 h2
  refine fld_ext (id_eq h1) (fun j hj => fT_injS hF hG j hj ?_)
  have := congrArg (fun l => l.getD j []) h2
  rwa [pT_at F j hj, pT_at G j hj] at this
/-- two that may be none have one text only if they are one -/
theorem eOp_inj {o p : Option EV} (ho : ∀ E, o = some E → EW E) (hp : ∀ E, p = some E → EW E) (h : eOp o = eOp p) : o = p := by
  cases o with
  | none =>
    cases p with
    | none => rfl
    | some F => exact absurd (bs_inj (show bs [] = bs (eT F) from h)).symm eT_ne
  | some E =>
    cases p with
    | none => exact absurd (bs_inj (show bs (eT E) = bs [] from h)) eT_ne
    | some F => rw [eT_injS (sw_of (ho E rfl)) (sw_of (hp F rfl)) (bs_inj (show bs (eT E) = bs (eT F) from h))]
theorem jR_same (o1 o2 : Option EV) : jR o1 o2 o2 = .inl o2 := jR_two (.inl rfl)
theorem jR_left (o1 o2 : Option EV) : jR o1 o2 o1 = .inl o2 := jR_two (.inr rfl)
theorem jR_right {o1 o3 : Option EV} (h1 : ∀ E, o1 = some E → EW E) (h3 : ∀ E, o3 = some E → EW E) : jR o1 o1 o3 = .inl o3 := by
  by_cases q : eOp o1 = eOp o3 ∨ eOp o3 = eOp o1
  · rw [jR_two q, eOp_inj h1 h3 (q.elim id Eq.symm)]
  · exact jR_thr q rfl
theorem jE_swap {E1 E2 E3 : EV} (h1 : EW E1) (h2 : EW E2) (h3 : EW E3) (h : jCs E1 E2 E3 6 = []) : jE E1 E2 E3 = jE E1 E3 E2 := by
  refine eT_injS (jE_sw h1 h2 h3) (jE_sw h1 h3 h2) ?_
  rw [← jE_text h, ← jE_text (by rw [jCs_swap]; exact h), jTs_swap]
theorem jR_swap {o1 o2 o3 : Option EV} (h1 : ∀ E, o1 = some E → EW E) (h2 : ∀ E, o2 = some E → EW E) (h3 : ∀ E, o3 = some E → EW E) : jR o1 o2 o3 = jR o1 o3 o2 := by
  by_cases q1 : eOp o2 = eOp o3
  · rw [eOp_inj h2 h3 q1]
  · by_cases q2 : eOp o3 = eOp o1
    · have e := eOp_inj h3 h1 q2
      subst e
      rw [jR_left, jR_right h3 h2]
    · by_cases q3 : eOp o2 = eOp o1
      · have e := eOp_inj h2 h1 q3
        subst e
        rw [jR_left, jR_right h2 h3]
      · have n1 : ¬ (eOp o2 = eOp o3 ∨ eOp o3 = eOp o1) := by rintro (q | q); exact q1 q; exact q2 q
        have n2 : ¬ (eOp o3 = eOp o2 ∨ eOp o2 = eOp o1) := by rintro (q | q); exact q1 q.symm; exact q3 q
        by_cases hn : o1 = none ∨ o2 = none ∨ o3 = none
        · rw [jR_no n1 q3 hn, jR_no n2 q2 (by rcases hn with q | q | q; exact .inl q; exact .inr (.inr q); exact .inr (.inl q))]
        · cases o1 with
          | none => exact absurd (.inl rfl) hn
          | some E1 =>
            cases o2 with
            | none => exact absurd (.inr (.inl rfl)) hn
            | some E2 =>
              cases o3 with
              | none => exact absurd (.inr (.inr rfl)) hn
              | some E3 =>
                have hs := jCs_swap E1 E2 E3 6
                rw [jR_all n1 q3, jR_all n2 q2]
                by_cases hc : jCs E1 E2 E3 6 = []
                · rw [if_pos hc, if_pos (show jCs E1 E3 E2 6 = [] from hs.symm.trans hc), ← jE_swap (h1 E1 rfl) (h2 E2 rfl) (h3 E3 rfl) hc]
                · rw [if_neg hc, if_neg (fun q => hc (hs.trans q)), hs]
theorem idsU_up (X Y : List EV) : ((idsU X Y).map fun x => x.data.toList).Pairwise (· < ·) := by
  have h := (compact_sortS (((X.map EV.id) ++ (Y.map EV.id)).map fun y => y.data.toList)).1
  unfold idsU
  rw [List.map_map]
  exact List.pairwise_map.2 (h.imp (fun {a b} q => q))
theorem idsU_swap (X Y : List EV) : idsU X Y = idsU Y X := by
  have hp : (idsU X Y).Perm (idsU Y X) := (List.perm_ext_iff_of_nodup (idsU_nodup X Y) (idsU_nodup Y X)).2 (fun x => by rw [idsU_mem, idsU_mem, or_comm])
  refine List.Perm.eq_of_pairwise (le := fun (a b : ByteArray) => a.data.toList < b.data.toList) (fun a b _ _ q1 q2 => absurd (List.lt_trans q1 q2) (List.lt_irrefl _)) (List.pairwise_map.1 (idsU_up X Y)) (List.pairwise_map.1 (idsU_up Y X)) hp
/-- all events of three calendars are well -/
def AllW (X : List EV) : Prop := ∀ E ∈ X, EW E
theorem AllW.lk {X : List EV} (h : AllW X) (id : ByteArray) : ∀ E, lkC X id = some E → EW E := fun E q => h E (lkC_some q).1
theorem thr_swap {X Y Z : List EV} (hX : AllW X) (hY : AllW Y) (hZ : AllW Z) : thr X Y Z (idsU Y Z) = thr X Z Y (idsU Z Y) := by
  have : jSp X Y Z = jSp X Z Y := funext fun a => funext fun id => by rw [jSp_ap, jSp_ap, jR_swap (hX.lk id) (hY.lk id) (hZ.lk id)]
  unfold thr
  rw [this, idsU_swap]
open Classical in
theorem evOf_filter (L : List ByteArray) (T : List EV) (id : ByteArray) : evOf id (T.filter fun E => decide (E.id ∈ L)) = if id ∈ L then evOf id T else none := by
  unfold evOf
  rw [List.find?_filter]
  by_cases h : id ∈ L
  · rw [if_pos h]
    congr 1
    funext E
    by_cases e : E.id = id
    · subst e
      simp [h]
    · simp [e]
  · rw [if_neg h, List.find?_eq_none]
    intro E _
    by_cases e : E.id = id
    · subst e
      simp [h]
    · simp [e]
open Classical in
/-- where each ID becomes what T has of it, all become T -/
theorem thr_of {X Y Z T : List EV} {ids : List ByteArray} (hT : Rises T) (h60 : T.length ≤ 60) (hnd : ids.Nodup) (hids : ∀ E ∈ T, E.id ∈ ids) (h : ∀ id ∈ ids, jR (lkC X id) (lkC Y id) (lkC Z id) = .inl (lkC T id)) : thr X Y Z ids = (T, []) := by
  have key : ∀ m, m ≤ ids.length → thr X Y Z (ids.take m) = (T.filter (fun E => decide (E.id ∈ ids.take m)), []) := by
    intro m
    induction m with
    | zero => intro _; rw [List.take_zero]; simp [thr]
    | succ m ih =>
      intro hm
      have hlt : m < ids.length := hm
      rw [thr_succ X Y Z ids m hlt, ih (by omega), jSp_ap, h _ (List.getElem_mem hlt)]
      have hnot : ids[m] ∉ ids.take m := fun q => by
        obtain ⟨i, hi, e⟩ := List.mem_take_iff_getElem.1 q
        have := (List.getElem_inj hnd).1 e
        omega
      have htk : ids.take (m + 1) = ids.take m ++ [ids[m]] := List.take_succ_eq_append_getElem hlt
      generalize ids[m] = id at hnot htk ⊢
      have hmem : ∀ x, x ∈ ids.take (m + 1) ↔ x ∈ ids.take m ∨ x = id := fun x => by rw [htk, List.mem_append, List.mem_singleton]
      generalize ids.take (m + 1) = L' at hmem ⊢
      generalize ids.take m = L at hmem hnot ⊢
      cases hq : lkC T id with
      | none =>
        show (_, _) = (_, _)
        congr 1
        refine List.filter_congr (fun E hE => ?_)
        have : E.id ≠ id := fun q => lkC_none hq ⟨E, hE, q⟩
        rw [hmem]
        simp [this]
      | some E =>
        obtain ⟨hE, rfl⟩ := lkC_some hq
        have hlen : (T.filter fun F => decide (F.id ∈ L)).length < T.length := List.length_filter_lt_length_iff_exists.2 ⟨E, hE, by simpa using hnot⟩
        unfold jAp
        dsimp only
        rw [if_neg (fun q => by have := q.2; omega)]
        congr 1
        refine rises_ext (putC_rises (hT.filter _)) (hT.filter _) (fun x => ?_)
        rw [evOf_put (hT.filter _), evOf_filter, evOf_filter]
        by_cases hx : x = E.id
        · rw [if_pos hx, if_pos ((hmem x).2 (.inr hx)), hx]
          exact (evOf_of hT hE).symm
        · rw [if_neg hx]
          by_cases hl : x ∈ L
          · rw [if_pos hl, if_pos ((hmem x).2 (.inl hl))]
          · rw [if_neg hl, if_neg (fun q => ((hmem x).1 q).elim hl hx)]
  have := key ids.length (Nat.le_refl _)
  rw [List.take_length] at this
  rw [this]
  congr 1
  exact List.filter_eq_self.2 (fun E hE => decide_eq_true (hids E hE))
theorem jSp_len (X Y Z : List EV) (a : List EV × List (ByteArray × ByteArray)) (id : ByteArray) (h : a.1.length ≤ 60) : (jSp X Y Z a id).1.length ≤ 60 := by
  rw [jSp_ap]
  unfold jAp
  split
  · exact h
  · rename_i E _
    split
    · exact h
    · rename_i q
      show (putC E a.1).length ≤ 60
      unfold putC
      rw [insE_len]
      by_cases hx : ∃ F ∈ a.1, F.id = E.id
      · have : (woC E.id a.1).length < a.1.length := by
          obtain ⟨F, hF, e⟩ := hx
          unfold woC
          exact List.length_filter_lt_length_iff_exists.2 ⟨F, hF, by simp [e]⟩
        omega
      · have h1 : ¬ 60 ≤ a.1.length := fun z => q ⟨hx, z⟩
        have : (woC E.id a.1).length ≤ a.1.length := List.length_filter_le _ _
        omega
  · exact h
theorem thr_len (X Y Z : List EV) (ids : List ByteArray) (h : ids.length ≤ 120) : (thr X Y Z ids).2.length ≤ 1000 ∧ (thr X Y Z ids).1.length ≤ 60 := by
  have key : ∀ m, m ≤ ids.length → (thr X Y Z (ids.take m)).2.length ≤ 6 * m ∧ (thr X Y Z (ids.take m)).1.length ≤ 60 := by
    intro m
    induction m with
    | zero => intro _; rw [List.take_zero]; exact ⟨Nat.le_refl _, Nat.zero_le _⟩
    | succ m ih =>
      intro hm
      obtain ⟨h1, h2⟩ := ih (by omega)
      rw [thr_succ X Y Z ids m hm]
      refine ⟨?_, jSp_len X Y Z _ _ h2⟩
      have := jAp_len ids[m] (thr X Y Z (ids.take m)) (lkC X ids[m]) (lkC Y ids[m]) (lkC Z ids[m])
      rw [jSp_ap]
      omega
  have := key ids.length (Nat.le_refl _)
  rw [List.take_length] at this
  exact ⟨by omega, this.2⟩
theorem thr_same {X Y : List EV} (hY : Rises Y) (h60 : Y.length ≤ 60) : thr X Y Y (idsU Y Y) = (Y, []) :=
  thr_of hY h60 (idsU_nodup _ _) (fun E hE => (idsU_mem _ _ _).2 (.inl ⟨E, hE, rfl⟩)) (fun _ _ => jR_same _ _)
theorem thr_left {X Y : List EV} (hY : Rises Y) (h60 : Y.length ≤ 60) : thr X Y X (idsU Y X) = (Y, []) :=
  thr_of hY h60 (idsU_nodup _ _) (fun E hE => (idsU_mem _ _ _).2 (.inl ⟨E, hE, rfl⟩)) (fun _ _ => jR_left _ _)
theorem thr_right {X Y : List EV} (hX : AllW X) (hYw : AllW Y) (hY : Rises Y) (h60 : Y.length ≤ 60) : thr X X Y (idsU X Y) = (Y, []) :=
  thr_of hY h60 (idsU_nodup _ _) (fun E hE => (idsU_mem _ _ _).2 (.inr ⟨E, hE, rfl⟩)) (fun id _ => jR_right (hX.lk id) (hYw.lk id))
end Go.Proofs.YtekminpoiokgfaaGreatDoor

/- Package diff's Back: slices.Backward's iterator, and the changes turned round. -/
namespace Go.Proofs.YtekminpoiokgfaaGreatDoor
open Go Go.RowKit Go.Shelf Cal
attribute [local go_sem] Oper.semAt_some

end Go.Proofs.YtekminpoiokgfaaGreatDoor

/- Package diff's changesOf: the iterator of one event's changes. -/
namespace Go.Proofs.YtekminpoiokgfaaGreatDoor
open Go Go.RowKit Go.Shelf Cal
attribute [local go_sem] Oper.semAt_some

/-- the fields that are looked at -/
def kl : Option EV → Option EV → List Nat
  | some _, some _ => [0, 1, 2, 3, 4, 5]
  | _, _ => [6]
/-- what the iterator of changes has of its own -/
structure IO (W : World) (be1 be2 nf Bi : Nat) (e1 e2 fo : Array Value) (E1 E2 : EV) (a1 a2 a3 b1 b2 b3 : Value) (id : ByteArray) : Prop where
  k1 : W.heap[be1]? = some (.cells e1 44 (0, 0))
  k2 : W.heap[be2]? = some (.cells e2 44 (0, 0))
  kf : W.heap[nf]? = some (.cells fo 9 (0, 0))
  ki : W.heap[Bi]? = some (.cells #[.string id] 9 (0, 0))
  l1 : Ls W E1 a1 a2 a3
  l2 : Ls W E2 b1 b2 b3
theorem IO.step {W W' : World} {be1 be2 nf Bi : Nat} {e1 e2 fo : Array Value} {E1 E2 : EV} {a1 a2 a3 b1 b2 b3 : Value} {id : ByteArray} (h : IO W be1 be2 nf Bi e1 e2 fo E1 E2 a1 a2 a3 b1 b2 b3 id) (hb : Below W.heap.size W W') : IO W' be1 be2 nf Bi e1 e2 fo E1 E2 a1 a2 a3 b1 b2 b3 id :=
  ⟨(hb.block _ (Array.getElem?_eq_some_iff.1 h.k1).1).trans h.k1, (hb.block _ (Array.getElem?_eq_some_iff.1 h.k2).1).trans h.k2, (hb.block _ (Array.getElem?_eq_some_iff.1 h.kf).1).trans h.kf, (hb.block _ (Array.getElem?_eq_some_iff.1 h.ki).1).trans h.ki, h.l1.step hb, h.l2.step hb⟩
end Go.Proofs.YtekminpoiokgfaaGreatDoor

/- What Diff's rounds leave: the list so far in its cell, the marks of the ranges over functions, all else as it was. -/
namespace Go.Proofs.YtekminpoiokgfaaGreatDoor
open Go Go.RowKit Go.Shelf Cal
attribute [local go_sem] Oper.semAt_some

variable {w w2 W W' : World} {ds : List Nat} {v : Value} {o : List DC}
end Go.Proofs.YtekminpoiokgfaaGreatDoor

/- Package diff's changesOf: its iterator walked. -/
namespace Go.Proofs.YtekminpoiokgfaaGreatDoor
open Go Go.RowKit Go.Shelf Cal
attribute [local go_sem] Oper.semAt_some

end Go.Proofs.YtekminpoiokgfaaGreatDoor

/- Package diff's Diff. -/
namespace Go.Proofs.YtekminpoiokgfaaGreatDoor
open Go Go.RowKit Go.Shelf Cal
attribute [local go_sem] Oper.semAt_some

end Go.Proofs.YtekminpoiokgfaaGreatDoor

/- Differences: what the laws use: Diff of two calendars in plain words; the closed fact of one event that comes. -/
namespace Go.Proofs.YtekminpoiokgfaaGreatDoor
open Go Go.RowKit Go.Shelf Cal
attribute [local go_sem] Oper.semAt_some

theorem ids_all (X Y : List EV) (id : ByteArray) (h : id ∉ idsU X Y) : evOf id X = none ∧ evOf id Y = none := by
  exact ⟨evOf_none.2 (fun hE => h ((idsU_mem X Y id).2 (.inl hE))), evOf_none.2 (fun hE => h ((idsU_mem X Y id).2 (.inr hE)))⟩
end Go.Proofs.YtekminpoiokgfaaGreatDoor

/- Package book's Text: the events' texts, a line each. -/
namespace Go.Proofs.YtekminpoiokgfaaGreatDoor
open Go Go.RowKit Go.Maps Go.Shelf Cal
attribute [local go_sem] Oper.semAt_some

/-- a calendar's text -/
noncomputable def bkT (C : List EV) : List UInt8 := C.flatMap fun E => eT E ++ [10]
theorem bkT_len {C : List EV} (h : ∀ E ∈ C, EW E ∧ E.ds.length ≤ 20) : (bkT C).length ≤ C.length * 10001 := by
  induction C with
  | nil => simp [bkT]
  | cons E r ih =>
    have h1 := eT_len (h E (List.mem_cons_self)).1 (h E (List.mem_cons_self)).2
    have h2 := ih (fun F hF => h F (List.mem_cons_of_mem _ hF))
    have e : bkT (E :: r) = eT E ++ [10] ++ bkT r := rfl
    rw [e, List.length_append, List.length_append, List.length_cons]
    simp only [List.length_cons, List.length_nil]
    omega
theorem bkT_snoc (C : List EV) (E : EV) : bkT (C ++ [E]) = bkT C ++ eT E ++ [10] := by
  unfold bkT
  rw [List.flatMap_append, List.flatMap_cons, List.flatMap_nil, List.append_nil, List.append_assoc]

theorem builder_step {T e : TypeId} {B b : Nat} {l : List Value} {w w' : World} (h : Lib.IsBuilderF T e B b l w) (hb : Below w.heap.size w w') : Lib.IsBuilderF T e B b l w' := by
  have key : ∀ p, Lib.BuilderAtF T e B b p l w → Lib.BuilderAtF T e B b p l w' := fun p ⟨h1, v, h2, h3, h4⟩ => ⟨h1, v, (hb.block _ (Array.getElem?_eq_some_iff.1 h2).1).trans h2, h3.kept (grown_below hb none) (by cases v.ownBlock <;> simp), h4⟩
  exact h.imp (key _) (key _)
theorem bwrite (B b : Nat) (l : List UInt8) (x : ByteArray) (w : World) (h : Lib.IsBuilderF 92 5 B b (Lib.byteCells l) w) (hlen : l.length + x.size ≤ 140737488355328) (hB : B ≤ w.heap.size) :
    Calls Tryz.prog 44 #[.pointer (some ⟨b, 0, none⟩), .string x] w fun r w' => r = .returned (.tuple #[.int .i64 x.size, .nilIface]) ∧ Lib.IsBuilderF 92 5 B b (Lib.byteCells (l ++ x.data.toList)) w' ∧ Below B w w' ∧ Lib.OthersKept 5 (some b) w w' := by
  refine Calls.mono (Any.Builder_WriteString_k { Tryz.lays156 with } Tryz.Builder_Extra_156 B b (Lib.byteCells l) x w h (by rw [Lib.byteCells_length]; exact hlen) hB) ?_
  rintro r w' ⟨rfl, h1, h2, h3⟩
  refine ⟨rfl, .inr ?_, h2, h3⟩
  rw [Lib.byteCells_append, ← Lib.strCells_eq]
  exact h1
theorem bstring (B b : Nat) (l : List UInt8) (w : World) (h : Lib.IsBuilderF 92 5 B b (Lib.byteCells l) w) (hB : B ≤ w.heap.size) :
    Calls Tryz.prog 45 #[.pointer (some ⟨b, 0, none⟩)] w fun r w' => r = .returned (.string (bs l)) ∧ Below B w w' := by
  refine Calls.mono (Any.Builder_String_any_k { Tryz.lays156 with } Tryz.Builder_Extra_156 B b l w h hB) ?_
  rintro r w' ⟨rfl, h1, h2, h3⟩
  exact ⟨rfl, h2⟩
/-- a row of texts stays while a builder is written -/
theorem rowS_kept {W W' : World} {B b cap : Nat} {l : List ByteArray} (h : RowS W B cap l) (hk : Lib.OthersKept 5 (some b) W W') (hne : B ≠ b) : RowS W' B cap l := by
  obtain ⟨⟨cur, h1, h2, h3⟩, h4⟩ := h
  exact ⟨⟨cur, hk B _ h1 (fun q => hne (Option.some.inj q)) (fun c fz q => by injection q with _ q2 _; exact absurd q2 (by decide)), h2, h3⟩, h4⟩

set_option maxHeartbeats 2000000 in
set_option maxRecDepth 100000 in
theorem btext_C (lo bb n : Nat) (mo : Option Nat) (C : List EV) (s : Nat → Addr) (w : World) (gk : GlobK s w) (g : GlobR w) (h : BookAt lo w bb mo n C) (hn : n ≤ 100000) (hC : C.length ≤ 60) :
    Calls Tryz.prog 23 #[.pointer (some ⟨bb, 0, none⟩)] w fun r w' => r = .returned (.string (bs (bkT C))) ∧ Below w.heap.size w w' := by
  have hbk := h
  obtain ⟨D, h1, h2, h3, h4⟩ := h
  have hw20 : ∀ E ∈ C, EW E ∧ E.ds.length ≤ 20 := fun E hE => (h4.at_ E hE).1
  have AL : Hid (Calls _ _ _ _ _) := all_any bb mo n D w h1
  have hA := below_alloc w (.cells #[.pointer none, .slice none 0 0] 92)
  have ID : Hid (Calls _ _ _ _ _) := ids_C lo bb n mo C _ (hbk.step hA) hn
  have HBD : Hid (Lib.IsBuilderF 92 5 w.heap.size w.heap.size (Lib.byteCells []) (w.alloc (.cells #[.pointer none, .slice none 0 0] 92))) := Lib.IsBuilderF.of (Lib.fresh_isBuilder _ _ w)
  have HA : Hid (_) := hA
  have hz : (w.alloc (.cells #[.pointer none, .slice none 0 0] 92)).heap.size = w.heap.size + 1 := World.size_alloc _ _
  have HZ : Hid (_) := hz
  have HBK : Hid (Bok w bb mo n D) := h1
  generalize htx : bs (bkT C) = tx
  have HTX : Hid (bs (bkT C) = tx) := htx
  clear htx
  have HH : Hid (Holds (NotIn lo bb mo) w D C) := h4
  have HW20 : Hid (_) := hw20
  have GK : Hid (GlobK s w) := gk
  have G : Hid (GlobR w) := g
  have hLn : (bkT C).length ≤ 1000000 := by have := bkT_len hw20; omega
  clear hA hz h1 h4 hw20 gk g hbk
  go_enter Tryz.func23, Tryz.ntmps23
  generalize hw0 : w.alloc (.cells #[.pointer none, .slice none 0 0] 92) = w0 at ID HBD HA HZ
  have hL2 : (C.map EV.id).length ≤ 80000 := by rw [List.length_map]; omega
  go_wp2_with (first
    | (go_at_call 26; refine Calls.mono AL.out ?_; rintro r w' ⟨rfl, hq⟩; have hq := hq.symm; subst hq)
    | (go_at_call 10; refine Calls.mono ID.out ?_; rintro r w1 ⟨vid, rfl, hrid, hb1⟩; have HRID : Hid (RowV w0.heap.size w1 vid (C.map EV.id)) := hrid; obtain ⟨ia, ic, rfl, _, hcl, _⟩ := hrid.txs hL2))
  have B1 : Hid (Below w.heap.size w w1) := below_then HA.out hb1
  have HBD1 : Hid (Lib.IsBuilderF 92 5 w.heap.size w.heap.size (Lib.byteCells (bkT [])) w1) := builder_step HBD.out hb1
  have hs1 : w.heap.size + 1 ≤ w1.heap.size := by rw [← HZ.out]; exact hb1.size
  rw [List.length_map] at hcl
  have HROW : Hid (∀ W, Below w1.heap.size w1 W → (C.length = 0 ∨ ∃ ib, ia = some ⟨ib, 0, none⟩ ∧ w.heap.size < ib ∧ RowS W ib ic (C.map EV.id))) := fun W hW => by
    rcases HRID.out with ⟨q1, q2⟩ | ⟨ib, cap, q1, q2, q3⟩
    · left
      have := congrArg List.length q2
      simpa using this
    · right
      have hz := HZ.out
      have e1 : ia = some ⟨ib, 0, none⟩ ∧ ic = cap := by
        rw [List.length_map] at q1
        injection q1 with a1 a2 a3
        exact ⟨a1, a3⟩
      exact ⟨ib, e1.1, by omega, by rw [e1.2]; exact q3.step hW⟩
  clear AL ID HBD hb1 hrid HRID
  go_loopw [12] (fun i wr => ∃ m : Nat, m ≤ C.length ∧ i = .int .i64 m ∧ Hid (Below w.heap.size w wr) ∧ Hid (w.heap.size + 1 ≤ wr.heap.size) ∧ Hid (Lib.IsBuilderF 92 5 w.heap.size w.heap.size (Lib.byteCells (bkT (C.take m))) wr) ∧ Hid (C.length = 0 ∨ ∃ ib, ia = some ⟨ib, 0, none⟩ ∧ w.heap.size < ib ∧ RowS wr ib ic (C.map EV.id))) (fun i _ => C.length - (intOf i).toNat)
  case atStart => exact ⟨0, Nat.zero_le _, rfl, B1.out, hs1, HBD1.out, HROW.out _ (Below.refl _ _)⟩
  case round =>
    obtain ⟨m, hm, rfl, HB, HS, HBD, HR⟩ := hrel
    by_cases hlt : m < C.length
    · obtain ⟨ib, rfl, hib, hrow⟩ : ∃ ib, ia = some ⟨ib, 0, none⟩ ∧ w.heap.size < ib ∧ RowS wr ib ic (C.map EV.id) := by
        rcases HR.out with q | q
        · omega
        · exact q
      have hcr := hrow.cell m (by rw [List.length_map]; exact hlt)
      rw [List.getElem_map] at hcr
      have hE : C[m] ∈ C := List.getElem_mem hlt
      obtain ⟨⟨hw, h20⟩, sl, skv, mvv, q1, q2⟩ := HH.out.at_ C[m] hE
      obtain ⟨i12, _, _, _⟩ := ew_bd hw
      have q2' := q2.step HB.out
      have ET : Hid (Calls Tryz.prog 41 #[ev C[m] sl skv mvv] wr fun r w' => r = .returned (.string (bs (eT C[m]))) ∧ Below wr.heap.size wr w') := etext_any C[m] sl skv mvv s wr (GK.out.step HB.out) (G.out.step HB.out) (q2'.ls h20).d (q2'.ls h20).s (q2'.ls h20).m hw
      obtain ⟨a1, c1, rfl, _⟩ := q2.d
      obtain ⟨a2, c2, rfl, _⟩ := q2.s
      obtain ⟨a3, c3, rfl, _⟩ := q2.m
      unfold ev at ET q1
      have LK := look1_eq (HBK.out.step HB.out) (show C[m].id.size ≤ 1000 by omega) q1
      have HTK : Hid (bkT (C.take (m + 1)) = bkT (C.take m) ++ eT C[m] ++ [10]) := by
        show _ = _
        rw [List.take_succ_eq_append_getElem hlt, bkT_snoc]
      have hl1 : (bkT (C.take m)).length ≤ 1000000 := by
        have := bkT_len (C := C.take m) (fun F hF => HW20.out F (List.mem_of_mem_take hF))
        rw [List.length_take] at this
        omega
      have hl2 : (eT C[m]).length ≤ 10000 := eT_len hw h20
      have hl2' : (bs (eT C[m])).size = (eT C[m]).length := by rw [Lib.size_eq, bs_data]
      have HROWr : Hid (RowS wr ib ic (C.map EV.id)) := hrow
      clear HR q1 q2 q2' hw h20 hE hrow
      generalize C[m] = E at hcr ET LK HTK hl2 hl2' i12
      generalize bkT (C.take m) = acc at HBD HTK hl1
      generalize hx : bs (eT E) = x at ET hl2'
      have HX : Hid (x.data.toList = eT E) := by show _ = _; rw [← hx, bs_data]
      clear hx
      have HBW : Hid (∀ (W : World), Below wr.heap.size wr W → Calls Tryz.prog 44 #[.pointer (some ⟨w.heap.size, 0, none⟩), .string x] W fun r w' => r = .returned (.tuple #[.int .i64 x.size, .nilIface]) ∧ Lib.IsBuilderF 92 5 w.heap.size w.heap.size (Lib.byteCells (acc ++ x.data.toList)) w' ∧ Below w.heap.size W w' ∧ Lib.OthersKept 5 (some w.heap.size) W w') := fun W hW => bwrite w.heap.size w.heap.size acc x W (builder_step HBD.out hW) (by omega) (Nat.le_trans (by have := HS.out; omega) hW.size)
      go_upto_region 7 with (first
        | (go_at_call 41; refine Calls.mono ET.out ?_; rintro r w2 ⟨rfl, hb2⟩; have BW2 : Hid (Calls _ _ _ _ _) := HBW.out w2 hb2; have HB2 : Hid (Below wr.heap.size wr w2) := hb2)
        | (go_at_call 44; refine Calls.mono BW2.out ?_; rintro r w3 ⟨rfl, hbd3, hb3, hk3⟩))
      have HS3 : Hid (w.heap.size + 1 ≤ w3.heap.size) := Nat.le_trans HS.out (Nat.le_trans HB2.out.size hb3.size)
      have hlx : (acc ++ x.data.toList).length + (⟨#[10]⟩ : ByteArray).size ≤ 140737488355328 := by
        have : (⟨#[10]⟩ : ByteArray).size = 1 := rfl
        rw [List.length_append, HX.out, this]
        omega
      have BW3 : Hid (Calls _ _ _ _ _) := bwrite w.heap.size w.heap.size (acc ++ x.data.toList) ⟨#[10]⟩ w3 hbd3 hlx (by have := HS3.out; omega)
      have HB3 : Hid (_) := hb3
      have HK3 : Hid (_) := hk3
      clear hbd3 hb3 hk3 hlx
      go_wp2_with (go_at_call 44; refine Calls.mono BW3.out ?_; rintro r w4 ⟨rfl, hbd4, hb4, hk4⟩)
      go_roundw
      case rel =>
        have hz := HS.out
        have hz3 := HS3.out
        have hbb : Below w.heap.size w w3 := ⟨HB3.out.os.trans ((below_then HB.out HB2.out).os), HB3.out.tape.trans ((below_then HB.out HB2.out).tape), HB3.out.output.trans ((below_then HB.out HB2.out).output), by omega, fun k hk => (HB3.out.block k hk).trans ((below_then HB.out HB2.out).block k hk)⟩
        have hb4' : Below w.heap.size w w4 := ⟨hb4.os.trans hbb.os, hb4.tape.trans hbb.tape, hb4.output.trans hbb.output, Nat.le_trans hbb.size hb4.size, fun k hk => (hb4.block k hk).trans (hbb.block k hk)⟩
        refine ⟨m + 1, by omega, by go_num, hb4', Nat.le_trans hz3 hb4.size, ?_, .inr ⟨ib, rfl, hib, rowS_kept (rowS_kept (HROWr.out.step HB2.out) HK3.out (by omega)) hk4 (by omega)⟩⟩
        show Lib.IsBuilderF _ _ _ _ (Lib.byteCells (bkT (C.take (m + 1)))) w4
        rw [HTK.out, ← HX.out]
        exact hbd4
      case measure => simp [intOf]; omega
    · have hfin : C.take m = C := List.take_of_length_le (by omega)
      have HBE : Hid (Calls Tryz.prog 45 #[.pointer (some ⟨w.heap.size, 0, none⟩)] wr fun r w' => r = .returned (.string (bs (bkT C))) ∧ Below w.heap.size wr w') := by
        have := HBD.out
        rw [hfin] at this
        exact bstring w.heap.size w.heap.size (bkT C) wr this (by have := HS.out; omega)
      clear HR HBD hfin
      rw [HTX.out] at HBE
      go_wp2_with (go_at_call 45; refine Calls.mono HBE.out ?_; rintro r w5 ⟨rfl, hb5⟩)
      go_ret
      exact ⟨rfl, ⟨hb5.os.trans HB.out.os, hb5.tape.trans HB.out.tape, hb5.output.trans HB.out.output, Nat.le_trans HB.out.size hb5.size, fun k hk => (hb5.block k hk).trans (HB.out.block k hk)⟩⟩
end Go.Proofs.YtekminpoiokgfaaGreatDoor

/- Package book's Same: by the texts. -/
namespace Go.Proofs.YtekminpoiokgfaaGreatDoor
open Go Go.RowKit Cal
attribute [local go_sem] Oper.semAt_some

theorem same_C (a b : Value) (ta tb : ByteArray) (w : World) (ha : Calls Tryz.prog 23 #[a] w fun r w' => r = .returned (.string ta) ∧ Below w.heap.size w w')
    (hb : ∀ W, Below w.heap.size w W → Calls Tryz.prog 23 #[b] W fun r w' => r = .returned (.string tb) ∧ Below W.heap.size W w') :
    Calls Tryz.prog 9 #[a, b] w fun r w' => r = .returned (.bool (ta.toList == tb.toList)) ∧ Below w.heap.size w w' := by
  have HA : Hid (Calls _ _ _ _ _) := ha
  have HB : Hid (∀ W, Below w.heap.size w W → Calls Tryz.prog 23 #[b] W fun r w' => r = .returned (.string tb) ∧ Below W.heap.size W w') := hb
  clear ha hb
  go_enter Tryz.func9, Tryz.ntmps9
  go_wp2_with fail
  go_at_call 23
  refine Calls.mono HA.out ?_
  rintro r w1 ⟨rfl, hb1⟩
  have HB1 : Hid (Calls _ _ _ _ _) := HB.out w1 hb1
  go_wp2_with (go_at_call 23; refine Calls.mono HB1.out ?_; rintro r w2 ⟨rfl, hb2⟩)
  go_ret
  exact ⟨rfl, below_then hb1 hb2⟩
end Go.Proofs.YtekminpoiokgfaaGreatDoor
