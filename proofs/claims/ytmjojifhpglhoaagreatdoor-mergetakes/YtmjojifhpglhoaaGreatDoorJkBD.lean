/- Merges in plain words: with itself, or with the base, nothing clashes; the two ways may change places. -/
import Derived.Test.YtmjojifhpglhoaaGreatDoorMgUK
import Derived.Test.YtmjojifhpglhoaaGreatDoorJkAZ
import Derived.Test.YtmjojifhpglhoaaGreatDoorJkBC
import Derived.Test.YtmjojifhpglhoaaGreatDoorJkAA
import Derived.Test.YtmjojifhpglhoaaGreatDoorJkAP
import Derived.Shelf.Abstract
import Derived.Shelf.RegionOpen
import Derived.WalkKit
import Derived.OwnWalkIn
import Derived.TacticsInMore
import Derived.LoopNIn
import Derived.LoopIn
import Derived.Test.YtmjojifhpglhoaaGreatDoorJkBA
import Derived.Test.YtmjojifhpglhoaaGreatDoorJkAW
import Derived.Deep.RegionHeld3
import Derived.Laws.StructEq
import Derived.Test.YtmjojifhpglhoaaGreatDoorJkAT
import Derived.Test.YtmjojifhpglhoaaGreatDoorJkAF
import Derived.Shelf.Strings.BuilderK
namespace Go.Proofs.YtmjojifhpglhoaaGreatDoor
open Go Go.RowKit Cal

theorem fT_injS {F G : EV} (hF : SW F) (hG : SW G) (k : Nat) (hk : k < 6) (h : fT F k = fT G k) : fld F k = fld G k := by
  have kF := hF.kd
  have mF := hF.md
  have kG := hG.kd
  have mG := hG.md
  match k, hk, h with
  | 0, _, h =>
    have e : F.ti = G.ti := ba_ext h
    show ((F.ti, _), _, _) = ((G.ti, _), _, _)
    rw [e]
  | 1, _, h =>
    have e : F.st = G.st := dtx_inj hF.bd.1 hG.bd.1 h
    show ((_, F.st), _, _) = ((_, G.st), _, _)
    rw [e]
  | 2, _, h =>
    have e : F.lg = G.lg := itoa_inj _ _ (by have := hF.bd.2.1; omega) (by have := hG.bd.2.1; omega) h
    show ((_, F.lg), _, _) = ((_, G.lg), _, _)
    rw [e]
  | 3, _, h =>
    obtain ⟨t, ht, e⟩ := ruT_ok hF.rl
    obtain ⟨t', ht', e'⟩ := ruT_ok hG.rl
    have h' : ruT (rd F.f F.e F.ds F.c F.u) = ruT (rd G.f G.e G.ds G.c G.u) := h
    rw [e, e'] at h'
    have hr := rtext_inj hF.rl hG.rl ht ht' h'
    have e1 : F.f.toList = G.f.toList := congrArg RV.freq hr
    have e2 : F.e = G.e := congrArg RV.every hr
    have e3 : F.ds = G.ds := congrArg RV.days hr
    have e4 : F.c = G.c := congrArg RV.count hr
    have e5 : F.u = G.u := congrArg RV.til hr
    have e6 : F.f = G.f := by
      rw [ByteArray.toList_eq, ByteArray.toList_eq] at e1
      exact ba_ext e1
    show (_, (F.f, F.e, F.ds, F.c, F.u), _) = (_, (G.f, G.e, G.ds, G.c, G.u), _)
    rw [e2, e3, e4, e5, e6]
  | 4, _, h =>
    have e : F.sk = G.sk := join_inj (fun d => 0 ≤ d ∧ d ≤ 73048) dtx (fun a b ha hb q => dtx_inj ha hb q) (fun a ha => dtx_ne ha.1 ha.2) (fun a => dtx_no _ _ (by decide)) _ _ kF kG h
    show (_, _, (F.sk, _)) = (_, _, (G.sk, _))
    rw [e]
  | 5, _, h =>
    have e : F.mv = G.mv := join_inj (fun m => (0 ≤ m.1 ∧ m.1 ≤ 73048) ∧ 0 ≤ m.2 ∧ m.2 ≤ 73048) mtx (fun a b ha hb q => mtx_inj ha hb q) (fun a _ => mtx_ne a) (fun a => mtx_no _ _ (by decide)) _ _ mF mG h
    show (_, _, (_, F.mv)) = (_, _, (_, G.mv))
    rw [e]

theorem sw_of {E : EV} (h : EW E) : SW E := by
  obtain ⟨k1, m1, _, _, kd, md, _⟩ := lk_of h.ls
  exact ⟨h.id, h.ti, h.bd, h.rl, by omega, by omega, kd, md⟩
theorem eT_injS {F G : EV} (hF : SW F) (hG : SW G) (h : eT F = eT G) : F = G := by
  have hp := congrArg (pieces 124) h
  rw [eT_piecesS hF, eT_piecesS hG] at hp
  injection hp with h1 h2
  refine fld_ext (id_eq h1) (fun j hj => fT_injS hF hG j hj ?_)
  have := congrArg (fun l => l.getD j []) h2
  rwa [pT_at F j hj, pT_at G j hj] at this
/-- two that may be none have one text only if they are one -/
theorem eOp_inj {o p : Option EV} (ho : ∀ E, o = some E → EW E) (hp : ∀ E, p = some E → EW E) (h : eOp o = eOp p) : o = p := by
  cases o with
  | none =>
    cases p with
    | none => rfl
    | some F => exact absurd (bs_inj (show bs [] = bs (eT F) from h)).symm eT_ne
  | some E =>
    cases p with
    | none => exact absurd (bs_inj (show bs (eT E) = bs [] from h)) eT_ne
    | some F => rw [eT_injS (sw_of (ho E rfl)) (sw_of (hp F rfl)) (bs_inj (show bs (eT E) = bs (eT F) from h))]
theorem jR_left (o1 o2 : Option EV) : jR o1 o2 o1 = .inl o2 := jR_two (.inr rfl)
theorem jR_right {o1 o3 : Option EV} (h1 : ∀ E, o1 = some E → EW E) (h3 : ∀ E, o3 = some E → EW E) : jR o1 o1 o3 = .inl o3 := by
  by_cases q : eOp o1 = eOp o3 ∨ eOp o3 = eOp o1
  · rw [jR_two q, eOp_inj h1 h3 (q.elim id Eq.symm)]
  · exact jR_thr q rfl
/-- all events of three calendars are well -/
def AllW (X : List EV) : Prop := ∀ E ∈ X, EW E
theorem AllW.lk {X : List EV} (h : AllW X) (id : ByteArray) : ∀ E, lkC X id = some E → EW E := fun E q => h E (lkC_some q).1
open Classical in
theorem evOf_filter (L : List ByteArray) (T : List EV) (id : ByteArray) : evOf id (T.filter fun E => decide (E.id ∈ L)) = if id ∈ L then evOf id T else none := by
  unfold evOf
  rw [List.find?_filter]
  by_cases h : id ∈ L
  · rw [if_pos h]
    congr 1
    funext E
    by_cases e : E.id = id
    · subst e
      simp [h]
    · simp [e]
  · rw [if_neg h, List.find?_eq_none]
    intro E _
    by_cases e : E.id = id
    · subst e
      simp [h]
    · simp [e]
open Classical in
/-- where each ID becomes what T has of it, all become T -/
theorem thr_of {X Y Z T : List EV} {ids : List ByteArray} (hT : Rises T) (h60 : T.length ≤ 60) (hnd : ids.Nodup) (hids : ∀ E ∈ T, E.id ∈ ids) (h : ∀ id ∈ ids, jR (lkC X id) (lkC Y id) (lkC Z id) = .inl (lkC T id)) : thr X Y Z ids = (T, []) := by
  have key : ∀ m, m ≤ ids.length → thr X Y Z (ids.take m) = (T.filter (fun E => decide (E.id ∈ ids.take m)), []) := by
    intro m
    induction m with
    | zero => intro _; rw [List.take_zero]; simp [thr]
    | succ m ih =>
      intro hm
      have hlt : m < ids.length := hm
      rw [thr_succ X Y Z ids m hlt, ih (by omega), jSp_ap, h _ (List.getElem_mem hlt)]
      have hnot : ids[m] ∉ ids.take m := fun q => by
        obtain ⟨i, hi, e⟩ := List.mem_take_iff_getElem.1 q
        have := (List.getElem_inj hnd).1 e
        omega
      have htk : ids.take (m + 1) = ids.take m ++ [ids[m]] := List.take_succ_eq_append_getElem hlt
      generalize ids[m] = id at hnot htk ⊢
      have hmem : ∀ x, x ∈ ids.take (m + 1) ↔ x ∈ ids.take m ∨ x = id := fun x => by rw [htk, List.mem_append, List.mem_singleton]
      generalize ids.take (m + 1) = L' at hmem ⊢
      generalize ids.take m = L at hmem hnot ⊢
      cases hq : lkC T id with
      | none =>
        show (_, _) = (_, _)
        congr 1
        refine List.filter_congr (fun E hE => ?_)
        have : E.id ≠ id := fun q => lkC_none hq ⟨E, hE, q⟩
        rw [hmem]
        simp [this]
      | some E =>
        obtain ⟨hE, rfl⟩ := lkC_some hq
        have hlen : (T.filter fun F => decide (F.id ∈ L)).length < T.length := List.length_filter_lt_length_iff_exists.2 ⟨E, hE, by simpa using hnot⟩
        unfold jAp
        dsimp only
        rw [if_neg (fun q => by have := q.2; omega)]
        congr 1
        refine rises_ext (putC_rises (hT.filter _)) (hT.filter _) (fun x => ?_)
        rw [evOf_put (hT.filter _), evOf_filter, evOf_filter]
        by_cases hx : x = E.id
        · rw [if_pos hx, if_pos ((hmem x).2 (.inr hx)), hx]
          exact (evOf_of hT hE).symm
        · rw [if_neg hx]
          by_cases hl : x ∈ L
          · rw [if_pos hl, if_pos ((hmem x).2 (.inl hl))]
          · rw [if_neg hl, if_neg (fun q => ((hmem x).1 q).elim hl hx)]
  have := key ids.length (Nat.le_refl _)
  rw [List.take_length] at this
  rw [this]
  congr 1
  exact List.filter_eq_self.2 (fun E hE => decide_eq_true (hids E hE))
end Go.Proofs.YtmjojifhpglhoaaGreatDoor

/- Package diff's Back: slices.Backward's iterator, and the changes turned round. -/
namespace Go.Proofs.YtmjojifhpglhoaaGreatDoor
open Go Go.RowKit Go.Shelf Cal
attribute [local go_sem] Oper.semAt_some

end Go.Proofs.YtmjojifhpglhoaaGreatDoor

/- Package diff's changesOf: the iterator of one event's changes. -/
namespace Go.Proofs.YtmjojifhpglhoaaGreatDoor
open Go Go.RowKit Go.Shelf Cal
attribute [local go_sem] Oper.semAt_some

/-- the fields that are looked at -/
def kl : Option EV → Option EV → List Nat
  | some _, some _ => [0, 1, 2, 3, 4, 5]
  | _, _ => [6]
/-- what the iterator of changes has of its own -/
structure IO (W : World) (be1 be2 nf Bi : Nat) (e1 e2 fo : Array Value) (E1 E2 : EV) (a1 a2 a3 b1 b2 b3 : Value) (id : ByteArray) : Prop where
  k1 : W.heap[be1]? = some (.cells e1 49 (0, 0))
  k2 : W.heap[be2]? = some (.cells e2 49 (0, 0))
  kf : W.heap[nf]? = some (.cells fo 9 (0, 0))
  ki : W.heap[Bi]? = some (.cells #[.string id] 9 (0, 0))
  l1 : Ls W E1 a1 a2 a3
  l2 : Ls W E2 b1 b2 b3
theorem IO.step {W W' : World} {be1 be2 nf Bi : Nat} {e1 e2 fo : Array Value} {E1 E2 : EV} {a1 a2 a3 b1 b2 b3 : Value} {id : ByteArray} (h : IO W be1 be2 nf Bi e1 e2 fo E1 E2 a1 a2 a3 b1 b2 b3 id) (hb : Below W.heap.size W W') : IO W' be1 be2 nf Bi e1 e2 fo E1 E2 a1 a2 a3 b1 b2 b3 id :=
  ⟨(hb.block _ (Array.getElem?_eq_some_iff.1 h.k1).1).trans h.k1, (hb.block _ (Array.getElem?_eq_some_iff.1 h.k2).1).trans h.k2, (hb.block _ (Array.getElem?_eq_some_iff.1 h.kf).1).trans h.kf, (hb.block _ (Array.getElem?_eq_some_iff.1 h.ki).1).trans h.ki, h.l1.step hb, h.l2.step hb⟩
end Go.Proofs.YtmjojifhpglhoaaGreatDoor

/- What Diff's rounds leave: the list so far in its cell, the marks of the ranges over functions, all else as it was. -/
namespace Go.Proofs.YtmjojifhpglhoaaGreatDoor
open Go Go.RowKit Go.Shelf Cal
attribute [local go_sem] Oper.semAt_some

variable {w w2 W W' : World} {ds : List Nat} {v : Value} {o : List DC}
end Go.Proofs.YtmjojifhpglhoaaGreatDoor

/- Package diff's changesOf: its iterator walked. -/
namespace Go.Proofs.YtmjojifhpglhoaaGreatDoor
open Go Go.RowKit Go.Shelf Cal
attribute [local go_sem] Oper.semAt_some

end Go.Proofs.YtmjojifhpglhoaaGreatDoor

/- Package diff's Diff. -/
namespace Go.Proofs.YtmjojifhpglhoaaGreatDoor
open Go Go.RowKit Go.Shelf Cal
attribute [local go_sem] Oper.semAt_some

end Go.Proofs.YtmjojifhpglhoaaGreatDoor

/- Differences: what the laws use: Diff of two calendars in plain words; the closed fact of one event that comes. -/
namespace Go.Proofs.YtmjojifhpglhoaaGreatDoor
open Go Go.RowKit Go.Shelf Cal
attribute [local go_sem] Oper.semAt_some

theorem ids_all (X Y : List EV) (id : ByteArray) (h : id ∉ idsU X Y) : evOf id X = none ∧ evOf id Y = none := by
  exact ⟨evOf_none.2 (fun hE => h ((idsU_mem X Y id).2 (.inl hE))), evOf_none.2 (fun hE => h ((idsU_mem X Y id).2 (.inr hE)))⟩
end Go.Proofs.YtmjojifhpglhoaaGreatDoor

/- Package book's Text: the events' texts, a line each. -/
namespace Go.Proofs.YtmjojifhpglhoaaGreatDoor
open Go Go.RowKit Go.Maps Go.Shelf Cal
attribute [local go_sem] Oper.semAt_some

end Go.Proofs.YtmjojifhpglhoaaGreatDoor

/- Package book's Same: by the texts. -/
namespace Go.Proofs.YtmjojifhpglhoaaGreatDoor
open Go Go.RowKit Cal
attribute [local go_sem] Oper.semAt_some

end Go.Proofs.YtmjojifhpglhoaaGreatDoor
