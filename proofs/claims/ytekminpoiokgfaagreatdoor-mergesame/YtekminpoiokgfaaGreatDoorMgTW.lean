/- Package merge's Three in plain words: what becomes of an ID; a calendar and a row of clashes side by side. -/
import Derived.Test.YtekminpoiokgfaaGreatDoorYbC
import Derived.Test.YtekminpoiokgfaaGreatDoorYbB
import Derived.Test.YtekminpoiokgfaaGreatDoorYaX
namespace Go.Proofs.YtekminpoiokgfaaGreatDoor
open Go Go.RowKit Go.Maps Go.Sort Cal
attribute [local go_sem] Oper.semAt_some

open Classical in
/-- what becomes of an event: the one that it is then, or none; or the fields that clash -/
noncomputable def jR (o1 o2 o3 : Option EV) : Option EV ⊕ List ByteArray :=
  if eOp o2 = eOp o3 ∨ eOp o3 = eOp o1 then .inl o2
  else if eOp o2 = eOp o1 then .inl o3
  else match o1, o2, o3 with
    | some E1, some E2, some E3 => if jCs E1 E2 E3 6 = [] then (if EW (jE E1 E2 E3) then .inl (some (jE E1 E2 E3)) else .inr [allB]) else .inr (jCs E1 E2 E3 6)
    | _, _, _ => .inr [allB]
open Classical in
/-- one round of Three -/
noncomputable def jSp (X Y Z : List EV) (a : List EV × List (ByteArray × ByteArray)) (id : ByteArray) : List EV × List (ByteArray × ByteArray) :=
  match jR (lkC X id) (lkC Y id) (lkC Z id) with
  | .inl none => a
  | .inl (some E) => if (¬ ∃ F ∈ a.1, F.id = E.id) ∧ 60 ≤ a.1.length then (a.1, a.2 ++ [(id, allB)]) else (putC E a.1, a.2)
  | .inr fs => (a.1, a.2 ++ fs.map fun f => (id, f))
noncomputable def thr (X Y Z : List EV) (ids : List ByteArray) : List EV × List (ByteArray × ByteArray) := ids.foldl (jSp X Y Z) ([], [])
theorem thr_succ (X Y Z : List EV) (ids : List ByteArray) (m : Nat) (h : m < ids.length) : thr X Y Z (ids.take (m + 1)) = jSp X Y Z (thr X Y Z (ids.take m)) ids[m] := by
  unfold thr
  rw [List.take_succ_eq_append_getElem h, List.foldl_append]
  rfl

/-- a row of clashes that a call owns -/
def ClR (base : Nat) (W : World) (v : Value) (cs : List (ByteArray × ByteArray)) : Prop := W.ownsRow base 35 2 v cs.length (cs.flatMap fun c => [.string c.1, .string c.2])
theorem clR_nil (base : Nat) (W : World) : ClR base W (.slice none 0 0) [] := World.ownsRow_nil _ _ _ _
theorem flat2_at : ∀ (cs : List (ByteArray × ByteArray)) (j : Nat) (h : j < cs.length), (cs.flatMap fun c => [Value.string c.1, .string c.2])[j * 2]? = some (.string cs[j].1) ∧ (cs.flatMap fun c => [Value.string c.1, .string c.2])[j * 2 + 1]? = some (.string cs[j].2)
  | c :: r, 0, _ => ⟨rfl, rfl⟩
  | c :: r, j + 1, h => by
    have := flat2_at r j (by simpa using h)
    rw [List.flatMap_cons, show (j + 1) * 2 = j * 2 + 1 + 1 by omega]
    exact this
theorem ClR.cells {base : Nat} {W : World} {v : Value} {cs : List (ByteArray × ByteArray)} (h : ClR base W v cs) : ∃ (a : Option Addr) (cap : Nat), v = .slice a cs.length cap ∧ cs.length ≤ cap ∧ ∀ (j : Nat) (hj : j < cs.length), ∃ b : Nat, a = some ⟨b, 0, none⟩ ∧ b < W.heap.size ∧ W.cell? ⟨b, j * 2, none⟩ = some (.string cs[j].1) ∧ W.cell? ⟨b, j * 2 + 1, none⟩ = some (.string cs[j].2) := by
  rcases h.2 with ⟨rfl, h0⟩ | ⟨g, cap, cur, rfl, hb, hg, hcap, hmax, hsz, htake⟩
  · exact ⟨none, 0, by rw [h0], by omega, fun j hj => absurd hj (by omega)⟩
  · refine ⟨_, cap, rfl, hcap, fun j hj => ⟨g, rfl, (Array.getElem?_eq_some_iff.1 hg).1, ?_⟩⟩
    obtain ⟨q1, q2⟩ := flat2_at cs j hj
    rw [← q1, ← q2]
    exact ⟨World.ownsRow.cellAt h (j * 2) (by omega), World.ownsRow.cellAt h (j * 2 + 1) (by omega)⟩
theorem ClR.step {base : Nat} {W W' : World} {v : Value} {cs : List (ByteArray × ByteArray)} (h : ClR base W v cs) (hb : Below W.heap.size W W') : ClR base W' v cs := own_step h hb

/-- a book that a write into a block leaves that begins with a text -/
theorem OffI.text {N : Nat → Prop} {W W' : World} {v : Value} {xs : List Int} {B : Nat} {x : ByteArray} (h : OffI N W v xs) (hb : W.cell? ⟨B, 0, none⟩ = some (.string x)) (hg : W.grownBy W' (some B)) : OffI N W' v xs := by
  obtain ⟨a, c, h1, h2, h3, h4⟩ := h
  refine ⟨a, c, h1, h2, h3, fun j hj => ?_⟩
  obtain ⟨b, e, hn, hl, hc⟩ := h4 j hj
  refine ⟨b, e, hn, Nat.lt_of_lt_of_le hl hg.size, grown_cell hg hc (fun q => ?_)⟩
  obtain ⟨b', e', _, _, hc'⟩ := h4 0 (by omega)
  have eb : b' = b := by rw [e] at e'; cases e'; rfl
  rw [eb, q, hb] at hc'
  cases hc'
theorem OffM.text {N : Nat → Prop} {W W' : World} {v : Value} {xs : List (Int × Int)} {B : Nat} {x : ByteArray} (h : OffM N W v xs) (hb : W.cell? ⟨B, 0, none⟩ = some (.string x)) (hg : W.grownBy W' (some B)) : OffM N W' v xs := by
  obtain ⟨a, c, h1, h2, h3, h4⟩ := h
  refine ⟨a, c, h1, h2, h3, fun j hj => ?_⟩
  obtain ⟨b, e, hn, hl, hc, hd⟩ := h4 j hj
  have hne : b ≠ B := fun q => by
    obtain ⟨b', e', _, _, hc', _⟩ := h4 0 (by omega)
    have eb : b' = b := by rw [e] at e'; cases e'; rfl
    rw [eb, q, Nat.zero_mul, hb] at hc'
    cases hc'
  exact ⟨b, e, hn, Nat.lt_of_lt_of_le hl hg.size, grown_cell hg hc hne, grown_cell hg hd hne⟩
theorem bok_ne {W : World} {bb n B : Nat} {mo : Option Nat} {D : DataW Value} {x : ByteArray} (h : Bok W bb mo n D) (hb : W.cell? ⟨B, 0, none⟩ = some (.string x)) : B ≠ bb ∧ some B ≠ mo := by
  refine ⟨fun q => ?_, fun q => ?_⟩
  · subst q
    rw [cell_of h.1] at hb
    cases hb
  · subst q
    obtain ⟨_, es, clock, q1, _⟩ := h.2
    simp [World.cell?, q1] at hb
theorem BookAt.text {lo bb n B : Nat} {W W' : World} {mo : Option Nat} {C : List EV} {x : ByteArray} (h : BookAt lo W bb mo n C) (hb : W.cell? ⟨B, 0, none⟩ = some (.string x)) (hg : W.grownBy W' (some B)) : BookAt lo W' bb mo n C := by
  obtain ⟨D, h1, h2, h3, h4⟩ := h
  obtain ⟨n1, n2⟩ := bok_ne h1 hb
  refine ⟨D, ⟨(hg.block bb (Array.getElem?_eq_some_iff.1 h1.1).1 (fun q => n1 (Option.some.inj q).symm)).trans h1.1, ?_⟩, Nat.le_trans h2 hg.size, h3, h4.up, h4.tidy, h4.size, h4.has, fun E hE => ?_⟩
  · cases mo with
    | none => exact h1.2
    | some mb => exact ⟨h1.2.1, h1.2.2.kept hg (fun q => n2 q.symm)⟩
  · obtain ⟨q, sl, skv, mvv, q1, q2⟩ := h4.at_ E hE
    exact ⟨q, sl, skv, mvv, q1, q2.d.text hb hg, q2.s.text hb hg, q2.m.text hb hg⟩

/-- block lo is a book of C, its map and a row of clashes lie from block base on; K: all that lay below base, but for block lo, is as it was in w2 -/
structure CB (lo : Nat) (w2 W : World) (mo : Option Nat) (n : Nat) (C : List EV) (v : Value) (cl : List (ByteArray × ByteArray)) : Prop where
  b : BookAt lo W lo mo n C
  r : ClR w2.heap.size W v cl
  z : cl = [] → v = .slice none 0 0
  m : ∀ mb, mo = some mb → w2.heap.size ≤ mb
  k : Kept w2 W lo none
theorem kept_below {w2 W W' : World} {lo : Nat} (h : Kept w2 W lo none) (hb : Below W.heap.size W W') : Kept w2 W' lo none :=
  ⟨hb.os.trans h.os, hb.tape.trans h.tape, hb.output.trans h.output, Nat.le_trans h.size hb.size, fun j hj h1 h2 => (hb.block j (Nat.lt_of_lt_of_le hj h.size)).trans (h.block j hj h1 h2)⟩
theorem CB.step {lo : Nat} {w2 W W' : World} {mo : Option Nat} {n : Nat} {C : List EV} {v : Value} {cl : List (ByteArray × ByteArray)} (h : CB lo w2 W mo n C v cl) (hb : Below W.heap.size W W') : CB lo w2 W' mo n C v cl := ⟨h.b.step hb, h.r.step hb, h.z, h.m, kept_below h.k hb⟩
theorem CB.head {lo : Nat} {w2 W : World} {mo : Option Nat} {n : Nat} {C : List EV} {v : Value} {cl : List (ByteArray × ByteArray)} (h : CB lo w2 W mo n C v cl) {g : Nat} (hg : v.ownBlock = some g) : ∃ x, W.cell? ⟨g, 0, none⟩ = some (.string x) := by
  cases cl with
  | nil => rw [h.z rfl] at hg; cases hg
  | cons c r =>
    obtain ⟨a, cap, rfl, _, hc⟩ := h.r.cells
    obtain ⟨b, rfl, _, q, _⟩ := hc 0 (by simp)
    have e : b = g := Option.some.inj hg
    subst e
    exact ⟨_, q⟩
theorem CB.put {lo : Nat} {w2 W W' : World} {mo : Option Nat} {n : Nat} {C C' : List EV} {v : Value} {cl : List (ByteArray × ByteArray)} (h : CB lo w2 W mo n C v cl) (hp : PutTo lo W W' lo mo n C') : ∃ mo', CB lo w2 W' mo' (n + 1) C' v cl := by
  obtain ⟨mo', q1, q2, q3⟩ := hp
  refine ⟨mo', q1, ⟨h.r.1, ?_⟩, h.z, fun mb e => ?_, q2.os.trans h.k.os, q2.tape.trans h.k.tape, q2.output.trans h.k.output, Nat.le_trans h.k.size q2.size, fun j hj h1 h2 => (q2.block j (Nat.lt_of_lt_of_le hj h.k.size) h1 (fun q => by have := h.m j q.symm; omega)).trans (h.k.block j hj h1 h2)⟩
  · rcases h.r.2 with q | ⟨g, cap, cur, hv, hb, hg, r⟩
    · exact .inl q
    · refine .inr ⟨g, cap, cur, hv, hb, ?_, r⟩
      obtain ⟨x, hx⟩ := h.head (g := g) (by rw [hv]; rfl)
      obtain ⟨D, h1, _⟩ := h.b
      obtain ⟨n1, n2⟩ := bok_ne h1 hx
      exact (q2.block g (Array.getElem?_eq_some_iff.1 hg).1 n1 n2).trans hg
  · rcases q3 with rfl | ⟨_, q3⟩
    · exact h.m mb e
    · exact Nat.le_trans h.k.size (q3 mb e)
theorem CB.add {lo : Nat} {w2 W W' : World} {mo : Option Nat} {n : Nat} {C : List EV} {v v' : Value} {cl : List (ByteArray × ByteArray)} {c : ByteArray × ByteArray} (h : CB lo w2 W mo n C v cl) (ho : W'.ownsRow w2.heap.size 35 2 v' (cl.length + 1) ((cl.flatMap fun c => [.string c.1, .string c.2]) ++ [.string c.1, .string c.2])) (hg : W.grownBy W' v.ownBlock) : CB lo w2 W' mo n C v' (cl ++ [c]) := by
  refine ⟨?_, ?_, (fun q => by simp at q), h.m, hg.os.trans h.k.os, hg.tape.trans h.k.tape, hg.output.trans h.k.output, Nat.le_trans h.k.size hg.size, fun j hj h1 h2 => (hg.block j (Nat.lt_of_lt_of_le hj h.k.size) (fun q => by have := (World.ownsRow.lt h.r j q.symm).1; omega)).trans (h.k.block j hj h1 h2)⟩
  · cases hv : v.ownBlock with
    | none =>
      rw [hv] at hg
      exact h.b.step ⟨hg.os, hg.tape, hg.output, hg.size, fun k hk => hg.block k hk (by simp)⟩
    | some g =>
      rw [hv] at hg
      obtain ⟨x, hx⟩ := h.head hv
      exact h.b.text hx hg
  · show World.ownsRow _ _ _ _ _ _ _
    rw [List.length_append, List.flatMap_append]
    exact ho
/-- and beside both a row of fields -/
structure CF (lo : Nat) (w2 W : World) (mo : Option Nat) (n : Nat) (C : List EV) (v : Value) (cl : List (ByteArray × ByteArray)) (fv : Value) (fs : List ByteArray) : Prop where
  cb : CB lo w2 W mo n C v cl
  f : W.ownsRow w2.heap.size 9 1 fv fs.length (fs.map Value.string)
  ne : ∀ b, v.ownBlock = some b → fv.ownBlock ≠ some b
theorem CF.step {lo : Nat} {w2 W W' : World} {mo : Option Nat} {n : Nat} {C : List EV} {v : Value} {cl : List (ByteArray × ByteArray)} {fv : Value} {fs : List ByteArray} (h : CF lo w2 W mo n C v cl fv fs) (hb : Below W.heap.size W W') : CF lo w2 W' mo n C v cl fv fs := ⟨h.cb.step hb, own_step h.f hb, h.ne⟩
theorem CF.of {lo b : Nat} {w2 W : World} {mo : Option Nat} {n : Nat} {C : List EV} {v : Value} {cl : List (ByteArray × ByteArray)} {fv : Value} {fs : List ByteArray} (h : CB lo w2 W mo n C v cl) (hl : w2.heap.size ≤ b) (hv : ∀ g, v.ownBlock = some g → g < b) (hf : W.ownsRow b 9 1 fv fs.length (fs.map Value.string)) : CF lo w2 W mo n C v cl fv fs :=
  ⟨h, own_base hf hl, fun g q1 q2 => by
    have h1 := hv g q1
    have h2 := (World.ownsRow.lt hf g q2).1
    omega⟩
theorem CF.nil {lo : Nat} {w2 W : World} {mo : Option Nat} {n : Nat} {C : List EV} {v : Value} {cl : List (ByteArray × ByteArray)} (h : CB lo w2 W mo n C v cl) : CF lo w2 W mo n C v cl (.slice none 0 0) [] := ⟨h, World.ownsRow_nil _ _ _ _, fun _ _ q => by cases q⟩
theorem CF.add {lo : Nat} {w2 W W' : World} {mo : Option Nat} {n : Nat} {C : List EV} {v v' : Value} {cl : List (ByteArray × ByteArray)} {fv : Value} {fs : List ByteArray} {c : ByteArray × ByteArray} (h : CF lo w2 W mo n C v cl fv fs) (ho : W'.ownsRow w2.heap.size 35 2 v' (cl.length + 1) ((cl.flatMap fun c => [.string c.1, .string c.2]) ++ [.string c.1, .string c.2])) (hg : W.grownBy W' v.ownBlock) (hat : v'.ownBlock = v.ownBlock ∨ v'.ownBlock = some W.heap.size) : CF lo w2 W' mo n C v' (cl ++ [c]) fv fs := by
  refine ⟨h.cb.add ho hg, h.f.kept hg ?_, fun b hb q => ?_⟩
  · cases hp : fv.ownBlock with
    | none => exact .inl rfl
    | some b => exact .inr (fun q => h.ne b q.symm hp)
  · rcases hat with e | e
    · exact h.ne b (e ▸ hb) q
    · rw [e] at hb
      have := (World.ownsRow.lt h.f b q).2
      have := Option.some.inj hb
      omega
theorem CF.cells {lo : Nat} {w2 W : World} {mo : Option Nat} {n : Nat} {C : List EV} {v : Value} {cl : List (ByteArray × ByteArray)} {fv : Value} {fs : List ByteArray} (h : CF lo w2 W mo n C v cl fv fs) {a : Option Addr} {c : Nat} (hv : fv = .slice a fs.length c) (j : Nat) (hj : j < fs.length) : ∃ b : Nat, a = some ⟨b, 0, none⟩ ∧ W.cell? ⟨b, j, none⟩ = some (.string fs[j]) := by
  have hf := h.f
  rcases h.f.2 with ⟨q, h0⟩ | ⟨g, cap, cur, q, hb, hg, hcap, hmax, hsz, htake⟩
  · omega
  · rw [q] at hf hv
    injection hv with q1 q2 q3
    refine ⟨g, q1.symm, ?_⟩
    have := World.ownsRow.cellAt hf j (by omega)
    rw [this, List.getElem?_map, List.getElem?_eq_getElem hj]
    rfl

/-- how put ends -/
def PutR (lo : Nat) (w2 : World) (n : Nat) (v : Value) (cl : List (ByteArray × ByteArray)) (id : ByteArray) (a : List EV × List (ByteArray × ByteArray)) (r : Ending) (w' : World) : Prop :=
  (r = .returned .nilIface ∧ a.2 = cl ∧ ∃ mo' n', CB lo w2 w' mo' n' a.1 v cl ∧ n' ≤ n + 1) ∨ (∃ p, r = .returned (.iface 250 (.pointer (some p))) ∧ a.2 = cl ++ [(id, allB)] ∧ ∃ mo' n', CB lo w2 w' mo' n' a.1 v cl ∧ n' ≤ n + 1)
open Classical in
/-- what a round makes of what becomes of an event -/
noncomputable def jAp (id : ByteArray) (a : List EV × List (ByteArray × ByteArray)) (r : Option EV ⊕ List ByteArray) : List EV × List (ByteArray × ByteArray) :=
  match r with
  | .inl none => a
  | .inl (some E) => if (¬ ∃ F ∈ a.1, F.id = E.id) ∧ 60 ≤ a.1.length then (a.1, a.2 ++ [(id, allB)]) else (putC E a.1, a.2)
  | .inr fs => (a.1, a.2 ++ fs.map fun f => (id, f))
theorem jSp_ap (X Y Z : List EV) (a : List EV × List (ByteArray × ByteArray)) (id : ByteArray) : jSp X Y Z a id = jAp id a (jR (lkC X id) (lkC Y id) (lkC Z id)) := rfl
theorem putE_ok (lo n : Nat) (mo : Option Nat) (C : List EV) (E : EV) (s : Nat → Addr) (w2 w : World) (v : Value) (cl : List (ByteArray × ByteArray)) (id : ByteArray) (gk : GlobK s w) (g : GlobR w) (h : CB lo w2 w mo n C v cl) (hn : n ≤ 90000) (hE : EW E) (h20 : E.ds.length ≤ 20) :
    Calls Tryz.prog 22 #[.pointer (some ⟨lo, 0, none⟩), .string (bs (eT E))] w fun r w' => PutR lo w2 n v cl id (jAp id (C, cl) (.inl (some E))) r w' := by
  refine (mgPut_well lo lo n mo C E s w gk g h.b hn hE h20 eT_ne).mono ?_
  unfold jAp
  dsimp only
  rintro r w' (⟨q1, rfl, hb⟩ | ⟨q1, rfl, w1, hb, hp⟩)
  · rw [if_pos q1]
    exact .inr ⟨_, rfl, rfl, mo, n, h.step hb, Nat.le_succ n⟩
  · rw [if_neg q1]
    obtain ⟨mo', q⟩ := (h.step hb).put hp
    exact .inl ⟨rfl, rfl, mo', n + 1, q, Nat.le_refl _⟩
theorem putO_ok (lo n : Nat) (mo : Option Nat) (C : List EV) (o : Option EV) (s : Nat → Addr) (w2 w : World) (v : Value) (cl : List (ByteArray × ByteArray)) (id : ByteArray) (gk : GlobK s w) (g : GlobR w) (h : CB lo w2 w mo n C v cl) (hn : n ≤ 90000) (hE : ∀ E, o = some E → EW E ∧ E.ds.length ≤ 20) :
    Calls Tryz.prog 22 #[.pointer (some ⟨lo, 0, none⟩), .string (eOp o)] w fun r w' => PutR lo w2 n v cl id (jAp id (C, cl) (.inl o)) r w' := by
  cases o with
  | none =>
    refine (mgPut_nil lo w).mono ?_
    rintro r w' ⟨rfl, rfl⟩
    exact .inl ⟨rfl, rfl, mo, n, h, Nat.le_succ n⟩
  | some E => exact putE_ok lo n mo C E s w2 w v cl id gk g h hn (hE E rfl).1 (hE E rfl).2
theorem one3_none {α : Type} [DecidableEq α] {b x y : α} (h : one3 b x y = none) : ¬ (x = y ∨ y = b) ∧ ¬ x = b := by
  unfold one3 at h
  split at h
  · cases h
  · rename_i q
    split at h
    · cases h
    · rename_i q2
      exact ⟨q, q2⟩
theorem one3_some {α : Type} [DecidableEq α] {b x y t : α} (h : one3 b x y = some t) : ((x = y ∨ y = b) ∧ t = x) ∨ (¬ (x = y ∨ y = b) ∧ x = b ∧ t = y) := by
  unfold one3 at h
  split at h
  · rename_i q
    exact .inl ⟨q, (Option.some.inj h).symm⟩
  · rename_i q
    split at h
    · rename_i q2
      exact .inr ⟨q, q2, (Option.some.inj h).symm⟩
    · cases h
theorem jR_two {o1 o2 o3 : Option EV} (h : eOp o2 = eOp o3 ∨ eOp o3 = eOp o1) : jR o1 o2 o3 = .inl o2 := by unfold jR; rw [if_pos h]
theorem jR_thr {o1 o2 o3 : Option EV} (h : ¬ (eOp o2 = eOp o3 ∨ eOp o3 = eOp o1)) (h2 : eOp o2 = eOp o1) : jR o1 o2 o3 = .inl o3 := by unfold jR; rw [if_neg h, if_pos h2]
theorem jR_no {o1 o2 o3 : Option EV} (h : ¬ (eOp o2 = eOp o3 ∨ eOp o3 = eOp o1)) (h2 : ¬ eOp o2 = eOp o1) (hn : o1 = none ∨ o2 = none ∨ o3 = none) : jR o1 o2 o3 = .inr [allB] := by
  unfold jR
  rw [if_neg h, if_neg h2]
  cases o1 with
  | none => rfl
  | some E1 =>
    cases o2 with
    | none => rfl
    | some E2 =>
      cases o3 with
      | none => rfl
      | some E3 => rcases hn with q | q | q <;> cases q
open Classical in
theorem jR_all {E1 E2 E3 : EV} (h : ¬ (eOp (some E2) = eOp (some E3) ∨ eOp (some E3) = eOp (some E1))) (h2 : ¬ eOp (some E2) = eOp (some E1)) : jR (some E1) (some E2) (some E3) = if jCs E1 E2 E3 6 = [] then (if EW (jE E1 E2 E3) then .inl (some (jE E1 E2 E3)) else .inr [allB]) else .inr (jCs E1 E2 E3 6) := by
  unfold jR
  rw [if_neg h, if_neg h2]
/-- joinEvent's answer: a text to put, or fields -/
theorem je_ok (lo n base : Nat) (mo : Option Nat) (C : List EV) (o1 o2 o3 : Option EV) (s : Nat → Addr) (w2 w : World) (v : Value) (cl : List (ByteArray × ByteArray)) (id : ByteArray) (gk : GlobK s w) (g : GlobR w) (h : CB lo w2 w mo n C v cl) (hn : n ≤ 90000)
    (h1 : ∀ E, o1 = some E → EW E ∧ E.ds.length ≤ 20) (h2 : ∀ E, o2 = some E → EW E ∧ E.ds.length ≤ 20) (h3 : ∀ E, o3 = some E → EW E ∧ E.ds.length ≤ 20) {r : Ending} (hJ : JE base w o1 o2 o3 r) :
    (∃ t, r = .returned (.tuple #[.string t, .slice none 0 0]) ∧ Calls Tryz.prog 22 #[.pointer (some ⟨lo, 0, none⟩), .string t] w fun r w' => PutR lo w2 n v cl id (jAp id (C, cl) (jR o1 o2 o3)) r w') ∨
    (∃ fs fv, fs ≠ [] ∧ fs.length ≤ 6 ∧ r = .returned (.tuple #[.string ⟨#[]⟩, fv]) ∧ w.ownsRow base 9 1 fv fs.length (fs.map Value.string) ∧ jAp id (C, cl) (jR o1 o2 o3) = (C, cl ++ fs.map fun f => (id, f))) := by
  rcases hJ with ⟨t, ht, rfl⟩ | ⟨ht, hno, fv, rfl, hr⟩ | ⟨ht, E1, E2, E3, rfl, rfl, rfl, ⟨hc, rfl⟩ | ⟨hc, fv, rfl, hr⟩⟩
  · rcases one3_some ht with ⟨q, rfl⟩ | ⟨q, q2, rfl⟩
    · rw [jR_two q]
      exact .inl ⟨_, rfl, putO_ok lo n mo C o2 s w2 w v cl id gk g h hn h2⟩
    · rw [jR_thr q q2]
      exact .inl ⟨_, rfl, putO_ok lo n mo C o3 s w2 w v cl id gk g h hn h3⟩
  · obtain ⟨q, q2⟩ := one3_none ht
    rw [jR_no q q2 hno]
    exact .inr ⟨[allB], fv, by simp, by simp, rfl, hr, rfl⟩
  · obtain ⟨q, q2⟩ := one3_none ht
    rw [jR_all q q2, if_pos hc, jE_text hc]
    have hs := jE_sw (h1 E1 rfl).1 (h2 E2 rfl).1 (h3 E3 rfl).1
    have hd := jE_ds (E1 := E1) (h2 E2 rfl).2 (h3 E3 rfl).2
    refine .inl ⟨_, rfl, ?_⟩
    by_cases hw : EW (jE E1 E2 E3)
    · rw [if_pos hw]
      exact putE_ok lo n mo C _ s w2 w v cl id gk g h hn hw hd
    · rw [if_neg hw]
      refine (mgPut_not lo _ s w gk g hs hw hd eT_ne).mono ?_
      rintro r w' ⟨p, rfl, hb⟩
      exact .inr ⟨p, rfl, rfl, mo, n, h.step hb, Nat.le_succ n⟩
  · obtain ⟨q, q2⟩ := one3_none ht
    rw [jR_all q q2, if_neg hc]
    exact .inr ⟨_, fv, hc, jCs_len _ _ _ _, rfl, hr, rfl⟩
theorem jAp_len (id : ByteArray) (a : List EV × List (ByteArray × ByteArray)) (o1 o2 o3 : Option EV) : (jAp id a (jR o1 o2 o3)).2.length ≤ a.2.length + 6 := by
  have hF : ∀ fs : List ByteArray, fs.length ≤ 6 → (a.2 ++ fs.map fun f => (id, f)).length ≤ a.2.length + 6 := fun fs h => by
    rw [List.length_append, List.length_map]; omega
  have hI : ∀ o : Option EV, (jAp id a (.inl o)).2.length ≤ a.2.length + 6 := fun o => by
    unfold jAp
    cases o with
    | none => exact Nat.le_add_right _ _
    | some E =>
      dsimp only
      split
      · show (a.2 ++ [(id, allB)]).length ≤ _
        simp
      · exact Nat.le_add_right _ _
  by_cases q : eOp o2 = eOp o3 ∨ eOp o3 = eOp o1
  · rw [jR_two q]; exact hI _
  · by_cases q2 : eOp o2 = eOp o1
    · rw [jR_thr q q2]; exact hI _
    · by_cases hn : o1 = none ∨ o2 = none ∨ o3 = none
      · rw [jR_no q q2 hn]
        exact hF [allB] (by simp)
      · cases o1 with
        | none => exact absurd (.inl rfl) hn
        | some E1 =>
          cases o2 with
          | none => exact absurd (.inr (.inl rfl)) hn
          | some E2 =>
            cases o3 with
            | none => exact absurd (.inr (.inr rfl)) hn
            | some E3 =>
              rw [jR_all q q2]
              split
              · split
                · exact hI _
                · exact hF [allB] (by simp)
              · exact hF _ (jCs_len _ _ _ _)
end Go.Proofs.YtekminpoiokgfaaGreatDoor
