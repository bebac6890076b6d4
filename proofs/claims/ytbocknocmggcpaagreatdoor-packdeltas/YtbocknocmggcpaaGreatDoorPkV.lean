/- The places of a text's blocks in memory: a map from blocks to rows of numbers. -/
import Derived.Test.YtbocknocmggcpaaGreatDoorPkR
import Derived.Deep.AppendLies
namespace Go.Proofs.YtbocknocmggcpaaGreatDoor
open Go Go.RowKit Go.Maps Go.Sort Cal Pk
attribute [local go_sem] Oper.semAt_some

/-- a number as the program has it -/
def nI (n : Nat) : Value := .int .i64 (n : Int)
/-- an element of the map, as it is -/
def hldK (v : Value) : Option (DataW Value × List MemPlace) := some (.held v, [])
theorem hldK_inv {v : Value} {d : DataW Value} {ps : List MemPlace} (h : hldK v = some (d, ps)) : d = .held v := by
  unfold hldK at h
  cases h
  rfl
/-- a row of numbers of one's own -/
def InR (base : Nat) (W : World) (v : Value) (l : List Nat) : Prop := W.ownsRow base 3 1 v l.length (l.map nI)
theorem InR.nil (base : Nat) (W : World) : InR base W (.slice none 0 0) [] := World.ownsRow_nil _ _ _ _
theorem InR.step {base : Nat} {W W' : World} {v : Value} {l : List Nat} (h : InR base W v l) (hb : Below W.heap.size W W') : InR base W' v l := own_step h hb
theorem InR.form {base : Nat} {W : World} {v : Value} {l : List Nat} (h : InR base W v l) : ∃ a c, v = .slice a l.length c ∧ ∀ (j : Nat) (hj : j < l.length), ∃ b, a = some ⟨b, 0, none⟩ ∧ base ≤ b ∧ b < W.heap.size ∧ W.cell? ⟨b, j, none⟩ = some (nI l[j]) := by
  rcases h.2 with ⟨rfl, h0⟩ | ⟨g, cap, cur, rfl, hb, hg, hcap, hmax, hsz, htake⟩
  · exact ⟨none, 0, by rw [h0], fun j hj => by omega⟩
  · have hlt := (Array.getElem?_eq_some_iff.1 hg).1
    refine ⟨_, _, rfl, fun j hj => ⟨g, rfl, hb, hlt, ?_⟩⟩
    have e : (l.map nI)[j]? = some (nI l[j]) := by rw [List.getElem?_map, List.getElem?_eq_getElem hj]; rfl
    rw [← htake, List.getElem?_take_of_lt (by omega), Array.getElem?_toList] at e
    simp only [World.cell?, hg]
    simpa using e
theorem InR.blk {base : Nat} {W : World} {v : Value} {l : List Nat} (h : InR base W v l) {g : Nat} (hg : v.ownBlock = some g) : base ≤ g ∧ g < W.heap.size := World.ownsRow.lt h g hg

/-- map mb holds the rows L, all from block lo on -/
structure PlcAt (lo : Nat) (W : World) (mb n : Nat) (L : ByteArray → List Nat) : Prop where
  hm : mb < lo
  le : lo ≤ W.heap.size
  ex : ∃ (D : DataW Value) (vf : ByteArray → Value), W.ownsMap Tryz.prog 9 hldK mb n D ∧ (∀ s, D.atKey (plKey s) (.held (.slice none 0 0)) = .held (vf s)) ∧
    (∀ s, InR lo W (vf s) (L s)) ∧ (∀ s t g, (vf s).ownBlock = some g → (vf t).ownBlock = some g → s = t)
theorem PlcAt.step {lo mb n : Nat} {W W' : World} {L : ByteArray → List Nat} (h : PlcAt lo W mb n L) (hb : Below W.heap.size W W') : PlcAt lo W' mb n L := by
  obtain ⟨D, vf, h1, h3, h4, h5⟩ := h.ex
  exact ⟨h.hm, Nat.le_trans h.le hb.size, D, vf, h1.kept (grown_below hb none) (by simp), h3, fun s => (h4 s).step hb, h5⟩
/-- a write of another block below the rows -/
theorem PlcAt.grown {lo mb n B : Nat} {W W' : World} {L : ByteArray → List Nat} (h : PlcAt lo W mb n L) (hg : W.grownBy W' (some B)) (hB : B < lo) (h2 : B ≠ mb) : PlcAt lo W' mb n L := by
  obtain ⟨D, vf, q1, q3, q4, q5⟩ := h.ex
  refine ⟨h.hm, Nat.le_trans h.le hg.size, D, vf, q1.kept hg (fun q => h2 (Option.some.inj q).symm), q3, fun s => World.ownsRow.kept (q4 s) hg (.inr (fun he => ?_)), q5⟩
  have := (World.ownsRow.lt (q4 s) _ he).1
  omega
theorem PlcAt.made (w : World) (lo : Nat) (hlo : w.heap.size < lo) (W : World) (hW : Below (w.alloc (.map #[] 0)).heap.size (w.alloc (.map #[] 0)) W) (hle : lo ≤ W.heap.size) : PlcAt lo W w.heap.size 0 (fun _ => []) := by
  refine ⟨hlo, hle, .map [], fun _ => .slice none 0 0, (World.ownsMap_made w Tryz.prog 9 hldK).kept (grown_below hW none) (by simp), fun s => rfl, fun s => InR.nil _ _, fun s t g h => by cases h⟩
theorem klook_eq {mb n : Nat} {D : DataW Value} {W : World} (h : W.ownsMap Tryz.prog 9 hldK mb n D) {s : ByteArray} (hs : s.size ≤ 100000) {u : Value} (hat : D.atKey (plKey s) (.held (.slice none 0 0)) = .held u) :
    (Instr.lookup 53 (.map (some mb)) (.string s) false).run Tryz.prog W = .ok u W := by
  obtain ⟨es, clock, hb, F, _, rfl⟩ := h
  rcases Maps.fit_look false plLaw Tryz.underlying53 (Tryz.zeroValue92 W) hb F (plKey_of hs) with ⟨hrun, _, hq⟩ | ⟨e0, y, _, _, hrun, hRv, hq, _⟩
  · rw [hq] at hat
    cases hat
    exact hrun
  · have h2 := hldK_inv hRv
    rw [← hq, hat] at h2
    cases h2
    exact hrun
theorem PlcAt.look {lo mb n : Nat} {W : World} {L : ByteArray → List Nat} (h : PlcAt lo W mb n L) (s : ByteArray) (hs : s.size ≤ 100000) :
    ∃ v, ∀ W', Below W.heap.size W W' → (Instr.lookup 53 (.map (some mb)) (.string s) false).run Tryz.prog W' = .ok v W' ∧ InR lo W' v (L s) := by
  obtain ⟨D, vf, h1, h3, h4, h5⟩ := h.ex
  exact ⟨vf s, fun W' hW => ⟨klook_eq (h1.kept (grown_below hW none) (by simp)) hs (h3 s), (h4 s).step hW⟩⟩
/-- a number more at a key -/
def addL (L : ByteArray → List Nat) (k : ByteArray) (x : Nat) (y : ByteArray) : List Nat := if y.data.toList = k.data.toList then L k ++ [x] else L y
theorem addL_same (L : ByteArray → List Nat) (k : ByteArray) (x : Nat) : addL L k x k = L k ++ [x] := if_pos rfl
theorem addL_other {L : ByteArray → List Nat} {k y : ByteArray} {x : Nat} (h : y ≠ k) : addL L k x y = L y := if_neg (fun e => h (pl_ext e))
/-- behind the store into the map -/
theorem plc_put {lo mb n : Nat} {W W2 w3 : World} {L : ByteArray → List Nat} (h : PlcAt lo W mb n L) (hb : Below W.heap.size W W2) (hn : n ≤ 100000) (k : ByteArray) (hs : k.size ≤ 100000) (x : Nat) (v : Value)
    (LK : (Instr.lookup 53 (.map (some mb)) (.string k) false).run Tryz.prog W = .ok v W) {gb capb H : Nat} (hown : w3.ownsRow lo 3 1 (.slice (some ⟨gb, 0, none⟩) ((L k).length + 1) capb) ((L k).length + 1) ((L k).map nI ++ [nI x])) (hgrow : W2.grownBy w3 v.ownBlock) (hat : v.ownBlock = some gb ∨ gb = H) (hH : W.heap.size ≤ H) :
    ∃ w4, (Instr.mapUpdate 53 (.map (some mb)) (.string k) (.slice (some ⟨gb, 0, none⟩) ((L k).length + 1) capb)).run Tryz.prog w3 = .ok () w4 ∧ PlcAt lo w4 mb (n + 1) (addL L k x) ∧
      w4.os = W.os ∧ w4.tape = W.tape ∧ w4.output = W.output ∧ W.heap.size ≤ w4.heap.size ∧ (∀ b, b < lo → b ≠ mb → w4.heap[b]? = W.heap[b]?) ∧ (∀ b, b < lo → b ≠ mb → w3.heap[b]? = W.heap[b]?) := by
  classical
  obtain ⟨D, vf, q1, q3, q4, q5⟩ := h.ex
  have hv : v = vf k := by
    have := klook_eq q1 hs (q3 k)
    rw [LK] at this
    cases this
    rfl
  have hlo := h.le
  have hm := h.hm
  have hvb : ∀ g, v.ownBlock = some g → lo ≤ g ∧ g < W.heap.size := fun g hg => by rw [hv] at hg; exact (q4 k).blk hg
  have m2 : W2.ownsMap Tryz.prog 9 hldK mb n D := q1.kept (grown_below hb none) (by simp)
  have m3 : w3.ownsMap Tryz.prog 9 hldK mb n D := m2.kept hgrow (fun q => by have := (hvb mb q.symm).1; omega)
  obtain ⟨w4, hst, m4, t4⟩ := m3.store plLaw Tryz.underlying53 (by unfold maxLen; omega) (plKey_of hs) (show hldK (.slice (some ⟨gb, 0, none⟩) ((L k).length + 1) capb) = some (.held (.slice (some ⟨gb, 0, none⟩) ((L k).length + 1) capb), []) from rfl)
  have g4 := t4.grown
  have bs3 : ∀ b, b < lo → b ≠ mb → w3.heap[b]? = W.heap[b]? := fun b hb1 _ => (hgrow.block b (Nat.lt_of_lt_of_le hb1 (Nat.le_trans hlo hb.size)) (fun q => by have := (hvb b q.symm).1; omega)).trans (hb.block b (by omega))
  refine ⟨w4, hst, ⟨h.hm, Nat.le_trans h.le (Nat.le_trans hb.size (Nat.le_trans hgrow.size g4.size)), D.put (plKey k) (.held (.slice (some ⟨gb, 0, none⟩) ((L k).length + 1) capb)), fun y => if y = k then .slice (some ⟨gb, 0, none⟩) ((L k).length + 1) capb else vf y, m4, fun y => ?_, fun y => ?_, fun y z g hy hz => ?_⟩, g4.os.trans (hgrow.os.trans hb.os), g4.tape.trans (hgrow.tape.trans hb.tape), g4.output.trans (hgrow.output.trans hb.output), Nat.le_trans hb.size (Nat.le_trans hgrow.size g4.size), fun b hb1 hb2 => ?_, bs3⟩
  · by_cases q : y = k
    · subst q
      simp only [if_pos]
      exact atKey_put_same q1.isMap (plKey_lit _) _ _
    · simp only [if_neg q]
      rw [atKey_put_other (plKey_ne q)]
      exact q3 y
  · by_cases q : y = k
    · subst q
      simp only [if_pos]
      rw [addL_same]
      unfold InR
      rw [List.length_append, List.map_append]
      refine World.ownsRow.kept hown g4 (.inr (fun z => ?_))
      have := (World.ownsRow.lt hown _ z).1
      omega
    · simp only [if_neg q]
      rw [addL_other q]
      have o2 : InR lo W2 (vf y) (L y) := (q4 y).step hb
      have o3 : InR lo w3 (vf y) (L y) := World.ownsRow.kept o2 hgrow (by
        cases hq : (vf y).ownBlock with
        | none => exact .inl rfl
        | some g => exact .inr (fun z => q (q5 y k g hq (by rw [← hv, ← z]))))
      refine World.ownsRow.kept o3 g4 (.inr (fun z => ?_))
      have := (World.ownsRow.lt o3 _ z).1
      omega
  · have key1 : ∀ (x y : ByteArray), x = k → y ≠ k → (vf y).ownBlock = some g → gb = g → False := fun x y hx hy h1 h2 => by
      have hlt := ((q4 y).blk h1).2
      rcases hat with z | z
      · exact hy (q5 y k g h1 (by rw [← hv, z, h2]))
      · omega
    dsimp only at hy hz
    by_cases qy : y = k
    · by_cases qz : z = k
      · rw [qy, qz]
      · rw [if_pos qy] at hy
        rw [if_neg qz] at hz
        exact (key1 y z qy qz hz (Option.some.inj hy)).elim
    · by_cases qz : z = k
      · rw [if_neg qy] at hy
        rw [if_pos qz] at hz
        exact (key1 z y qz qy hy (Option.some.inj hz)).elim
      · rw [if_neg qy] at hy
        rw [if_neg qz] at hz
        exact q5 y z g hy hz
  · exact (g4.block b (by have := hgrow.size; have := hb.size; omega) (fun q => hb2 (Option.some.inj q))).trans (bs3 b hb1 hb2)
end Go.Proofs.YtbocknocmggcpaaGreatDoor
