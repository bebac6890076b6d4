/- A row of bytes that a call owns (the array that a conversion of a text made, or a later one): appended to, cut, read as a text. -/
import Derived.Test.YtcaeafgkogfgdaaDoorExpL
import Derived.Lib.AppendStr
import Derived.Laws.IdiomStrings
import Derived.Lib.Bytes
import Derived.RegionTactic
namespace Go.Proofs.YtcaeafgkogfgdaaDoor
open Go Go.RowKit Cal

/-- no cell of a row is frozen -/
def okFz (n : Nat) (fz : Nat × Nat) : Prop := ∀ j, j < n → ¬ (fz.1 ≤ j ∧ j < fz.2)
theorem run_storeCells_atB (P : Program) (g o : Nat) (t : TypeId) (fz : Nat × Nat) : ∀ (vs : List Value) (i : Nat) (cur : Array Value) (w : World), w.heap[g]? = some (.cells cur t fz) → okFz cur.size fz → o + i + vs.length ≤ cur.size → (∀ v ∈ vs, v.oneCell' = true) →
    (storeCells ⟨g, o, none⟩ vs i).run P w = .ok () (w.setRow g (cur.toList.take (o + i) ++ vs ++ cur.toList.drop (o + i + vs.length)).toArray)
  | [], i, cur, w, hg, _, _, _ => by
    simp only [storeCells, List.append_nil, List.length_nil, Nat.add_zero, List.take_append_drop, Array.toArray_toList]
    rw [setRow_self w g cur t fz hg]
    rfl
  | v :: rest, i, cur, w, hg, hfz, hl, h1 => by
    have hi : o + i < cur.size := by simp at hl; omega
    have hadd : (⟨g, o, none⟩ : Addr).add i = ⟨g, o + i, none⟩ := by unfold Addr.add; split <;> simp_all
    have hcell : w.cell? ⟨g, o + i, none⟩ = some cur[o + i] := by simp [World.cell?, hg, hi]
    have hfro : w.frozen? ⟨g, o + i, none⟩ = false := by
      have := hfz (o + i) hi
      obtain ⟨lo, hi'⟩ := fz
      simp only [World.frozen?, hg, Bool.and_eq_false_iff, decide_eq_false_iff_not]
      simp only at this
      omega
    have hst : (store ((⟨g, o, none⟩ : Addr).add i) v).run P w = .ok () (w.setRow g (cur.setIfInBounds (o + i) v)) := by
      rw [hadd, run_store P w _ v _ (h1 v (by simp)), hcell]
      simp [hfro, setCell_eq_setRow w g (o + i) cur t fz v hg]
    have ih := run_storeCells_atB P g o t fz rest (i + 1) (cur.setIfInBounds (o + i) v) (w.setRow g (cur.setIfInBounds (o + i) v)) (setRow_heap w g cur _ t _ hg) (by simpa using hfz) (by simp at hl ⊢; omega) (fun x hx => h1 x (by simp [hx]))
    simp only [storeCells, Sem.run_bind, hst, Result.andThen_ok, ih, setRow_setRow]
    congr 3
    have e := list_seg_step cur.toList (o + i) v rest (by simp at hl ⊢; omega)
    simpa [Array.toList_setIfInBounds, Nat.add_assoc] using e

/-- the slice v owns the bytes xs -/
def OwB (lo : Nat) (w : World) (v : Value) (xs : List UInt8) : Prop :=
  ∃ g cap cur fz, v = .slice (some ⟨g, 0, none⟩) xs.length cap ∧ lo ≤ g ∧ w.heap[g]? = some (.cells cur 5 fz) ∧ okFz cur.size fz ∧ xs.length ≤ cap ∧ cap ≤ maxLen ∧ cur.size = cap ∧ cur.toList.take xs.length = Lib.byteCells xs
theorem u8_info : (Tryd.prog.info? 5).map (fun i => (i.zero, i.size, i.bytes)) = some (some (.int .u8 0), 1, 1) := by kernel_rfl

theorem run_append_room_B {P : Program} (w : World) (t u ty e : TypeId) (i : TypeInfo) (ht : P.underlying t = some (.slice e)) (hu : P.underlying u = some .string) (hi : P.info? e = some i) (hs1 : i.size = 1)
    (g sLen sCap : Nat) (cur : Array Value) (fz : Nat × Nat) (hg : w.heap[g]? = some (.cells cur e fz)) (hfz : okFz cur.size fz) (s : ByteArray)
    (hroom : sLen + s.size ≤ sCap) (hfit : sLen + s.size ≤ cur.size) :
    (Builtin.append_ #[t, u] ty #[.slice (some ⟨g, 0, none⟩) sLen sCap, .string s]).run P w =
      .ok (.slice (some ⟨g, 0, none⟩) (sLen + s.size) sCap) (w.setRow g (cur.toList.take sLen ++ Lib.strCells s ++ cur.toList.drop (sLen + s.size)).toArray) := by
  have hf := Lib.run_firstCells_string (P := P) w 1 s
  have hst := run_storeCells_atB P g sLen e fz (Lib.strCells s) 0 cur w hg hfz (by simpa [Lib.strCells_length] using hfit) (Lib.strCells_oneCell s)
  simp only [Nat.add_zero, Lib.strCells_length] at hst
  simp [Builtin.append_, run_underlying ht, run_underlying hu, sizeOf, typeInfo, hi, hs1, Builtin.lenOf, hroom, hf, Addr.add_lit, hst]

theorem run_append_owB (w : World) (lo : Nat) (ty : TypeId) (v : Value) (xs : List UInt8) (hown : OwB lo w v xs) (s : ByteArray) (hb : xs.length + s.size ≤ 100000000) (hbase : lo ≤ w.heap.size) :
    ∃ v' w', (Builtin.append_ #[39, 9] ty #[v, .string s]).run Tryd.prog w = .ok v' w' ∧ OwB lo w' v' (xs ++ s.data.toList) ∧ w.grownBy w' v.ownBlock := by
  obtain ⟨i, hi, hz, hsize, hby⟩ := info_parts u8_info
  obtain ⟨g, cap, cur, fz, rfl, hbg, hg, hfz, hnc, hcm, hcs, htake⟩ := hown
  have hl : s.data.toList.length = s.size := by simp
  have hlen : (xs ++ s.data.toList).length = xs.length + s.size := by rw [List.length_append, hl]
  have hcells : Lib.byteCells (xs ++ s.data.toList) = Lib.byteCells xs ++ Lib.strCells s := by rw [Lib.byteCells_append, ← Lib.strCells_eq]
  by_cases hroom : xs.length + s.size ≤ cap
  · have hr := run_append_room_B (P := Tryd.prog) w 39 9 ty 5 i Tryd.underlying39 Tryd.underlying9 hi hsize g xs.length cap cur fz hg hfz s hroom (by omega)
    have hns : ((cur.toList.take xs.length ++ Lib.strCells s ++ cur.toList.drop (xs.length + s.size)).toArray).size = cap := by
      simp only [List.size_toArray, List.length_append, List.length_take, List.length_drop, Array.length_toList, Lib.strCells_length]
      omega
    refine ⟨_, _, hr, ⟨g, cap, _, fz, by rw [hlen], hbg, setRow_heap w g cur _ 5 _ hg, ?_, by omega, hcm, hns, ?_⟩, ⟨rfl, rfl, rfl, by simp, fun k _ hk => setRow_other w g k _ (fun e => hk (by simp [Value.ownBlock, e]))⟩⟩
    · rw [hns, ← hcs]; exact hfz
    · rw [hlen, hcells, htake]
      show (Lib.byteCells xs ++ Lib.strCells s ++ _).take _ = _
      have : (Lib.byteCells xs ++ Lib.strCells s).length = xs.length + s.size := by rw [List.length_append, Lib.byteCells_length, Lib.strCells_length]
      rw [← this]
      exact List.take_left
  · have holds : ∀ j u, (Lib.byteCells xs)[j]? = some u → w.cell? ((⟨g, 0, none⟩ : Addr).add j) = some u := fun j u hu => by
      have hadd : (⟨g, 0, none⟩ : Addr).add j = ⟨g, j, none⟩ := by unfold Addr.add; split <;> simp_all
      rw [hadd, cell_of_row w g j cur 5 fz hg]
      rw [← htake, List.getElem?_take] at hu
      split at hu
      · simpa using hu
      · cases hu
    have hr := Lib.run_append_grow_string (P := Tryd.prog) w 39 9 ty 5 i (.int .u8 0) Tryd.underlying39 Tryd.underlying9 hi hz ⟨g, 0, none⟩ xs.length cap (Lib.byteCells xs) (by rw [hsize, Lib.byteCells_length, Nat.mul_one]) holds s (by omega) (by omega) (by rw [hby]; exact growslice_fits (by omega) (by omega))
    have hge := grownCap_ge w (xs.length + s.size) cap 5
    have hcm2 : grownCap w (xs.length + s.size) cap 5 ≤ maxLen := grownCap_le_maxLen w (xs.length + s.size) cap 5 (by unfold maxLen; omega)
    refine ⟨_, _, hr, ⟨w.heap.size, _, _, (0, 0), by rw [hlen], hbase, heap_alloc_new w.drew _, fun j _ q => by simp at q, by rw [hlen]; exact hge, hcm2, ?_, ?_⟩, ⟨rfl, rfl, rfl, by simp, fun k hk _ => heap_alloc_old w.drew _ hk⟩⟩
    · have hz1 : (Value.int IntKind.u8 0).cells.size = 1 := rfl
      simp only [Array.size_append, List.size_toArray, size_zeroCells, hz1, Lib.byteCells_length, Lib.strCells_length]
      omega
    · rw [hlen, hcells]
      simp only [Array.toList_append, List.append_assoc]
      rw [← List.append_assoc, show xs.length + s.size = (Lib.byteCells xs ++ Lib.strCells s).length by rw [List.length_append, Lib.byteCells_length, Lib.strCells_length]]
      exact List.take_left

theorem wp_append_owB (w : World) {o : Oper} {a : Act} {K : Act → World → Prop} {Q : Exit → Act → World → Prop} (sl x : Operand) (ho : o.op = .call { callee := .builtin .append, args := #[sl, x], argTypes := #[39, 9] })
    (lo : Nat) (v : Value) (xs : List UInt8) (hs : a.eval sl = v) (hown : OwB lo w v xs) (s : ByteArray) (hx : a.eval x = .string s) (hb : xs.length + s.size ≤ 100000000) (hbase : lo ≤ w.heap.size)
    (h : ∀ g cap w', OwB lo w' (.slice (some ⟨g, 0, none⟩) (xs.length + s.size) cap) (xs ++ s.data.toList) → w.grownBy w' v.ownBlock → K (a.put o.dst (.slice (some ⟨g, 0, none⟩) (xs.length + s.size) cap)) w') : o.wp Tryd.prog a w K Q := by
  obtain ⟨v', w', hr, h2, h3⟩ := run_append_owB w lo o.type v xs hown s hb hbase
  obtain ⟨g, cap, cur, fz, q, rest⟩ := h2
  have hl : (xs ++ s.data.toList).length = xs.length + s.size := by simp
  have q' := q
  rw [hl] at q'
  subst q'
  unfold Oper.wp execOp
  simp only [ho, resolve, invoke, builtin, Sem.run_bind, Sem.run_pure, Result.andThen_ok, List.map_toArray, List.map_cons, List.map_nil, hs, hx, hr]
  exact h g cap w' ⟨g, cap, cur, fz, q, rest⟩ h3
theorem wpList_append_owB (w : World) {ops : Array Oper} {rest : List Oper} {o : Oper} {a : Act} {Q : Exit → Act → World → Prop} (hgd : o.guard = none) (sl x : Operand) (ho : o.op = .call { callee := .builtin .append, args := #[sl, x], argTypes := #[39, 9] })
    (lo : Nat) (v : Value) (xs : List UInt8) (hs : a.eval sl = v) (hown : OwB lo w v xs) (s : ByteArray) (hx : a.eval x = .string s) (hb : xs.length + s.size ≤ 100000000) (hbase : lo ≤ w.heap.size)
    (h : ∀ g cap w', OwB lo w' (.slice (some ⟨g, 0, none⟩) (xs.length + s.size) cap) (xs ++ s.data.toList) → w.grownBy w' v.ownBlock → wpList Tryd.prog ops Q rest (a.put o.dst (.slice (some ⟨g, 0, none⟩) (xs.length + s.size) cap)) w') : wpList Tryd.prog ops Q (o :: rest) a w :=
  wpList_plain hgd fun _ hK => wp_append_owB w sl x ho lo v xs hs hown s hx hb hbase fun g cap w' h1 h2 => hK _ _ (h g cap w' h1 h2)
theorem step_append_owB (w : World) {ops : Array Oper} {o : Oper} {a : Act} {K : Act → World → Prop} {Q : Exit → Act → World → Prop} {E : Prop} (hgd : o.guard = none) (sl x : Operand) (ho : o.op = .call { callee := .builtin .append, args := #[sl, x], argTypes := #[39, 9] })
    (lo : Nat) (v : Value) (xs : List UInt8) (hs : a.eval sl = v) (hown : OwB lo w v xs) (s : ByteArray) (hx : a.eval x = .string s) (hb : xs.length + s.size ≤ 100000000) (hbase : lo ≤ w.heap.size)
    (h : ∀ g cap w', OwB lo w' (.slice (some ⟨g, 0, none⟩) (xs.length + s.size) cap) (xs ++ s.data.toList) → w.grownBy w' v.ownBlock → K (a.put o.dst (.slice (some ⟨g, 0, none⟩) (xs.length + s.size) cap)) w') :
    if Region.wanted o (yielded ops a.tmps) = true then Oper.wp Tryd.prog o a w K Q else E := by
  have hw : Region.wanted o (yielded ops a.tmps) = true := by simp [Region.wanted, hgd]
  rw [if_pos hw]
  exact wp_append_owB w sl x ho lo v xs hs hown s hx hb hbase h

/-- what such a row hangs on -/
theorem OwB.kept {lo : Nat} {w w' : World} {v : Value} {xs : List UInt8} {row : Option Nat} (h : OwB lo w v xs) (hg : w.grownBy w' row) (hne : v.ownBlock ≠ row) : OwB lo w' v xs := by
  obtain ⟨g, cap, cur, fz, rfl, h1, h2, r⟩ := h
  exact ⟨g, cap, cur, fz, rfl, h1, (hg.block g (Array.getElem?_eq_some_iff.1 h2).1 (by simpa [Value.ownBlock] using hne)).trans h2, r⟩
theorem OwB.step {lo : Nat} {w w' : World} {v : Value} {xs : List UInt8} (h : OwB lo w v xs) (hb : Below w.heap.size w w') : OwB lo w' v xs := by
  obtain ⟨g, cap, cur, fz, rfl, h1, h2, r⟩ := h
  exact ⟨g, cap, cur, fz, rfl, h1, (hb.block g (Array.getElem?_eq_some_iff.1 h2).1).trans h2, r⟩
theorem OwB.cut {lo : Nat} {w : World} {g n cap : Nat} {xs : List UInt8} (h : OwB lo w (.slice (some ⟨g, 0, none⟩) n cap) xs) {m : Nat} (hm : m ≤ xs.length) : OwB lo w (.slice (some ⟨g, 0, none⟩) m cap) (xs.take m) := by
  obtain ⟨g', cap', cur, fz, q, h1, h2, h3, h4, h5, h6, h7⟩ := h
  cases q
  refine ⟨g, cap, cur, fz, by rw [List.length_take, Nat.min_eq_left hm], h1, h2, h3, by rw [List.length_take]; omega, h5, h6, ?_⟩
  rw [List.length_take, Nat.min_eq_left hm]
  have := congrArg (List.take m) h7
  rw [List.take_take, Nat.min_eq_left hm] at this
  rw [this]
  simp [Lib.byteCells, List.map_take]
theorem OwB.cells {lo : Nat} {w : World} {g n cap : Nat} {xs : List UInt8} (h : OwB lo w (.slice (some ⟨g, 0, none⟩) n cap) xs) : ∀ j (hj : j < xs.length), w.cell? ((⟨g, 0, none⟩ : Addr).add j) = some (.int .u8 (xs[j].toNat : Int)) := fun j hj => by
  obtain ⟨g', cap', cur, fz, q, h1, h2, h3, h4, h5, h6, h7⟩ := h
  cases q
  have hadd : (⟨g, 0, none⟩ : Addr).add j = ⟨g, j, none⟩ := by unfold Addr.add; split <;> simp_all
  rw [hadd, cell_of_row w g j cur 5 fz h2]
  have := congrArg (fun l : List Value => l[j]?) h7
  simp only [List.getElem?_take, if_pos hj, Lib.byteCells, List.getElem?_map, List.getElem?_eq_getElem hj, Option.map_some] at this
  simpa using this
theorem owB_text {lo : Nat} {w : World} {g n cap : Nat} {xs : List UInt8} (h : OwB lo w (.slice (some ⟨g, 0, none⟩) n cap) xs) : (convert 39 9 (.slice (some ⟨g, 0, none⟩) n cap)).run Tryd.prog w = .ok (.string ⟨xs.toArray⟩) w := by
  have hc := h.cells
  obtain ⟨g', cap', cur, fz, q, _⟩ := h
  cases q
  exact run_convert_bytes_back w 39 9 5 ⟨g, 0, none⟩ cap xs Tryd.underlying39 Tryd.underlying5 Tryd.underlying9 hc
theorem owB_of (w : World) (s : ByteArray) (lo : Nat) (hlo : lo ≤ w.heap.size) (hs : s.size ≤ 100000000) : ∃ cap w', (convert 9 39 (.string s)).run Tryd.prog w = .ok (.slice (some ⟨w.heap.size, 0, none⟩) s.size cap) w' ∧ OwB lo w' (.slice (some ⟨w.heap.size, 0, none⟩) s.size cap) s.data.toList ∧ Below w.heap.size w w' ∧ w'.heap.size = w.heap.size + 1 := by
  have hl : s.data.toList.length = s.size := by simp
  have hge := grownCap_ge w s.size 0 5
  have hsz : (bytesRow s (grownCap w s.size 0 5)).size = grownCap w s.size 0 5 := by
    unfold bytesRow
    rw [Array.size_append, Array.size_map, Array.size_replicate]
    show s.size + _ = _
    omega
  refine ⟨_, _, run_bytes_of_string w 9 39 5 s Tryd.underlying9 Tryd.underlying39 Tryd.underlying5, ⟨w.heap.size, _, _, _, by rw [hl], hlo, heap_alloc_new w.drew _, fun j hj q => (by have := q.1; dsimp only at this; omega), by rw [hl]; exact hge, grownCap_le_maxLen w s.size 0 5 (by unfold maxLen; omega), hsz, ?_⟩, ⟨rfl, rfl, rfl, by simp, fun k hk => heap_alloc_old w.drew _ hk⟩, by simp⟩
  rw [hl]
  unfold bytesRow
  rw [Array.toList_append, List.take_append_of_le_length (by simp), Array.toList_map, ← hl]
  rw [show s.data.toList.length = (s.data.toList.map (fun b => Value.int .u8 b.toNat)).length by simp, List.take_length]
  rfl
end Go.Proofs.YtcaeafgkogfgdaaDoor
