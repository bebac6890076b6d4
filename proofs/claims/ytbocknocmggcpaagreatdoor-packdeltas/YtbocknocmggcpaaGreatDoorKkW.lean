/- Package pack's bases: the counts in memory, and the sort. -/
import Derived.Test.YtbocknocmggcpaaGreatDoorPaBK
namespace Go.Proofs.YtbocknocmggcpaaGreatDoor
open Go Go.RowKit Go.Sort Go.Maps Cal Pk
attribute [local go_sem] Oper.semAt_some

/-- a look-up with its bool -/
theorem ilook_eq {mb n : Nat} {D : DataW Value} {f : List UInt8 → Option Nat} {W : World} (h : W.ownsMap Tryz.prog 9 (plainElem Tryz.prog 3) mb n D) (hL : LLook D f) {s : ByteArray} (hs : s.size ≤ 100000) :
    (Instr.lookup 86 (.map (some mb)) (.string s) true).run Tryz.prog W = .ok (.tuple #[.int .i64 (((f s.data.toList).getD 0 : Nat) : Int), .bool (f s.data.toList).isSome]) W := by
  obtain ⟨u, bo, hrun, hb, c, hc, hat⟩ : ∃ (u : Value) (bo : Bool), (Instr.lookup 86 (.map (some mb)) (.string s) true).run Tryz.prog W = .ok (.tuple #[u, .bool bo]) W ∧ Maps.has D (plKey s) = bo ∧ ∃ c : Int, u = .int .i64 c ∧ D.atKey (plKey s) (.lit (.int .i64 0)) = .lit (.int .i64 c) := by
    obtain ⟨v, ps, hrun, hv⟩ := h.look_ok plLaw Tryz.underlying86 (pl_zeroI W) (plainElem_int (H := Value) Tryz.underlying3 (by decide)) (plKey_of hs)
    obtain ⟨c, rfl, hc, _⟩ := plainElem_int_inv Tryz.underlying3 hv
    simp only [Prod.mk.injEq] at hc
    exact ⟨_, _, hrun, rfl, c, rfl, hc.1⟩
  cases hf : f s.data.toList with
  | none =>
    have h1 := (hL s).2 hf
    rw [h1] at hb
    rw [atKey_of_not_has h1] at hat
    cases hat
    rw [hrun, hc, ← hb]
    rfl
  | some i =>
    obtain ⟨h1, h2⟩ := (hL s).1 i hf
    rw [h1] at hb
    rw [h2] at hat
    have e : (i : Int) = c := congrArg (fun d : DataW Value => match d with | .lit (.int _ z) => z | _ => 0) hat
    rw [hrun, hc, ← hb, ← e]
    rfl
theorem grownBy_sort {α : Type} [Inhabited α] (enc : α → Value) {w : World} {g n : Nat} {os : Array Obj} (d : Array α) : w.grownBy (sortWorld enc w g 0 n d os) (some g) := by
  unfold sortWorld
  refine ⟨rfl, rfl, rfl, by simp, fun k hk hne => ?_⟩
  rw [heap_grow_old _ _ (by simpa using hk)]
  have : g ≠ k := fun e => hne (by rw [e])
  simp [putRow, mapBlock, Sort.ahead, Array.getElem?_modify, this]
/-- the counts in memory -/
structure CT (w W : World) (cb g : Nat) (m : Nat) (c : Nat → Nat) : Prop where
  box : W.heap[cb]? = some (.cells #[.slice (some ⟨g, 0, none⟩) m m] 92 (0, 0))
  row : ∃ cur, W.heap[g]? = some (.cells cur 3 (0, 0)) ∧ cur.size = m ∧ ∀ j, j < m → cur[j]? = some (.int .i64 (c j : Int))
  ge : w.heap.size ≤ g
  ge2 : w.heap.size ≤ cb
  ne : cb ≠ g
theorem CT.step {w W W' : World} {cb g m : Nat} {c : Nat → Nat} (h : CT w W cb g m c) (hb : RowKit.Below W.heap.size W W') : CT w W' cb g m c := by
  obtain ⟨cur, h1, h2, h3⟩ := h.row
  exact ⟨(hb.block _ (Array.getElem?_eq_some_iff.1 h.box).1).trans h.box, ⟨cur, (hb.block _ (Array.getElem?_eq_some_iff.1 h1).1).trans h1, h2, h3⟩, h.ge, h.ge2, h.ne⟩
theorem CT.grown {w W W' : World} {cb g m B : Nat} {c : Nat → Nat} (h : CT w W cb g m c) (hg : W.grownBy W' (some B)) (h1 : B ≠ cb) (h2 : B ≠ g) : CT w W' cb g m c := by
  obtain ⟨cur, q1, q2, q3⟩ := h.row
  exact ⟨(hg.block _ (Array.getElem?_eq_some_iff.1 h.box).1 (fun z => h1 (Option.some.inj z).symm)).trans h.box, ⟨cur, (hg.block _ (Array.getElem?_eq_some_iff.1 q1).1 (fun z => h2 (Option.some.inj z).symm)).trans q1, q2, q3⟩, h.ge, h.ge2, h.ne⟩
theorem CT.cell {w W : World} {cb g m : Nat} {c : Nat → Nat} (h : CT w W cb g m c) {j : Nat} (hj : j < m) : W.cell? ⟨g, j, none⟩ = some (.int .i64 (c j : Int)) ∧ W.frozen? ⟨g, j, none⟩ = false := by
  obtain ⟨cur, q1, q2, q3⟩ := h.row
  exact ⟨by simp [World.cell?, q1, q3 j hj], by simp [World.frozen?, q1]⟩
theorem CT.grownO {w W W' : World} {cb g m : Nat} {o : Option Nat} {c : Nat → Nat} (h : CT w W cb g m c) (hg : W.grownBy W' o) (h1 : o ≠ some cb) (h2 : o ≠ some g) : CT w W' cb g m c := by
  obtain ⟨cur, q1, q2, q3⟩ := h.row
  exact ⟨(hg.block _ (Array.getElem?_eq_some_iff.1 h.box).1 (fun z => h1 z.symm)).trans h.box, ⟨cur, (hg.block _ (Array.getElem?_eq_some_iff.1 q1).1 (fun z => h2 z.symm)).trans q1, q2, q3⟩, h.ge, h.ge2, h.ne⟩
theorem CT.put {w W : World} {cb g m : Nat} {c c' : Nat → Nat} {n : Nat} {v : Value} (h : CT w W cb g m c) (hn : n < m) (h1 : v = .int .i64 (c' n : Int)) (h2 : ∀ j, j ≠ n → c' j = c j) : CT w (W.setCell ⟨g, n, none⟩ v) cb g m c' := by
  obtain ⟨cur, q1, q2, q3⟩ := h.row
  refine ⟨(Below.heap_setCell _ _ _ cb (fun z => h.ne z)).trans h.box, ⟨_, set_block (i := n) _ q1, by simp [q2], fun j hj => ?_⟩, h.ge, h.ge2, h.ne⟩
  by_cases e : j = n
  · subst e
    rw [h1]
    simp [q2, hj]
  · rw [h2 j e, Array.getElem?_setIfInBounds_ne (fun z => e z.symm)]
    exact q3 j hj
theorem count_snoc (l : List Nat) (n j : Nat) : (l ++ [n]).count j = l.count j + if j = n then 1 else 0 := by
  rw [List.count_append]
  by_cases h : j = n
  · rw [if_pos h, h]; simp
  · rw [if_neg h]; simp [List.count_singleton]; exact fun e => h e.symm

theorem cfN_swo (m : Nat) (c : Nat → Nat) : SWO (ltOf fun x y : Fin m => cfN c x.val y.val) := by
  refine ⟨fun x => ?_, fun x y z h1 h2 => ?_, fun x y z h1 h2 => ?_⟩
  · unfold ltOf
    rw [decide_eq_false_iff_not, cfN_lt]
    omega
  · unfold ltOf at *
    rw [decide_eq_true_eq, cfN_lt] at *
    omega
  · unfold ltOf at *
    rw [decide_eq_false_iff_not, cfN_lt] at *
    omega
theorem cfN_tot (m : Nat) (c : Nat → Nat) : ∀ x y : Fin m, (ltOf fun x y : Fin m => cfN c x.val y.val) x y = false → (ltOf fun x y : Fin m => cfN c x.val y.val) y x = false → x = y := by
  intro x y h1 h2
  unfold ltOf at *
  rw [decide_eq_false_iff_not, cfN_lt] at *
  exact Fin.ext (by omega)
/-- the found ones, sorted -/
theorem sortB (w W : World) (cb g m : Nat) (c : Nat → Nat) (hC : CT w W cb g m c) (l : List Nat) (hl : ∀ x ∈ l, x < m) (fa : Option Addr) (fc : Nat) (hI : InR (cb + 1) W (.slice fa l.length fc) l) (hgl : g < cb) (hlen : l.length ≤ 10000) :
    Calls Tryz.prog 65 #[.slice fa l.length fc, .func (.func 66) #[] #[.pointer (some ⟨cb, 0, none⟩)]] W fun r w' => r = .returned (.tuple #[]) ∧ ((l = [] ∧ w' = W) ∨ ∃ b, fa = some ⟨b, 0, none⟩ ∧ W.grownBy w' (some b) ∧ cb + 1 ≤ b ∧ ∀ (j : Nat) (hj : j < (l.mergeSort fun x y => !decide (cfN c y x < 0)).length), w'.cell? ⟨b, j, none⟩ = some (nI (l.mergeSort fun x y => !decide (cfN c y x < 0))[j])) := by
  cases hl0 : l with
  | nil => exact (AnyF.slices_SortFunc_none { Tryz.sortFI with } _ _ _ W).mono fun r w' ⟨h1, h2⟩ => ⟨h1, .inl ⟨rfl, h2⟩⟩
  | cons l0 lr =>
    rw [← hl0]
    have hpos : 0 < l.length := by rw [hl0]; simp
    obtain ⟨k, rfl⟩ : ∃ k, m = k + 1 := ⟨m - 1, by have := hl l0 (by rw [hl0]; simp); omega⟩
    rcases hI.2 with ⟨_, h0⟩ | ⟨b, cap, cur, he, hb, hg, hcap, hmax, hsz, htake⟩
    · omega
    · injection he with he1 he2 he3
      subst he1
      have hblk : b < W.heap.size := (Array.getElem?_eq_some_iff.1 hg).1
      let d : List (Fin (k + 1)) := l.pmap (fun x h => ⟨x, h⟩) hl
      have hdm : d.map (fun x => x.val) = l := by simp [d, List.map_pmap]
      have hdl : d.length = l.length := by simp [d]
      have hds : d.toArray.size = l.length := by simp [hdl]
      have hget : ∀ j (hj : j < l.length), (d.toArray[j]!).val = l[j] := fun j hj => by
        rw [getElem!_pos d.toArray j (by omega)]
        simp [d]
      have hH : Holds (fun x : Fin (k + 1) => nI x.val) W b 0 d.toArray := fun j hj => by
        have hj' : j < l.length := by omega
        refine ⟨?_, by simp [World.frozen?, hg]⟩
        have e : (l.map nI)[j]? = some (nI l[j]) := by rw [List.getElem?_map, List.getElem?_eq_getElem hj']; rfl
        rw [← htake, List.getElem?_take_of_lt (by omega), Array.getElem?_toList] at e
        show _ = some (nI (d.toArray[j]!).val)
        rw [hget j hj']
        simp only [World.cell?, hg, Nat.zero_add]
        simpa using e
      have hcmp : CmpLays1 Tryz.prog 66 #[.pointer (some ⟨cb, 0, none⟩)] (fun x : Fin (k + 1) => nI x.val) (fun x y => cfN c x.val y.val) b 0 d.toArray.size W := fun q os dk hdk x y => by
        have hC2 := hC.grownO (grownBy_sort (fun x : Fin (k + 1) => nI x.val) (w := W) (g := b) (n := q) (os := os) dk) (fun e => by have := Option.some.inj e; omega) (fun e => by have := Option.some.inj e; omega)
        refine (bases1_any cb g (k + 1) (k + 1) c x.val y.val x.isLt y.isLt _ (by simp [World.cell?, hC2.box]) (fun j hj => (hC2.cell hj).1)).mono ?_
        rintro r w' ⟨h1, h2⟩
        refine ⟨h1, 1, #[Obj.cells #[.int .i64 (Pk.cmpI (c y.val) (c x.val)), .int .i64 (Pk.cmpI y.val x.val)] 3], h2.trans ?_⟩
        simp only [grow, World.alloc, World.drew, World.drewN, Array.push_eq_append]
        try rfl
      have := Any.slices_SortFunc_total Tryz.sortFI (fun x : Fin (k + 1) => nI x.val) (fun x => rfl) (fun x y => cfN c x.val y.val) (cfN_swo _ c) 66 #[.pointer (some ⟨cb, 0, none⟩)] b 0 fc d.toArray W (enters_of Tryz.func66 (by kernel_rfl) rfl) hcmp hH hblk (by omega) (cfN_tot _ c)
      rw [hds] at this
      refine this.mono ?_
      rintro r w' ⟨h1, q, os, h2⟩
      refine ⟨h1, .inr ⟨b, rfl, by rw [h2]; exact grownBy_sort _ _, hb, fun j hj => ?_⟩⟩
      have hmm : (d.mergeSort fun x y => !(ltOf fun x y : Fin (k + 1) => cfN c x.val y.val) y x).map (fun x => x.val) = l.mergeSort fun x y => !decide (cfN c y x < 0) := by
        rw [← hdm]
        exact List.map_mergeSort (fun a _ b _ => rfl)
      have hj' : j < d.length := by rw [List.length_mergeSort] at hj; omega
      have hjm : j < (d.mergeSort fun x y => !(ltOf fun x y : Fin (k + 1) => cfN c x.val y.val) y x).length := by rw [List.length_mergeSort]; exact hj'
      have hH2 := holds_sortWorld (fun x : Fin (k + 1) => nI x.val) W b 0 q d.toArray (d.mergeSort fun x y => !(ltOf fun x y : Fin (k + 1) => cfN c x.val y.val) y x).toArray os hblk hH (by simp)
      have := (hH2 j (by simpa using hj')).1
      rw [Nat.zero_add] at this
      rw [h2, this]
      congr 1
      rw [getElem!_pos _ j (by simpa using hj')]
      have e : (l.mergeSort fun x y => !decide (cfN c y x < 0))[j] = ((d.mergeSort fun x y => !(ltOf fun x y : Fin (k + 1) => cfN c x.val y.val) y x)[j]).val := by
        simp only [← hmm, List.getElem_map]
      rw [e]
      rfl
end Go.Proofs.YtbocknocmggcpaaGreatDoor

/- Package pack's bases. -/
namespace Go.Proofs.YtbocknocmggcpaaGreatDoor
open Go Go.RowKit Go.Sort Go.Maps Cal Pk
attribute [local go_sem] Oper.semAt_some

set_option maxHeartbeats 4000000 in
set_option maxRecDepth 100000 in
theorem bases_any (lo ab mb : Nat) (tv : Value) (ts : List ByteArray) (s : ByteArray) (w : World) (h : TA lo w ab mb tv ts) (hs : s.size ≤ 10000) (hl : ts.length ≤ 1000) :
    Calls Tryz.prog 53 #[.pointer (some ⟨ab, 0, none⟩), .string s] w fun r w' => ∃ a c, r = .returned (.slice a (basF (lastF (ts.map fun t => t.data.toList)) s.data.toList).length c) ∧ (∀ (j : Nat) (hj : j < (basF (lastF (ts.map fun t => t.data.toList)) s.data.toList).length), ∃ b, a = some ⟨b, 0, none⟩ ∧ w'.cell? ⟨b, j, none⟩ = some (nI (basF (lastF (ts.map fun t => t.data.toList)) s.data.toList)[j])) ∧ RowKit.Below w.heap.size w w' := by
  obtain ⟨D, nD, hD, _, hL⟩ := h.map
  obtain ⟨ta, tc, rfl, hform⟩ := h.form
  clear hform
  have hflt : ∀ k n, lastF (ts.map fun t => t.data.toList) k = some n → n < ts.length := fun k n q => by have := lastF_lt q; rwa [List.length_map] at this
  generalize lastF (ts.map fun t => t.data.toList) = f at hL hflt ⊢
  have hls : s.data.toList.length = s.size := (Lib.size_eq s).symm
  have HLK : Hid (∀ W (k : ByteArray), RowKit.Below w.heap.size w W → k.size ≤ 100000 → (Instr.lookup 86 (.map (some mb)) (.string k) true).run Tryz.prog W = .ok (.tuple #[.int .i64 (((f k.data.toList).getD 0 : Nat) : Int), .bool (f k.data.toList).isSome]) W) := fun W k hW hk => ilook_eq (own_far hD (hW.block _ (by have := h.hm; have := h.le; omega))) hL hk
  obtain ⟨i0, hi, hz0, hz1, hz2⟩ := info_parts info_intK
  obtain ⟨wm, hmk, hrow, hgr⟩ := run_make_full (P := Tryz.prog) w w.heap.size 92 3 i0 _ 1 Tryz.underlying92 hi hz0 hz1 .i64 .i64 ts.length (by rw [hz2]; omega) (by unfold maxLen; omega) (Nat.le_refl _)
  have hbm : RowKit.Below w.heap.size w wm := ⟨hgr.os, hgr.tape, hgr.output, hgr.size, fun k hk => hgr.block k hk (by simp)⟩
  have hrow2 : ∃ cur, wm.heap[w.heap.size]? = some (.cells cur 3 (0, 0)) ∧ cur.size = ts.length ∧ ∀ j, j < ts.length → cur[j]? = some (.int .i64 0) := by
    rcases hrow.2 with ⟨e, _⟩ | ⟨g, cap, cur, e, _, hh, _, _, hcs, htk⟩
    · cases e
    · cases e
      refine ⟨cur, hh, by omega, fun j hj => ?_⟩
      have : (cur.toList.take (ts.length * 1))[j]? = some (.int .i64 0) := by
        rw [htk, show (Value.int .i64 0).cells = #[.int .i64 0] from rfl, toList_madeCells_one, List.getElem?_replicate, if_pos (by omega)]
      rw [List.getElem?_take_of_lt (by omega), Array.getElem?_toList] at this
      exact this
  obtain ⟨cur, hcur, hcsz, hcz⟩ := hrow2
  have hgl : w.heap.size < wm.heap.size := (Array.getElem?_eq_some_iff.1 hcur).1
  have hA := below_alloc wm (.cells #[.slice (some ⟨w.heap.size, 0, none⟩) ts.length ts.length] 92)
  have HCT : Hid (CT w (wm.alloc (.cells #[.slice (some ⟨w.heap.size, 0, none⟩) ts.length ts.length] 92)) wm.heap.size w.heap.size ts.length (fun n => (nsF f s.data.toList 0).count n)) :=
    ⟨block_at _ rfl, ⟨cur, block_alloc _ hcur, hcsz, fun j hj => by rw [hcz j hj]; rfl⟩, Nat.le_refl _, by omega, by omega⟩
  have HBA : Hid (RowKit.Below w.heap.size w (wm.alloc (.cells #[.slice (some ⟨w.heap.size, 0, none⟩) ts.length ts.length] 92))) := below_then hbm hA
  have hzA : (wm.alloc (.cells #[.slice (some ⟨w.heap.size, 0, none⟩) ts.length ts.length] 92)).heap.size = wm.heap.size + 1 := World.size_alloc _ _
  obtain ⟨ca0, ca1⟩ := blk2 h.blk
  have HTA : Hid (∀ W, RowKit.Below w.heap.size w W → W.cell? ⟨ab, 0, none⟩ = some (.slice ta ts.length tc) ∧ W.cell? ⟨ab, 1, none⟩ = some (.map (some mb))) := fun W hW => ⟨cell_step ca0 hW, cell_step ca1 hW⟩
  obtain ⟨BF, hBF⟩ : ∃ BF, basF f s.data.toList = BF := ⟨_, rfl⟩
  rw [hBF]
  have HBF : Hid (basF f s.data.toList = BF) := hBF
  have HFL : Hid (_) := hflt
  have hsi : (s.size : Int) ≤ 10000 := by omega
  clear hBF hflt hrow hcur hcsz hcz hbm hgr h hD hL
  go_enter Tryz.func53, Tryz.ntmps53
  go_wp2
  generalize wm.alloc (.cells #[.slice (some ⟨w.heap.size, 0, none⟩) ts.length ts.length] 92) = w2 at HCT HBA hzA ⊢
  generalize hwm : wm.heap.size = cb at HCT hgl hzA ⊢
  clear hmk hA ca0 ca1 hwm
  go_loopw [6, 7, 8, 9] (fun fv iv _ _ wr => ∃ i : Nat, i ≤ s.size - 7 ∧ iv = .int .i64 i ∧ (∃ a n c, fv = .slice a n c) ∧ Hid (InR (cb + 1) wr fv (fnd (nsF f s.data.toList i))) ∧ Hid (CT w wr cb w.heap.size ts.length (fun n => (nsF f s.data.toList i).count n)) ∧ Hid (RowKit.Below w.heap.size w wr ∧ cb + 1 ≤ wr.heap.size)) (fun _ iv _ _ _ => s.size - (intOf iv).toNat)
  case atStart => exact ⟨0, Nat.zero_le _, rfl, ⟨_, _, _, rfl⟩, InR.nil _ _, HCT.out, HBA.out, by omega⟩
  case round =>
    obtain ⟨i, hi7, rfl, ⟨fa, fn, fc, rfl⟩, HI, HC, HB⟩ := hrel
    by_cases hlt : i + 8 ≤ s.size
    · obtain ⟨ca0, ca1⟩ := HTA.out wr HB.out.1
      have i0' : (0 : Int) ≤ (i : Int) := by omega
      have i1 : (i : Int) + 8 ≤ (s.size : Int) := by omega
      have i2 : (i : Int) ≤ (i : Int) + 8 := by omega
      have i3 : ((i : Int) + 8).toNat = i + 8 := by omega
      have wr8 : IntKind.i64.wrap ((i : Int) + 8) = (i : Int) + 8 := by rw [IntKind.wrap_i64]; omega
      have ex : (s.extract i (i + 8)).data.toList = bk s.data.toList i := by unfold bk; simp
      have exz : (s.extract i (i + 8)).size ≤ 8 := by rw [Lib.size_eq, ex]; unfold bk; rw [List.length_take]; omega
      have LK : ∀ d os, (Instr.lookup 86 (.map (some mb)) (.string (s.extract i (i + 8))) true).run Tryz.prog (grow (redrawn wr d) os) = .ok (.tuple #[.int .i64 (((f (bk s.data.toList i)).getD 0 : Nat) : Int), .bool (f (bk s.data.toList i)).isSome]) (grow (redrawn wr d) os) := fun d os => by
        have := HLK.out (grow (redrawn wr d) os) (s.extract i (i + 8)) (below_then HB.out.1 (below_regrown _ _ _)) (by omega)
        rw [ex] at this
        exact this
      have Y1 := cell_regrown ca1
      have HN := HFL.out (bk s.data.toList i)
      have HNS : Hid (∀ n, f (bk s.data.toList i) = some n → nsF f s.data.toList (i + 1) = nsF f s.data.toList i ++ [n]) := fun n q => nsF_some q
      have HNN : Hid (f (bk s.data.toList i) = none → nsF f s.data.toList (i + 1) = nsF f s.data.toList i) := fun q => nsF_none q
      clear ex ca0 ca1
      go_upto_region 6 with (fail)
      cases hf : f (bk s.data.toList i) with
      | none =>
        rw [hf] at LK
        dsimp only [Option.getD, Option.isSome] at LK
        have HNX := HNN.out hf
        have HI2 : Hid (InR (cb + 1) wr (.slice fa fn fc) (fnd (nsF f s.data.toList (i + 1)))) := by show InR _ _ _ _; rw [HNX]; exact HI.out
        have HC2 : Hid (CT w wr cb w.heap.size ts.length (fun n => (nsF f s.data.toList (i + 1)).count n)) := by show CT _ _ _ _ _ _; rw [HNX]; exact HC.out
        clear HNS HNN HNX HN hf HI HC
        refine wp_region_quiet_below (by kernel_rfl) (by kernel_rfl) ?_
        repeat (quiet_step (fail))
        refine wpQuiet_nil ?_
        intro W1 hw'
        have hb1 : RowKit.Below wr.heap.size wr W1 := by
          obtain ⟨⟨dq, osq⟩, hw''⟩ := hw'
          subst hw''
          exact below_regrown _ _ _
        clear hw' LK Y1
        have HI3 : Hid (_) := HI2.out.step hb1
        have HC3 : Hid (_) := HC2.out.step hb1
        have HB3 : Hid (RowKit.Below w.heap.size w W1 ∧ cb + 1 ≤ W1.heap.size) := ⟨below_then HB.out.1 hb1, Nat.le_trans HB.out.2 hb1.size⟩
        clear hb1 HI2 HC2 HB
        go_wp2
        go_roundw
        case rel => exact ⟨i + 1, by omega, by go_num, ⟨_, _, _, rfl⟩, HI3.out, HC3.out, HB3.out⟩
        case measure => simp [intOf]; omega
      | some n =>
        rw [hf] at LK
        dsimp only [Option.getD, Option.isSome] at LK
        have hn := HN n hf
        have HNX := HNS.out n hf
        have hcl : (nsF f s.data.toList i).count n ≤ i := Nat.le_trans List.count_le_length (by unfold nsF; exact Nat.le_trans (List.length_filterMap_le _ _) (by simp))
        have HMF : Hid (n ∈ fnd (nsF f s.data.toList i) ↔ n ∈ nsF f s.data.toList i) := mem_fnd _ _
        have HCS : Hid (∀ j, (nsF f s.data.toList (i + 1)).count j = (nsF f s.data.toList i).count j + if j = n then 1 else 0) := fun j => by rw [HNX]; exact count_snoc _ _ _
        have HFS : Hid (fnd (nsF f s.data.toList (i + 1)) = if (fnd (nsF f s.data.toList i)).contains n then fnd (nsF f s.data.toList i) else fnd (nsF f s.data.toList i) ++ [n]) := by show _ = _; rw [HNX]; exact fnd_snoc _ _
        have HCM : Hid ((nsF f s.data.toList i).count n = 0 ↔ n ∉ nsF f s.data.toList i) := List.count_eq_zero
        have hll : (fnd (nsF f s.data.toList i)).length ≤ i := Nat.le_trans (fnd_len _) (by unfold nsF; exact Nat.le_trans (List.length_filterMap_le _ _) (by simp))
        generalize nsF f s.data.toList i = NS at HI HC hcl HMF HCS HFS HCM hll
        generalize hne : nsF f s.data.toList (i + 1) = NS' at HCS HFS
        have HNE : Hid (nsF f s.data.toList (i + 1) = NS') := hne
        clear hne
        clear HNS HNN HNX HN hf
        refine wp_region_quiet_below (by kernel_rfl) (by kernel_rfl) ?_
        repeat (quiet_step (fail))
        refine wpQuiet_nil ?_
        intro W1 hw'
        have hb1 : RowKit.Below wr.heap.size wr W1 := by
          obtain ⟨⟨dq, osq⟩, hw''⟩ := hw'
          subst hw''
          exact below_regrown _ _ _
        clear hw' LK Y1
        have HI3 : Hid (InR (cb + 1) W1 (.slice fa fn fc) (fnd NS)) := HI.out.step hb1
        have HC3 : Hid (CT w W1 cb w.heap.size ts.length (fun n => NS.count n)) := HC.out.step hb1
        have HB3 : Hid (RowKit.Below w.heap.size w W1 ∧ cb + 1 ≤ W1.heap.size) := ⟨below_then HB.out.1 hb1, Nat.le_trans HB.out.2 hb1.size⟩
        clear hb1 HI HC HB
        have b0 : W1.cell? ⟨cb, 0, none⟩ = some (.slice (some ⟨w.heap.size, 0, none⟩) ts.length ts.length) := by simp [World.cell?, HC3.out.box]
        obtain ⟨q1, q2⟩ := HC3.out.cell hn
        try dsimp only at q1
        have hfl : (fnd NS).length = fn := by
          obtain ⟨a', c', he, _⟩ := HI3.out.form
          injection he with _ he2
          exact he2.symm
        rw [hfl] at hll
        have n0 : (0 : Int) ≤ (n : Int) := by omega
        have n1 : (n : Int) < (ts.length : Int) := by omega
        by_cases h0 : NS.count n = 0
        · have hnot : (fnd NS).contains n = false := by
            have := HCM.out.1 h0
            rw [← HMF.out] at this
            simpa using this
          have HF1 : Hid (fnd NS' = fnd NS ++ [n]) := by have := HFS.out; rw [hnot] at this; show _ = _; simpa using this
          have HZ : Hid (NS.count n = 0) := h0
          rw [h0] at q1
          have q1' : W1.cell? ⟨w.heap.size, n, none⟩ = some (.int .i64 0) := q1
          have HOW : Hid (World.ownsRow (W1.alloc (.cells #[.int .i64 (n : Int)] 3)) (cb + 1) 3 1 (.slice fa fn fc) fn ((fnd NS).map nI)) := by
            have := World.ownsRow.alloc (show World.ownsRow W1 (cb + 1) 3 1 (.slice fa fn fc) (fnd NS).length ((fnd NS).map nI) from HI3.out) (.cells #[.int .i64 (n : Int)] 3)
            rw [hfl] at this
            exact this
          have NC : Hid (∀ (j : Nat) (u : Value), [Value.int .i64 (n : Int)][j]? = some u → (W1.alloc (.cells #[.int .i64 (n : Int)] 3)).cell? ((⟨W1.heap.size, 0, none⟩ : Addr).add j) = some u) := fun j u hj => by
            match j, hj with
            | 0, hj => simp at hj; subst hj; simp [Addr.add]
          have hsz3 := HB3.out.2
          have HFL2 : Hid ((fnd NS).length = fn) := hfl
          clear q1 h0 hcl hnot HFS HMF HCM hfl
          go_wp2_with (at_builtin; refine wpList_append_own_at _ rfl _ _ 92 rfl (cb + 1) 3 i0 (.int .i64 0) 1 8 Tryz.underlying92 hi hz0 hz1 hz2 rfl (by decide) _ _ _ rfl HOW.out ⟨W1.heap.size, 0, none⟩ 1 1 [.int .i64 (n : Int)] rfl rfl NC.out (fun v hv => by rw [List.mem_singleton.1 hv]; rfl) (by unfold maxLen; omega) (by omega) (by rw [World.size_alloc]; omega) ?_; intro v' w5 hown' hgrow _ hat; have HC5 : Hid (CT w w5 cb w.heap.size ts.length (fun n => NS.count n)) := (HC3.out.step (below_alloc _ _)).grownO hgrow (fun e => by have := (World.ownsRow.lt HOW.out _ e).1; omega) (fun e => by have := (World.ownsRow.lt HOW.out _ e).1; omega); have HB5 : Hid (RowKit.Below w.heap.size w w5 ∧ cb + 1 ≤ w5.heap.size) := ⟨(below_then HB3.out.1 (below_alloc W1 (.cells #[.int .i64 (n : Int)] 3))).grown hgrow (by rw [World.size_alloc]; omega) (fun k q => by have := (World.ownsRow.lt HOW.out k q).1; omega), by have := hgrow.size; rw [World.size_alloc] at this; omega⟩; have HO5 : Hid (w5.ownsRow (cb + 1) 3 1 v' (fn + 1) ((fnd NS).map nI ++ [.int .i64 (n : Int)])) := hown'; obtain ⟨g', cap', rfl⟩ := ownsRow_succ hown'; have b5 : w5.cell? ⟨cb, 0, none⟩ = some (.slice (some ⟨w.heap.size, 0, none⟩) ts.length ts.length) := (by simp [World.cell?, HC5.out.box]); have q5 : w5.cell? ⟨w.heap.size, n, none⟩ = some (.int .i64 0) := (by have := (HC5.out.cell hn).1; (try dsimp only at this); rw [HZ.out] at this; exact this); have z5 := (HC5.out.cell hn).2; clear hown' hgrow hat)
          go_roundw
          case rel =>
            refine ⟨i + 1, by omega, by go_num, ⟨_, _, _, rfl⟩, ?_⟩
            rw [HNE.out]
            refine ⟨?_, HC5.out.put hn (by show _ = Value.int .i64 ((NS'.count n : Nat) : Int); rw [HCS.out, HZ.out, if_pos rfl]; rfl) (fun j hj => by show NS'.count j = NS.count j; rw [HCS.out, if_neg hj]; rfl), HB5.out.1.grown (grown_set _ _ _) (by have := HB5.out.2; omega) (fun k q => by cases q; exact Nat.le_refl _), by simp; exact HB5.out.2⟩
            show InR _ _ _ _
            rw [HF1.out]
            unfold InR
            rw [List.length_append, List.map_append, HFL2.out]
            refine World.ownsRow.kept HO5.out (grown_set _ _ _) (.inr (fun e => ?_))
            have : cb + 1 ≤ w.heap.size := (World.ownsRow.lt HO5.out _ e).1
            omega
          case measure => simp [intOf]; omega
        · have hnot : (fnd NS).contains n = true := by
            have : ¬ n ∉ NS := fun e => h0 (HCM.out.2 e)
            have := Decidable.not_not.1 this
            rw [← HMF.out] at this
            simpa using this
          have HF1 : Hid (fnd NS' = fnd NS) := by have := HFS.out; rw [hnot] at this; show _ = _; simpa using this
          have hq : (((NS.count n : Nat) : Int) == 0) = false := by simp; omega
          have hc0 : ((NS.count n : Nat) : Int) ≤ 10000 := by omega
          have HCN : Hid (∀ c : Nat, c = NS.count n → NS'.count n = c + 1) := fun c hc => by rw [HCS.out, hc, if_pos rfl]
          have HX := HCN.out _ rfl
          generalize hcn : NS.count n = c at q1 hq hc0 HX
          have HXH : Hid (NS'.count n = c + 1) := HX
          have hsz3 := HB3.out.2
          have HFL2 : Hid ((fnd NS).length = fn) := hfl
          clear h0 hcl hnot HFS HMF HCM hfl HX hcn HCN
          go_wp2
          go_roundw
          case rel =>
            refine ⟨i + 1, by omega, by go_num, ⟨_, _, _, rfl⟩, ?_⟩
            rw [HNE.out]
            refine ⟨?_, HC3.out.put hn (by show _ = Value.int .i64 ((NS'.count n : Nat) : Int); rw [HXH.out]; go_num) (fun j hj => by show NS'.count j = NS.count j; rw [HCS.out, if_neg hj]; rfl), HB3.out.1.grown (grown_set _ _ _) (by have := HB3.out.2; omega) (fun k q => by cases q; exact Nat.le_refl _), by simp; exact HB3.out.2⟩
            show InR _ _ _ _
            rw [HF1.out]
            refine World.ownsRow.kept HI3.out (grown_set _ _ _) (.inr (fun e => ?_))
            have : cb + 1 ≤ w.heap.size := (World.ownsRow.lt HI3.out _ e).1
            omega
          case measure => simp [intOf]; omega
    · have hie : i = s.data.toList.length - 7 := by omega
      have hFM : ∀ x ∈ fnd (nsF f s.data.toList i), x < ts.length := fun x hx => by
        have := (mem_fnd _ _).1 hx
        unfold nsF at this
        obtain ⟨j, _, hj⟩ := List.mem_filterMap.1 this
        exact HFL.out _ _ hj
      have hll : (fnd (nsF f s.data.toList i)).length ≤ i := Nat.le_trans (fnd_len _) (by unfold nsF; exact Nat.le_trans (List.length_filterMap_le _ _) (by simp))
      have HB4 : Hid (((fnd (nsF f s.data.toList i)).mergeSort fun x y => !decide (cfN (fun n => (nsF f s.data.toList i).count n) y x < 0)).take 4 = BF) := by
        have := HBF.out
        unfold basF at this
        rw [← hie] at this
        exact this
      generalize hl' : fnd (nsF f s.data.toList i) = l at HI hFM hll HB4
      clear hl'
      generalize hns : nsF f s.data.toList i = NS at HC HB4
      clear hns
      have hlt8 : (s.size : Int) < (i : Int) + 8 := by omega
      have hsz3 := HB.out.2
      have hfl : l.length = fn := by
        obtain ⟨a', c', he, _⟩ := HI.out.form
        injection he with _ he2
        exact he2.symm
      subst hfl
      have SB : Hid (Calls Tryz.prog 65 #[.slice fa l.length fc, .func (.func 66) #[] #[.pointer (some ⟨cb, 0, none⟩)]] wr fun r w' => r = .returned (.tuple #[]) ∧ ((l = [] ∧ w' = wr) ∨ ∃ b, fa = some ⟨b, 0, none⟩ ∧ wr.grownBy w' (some b) ∧ cb + 1 ≤ b ∧ ∀ (j : Nat) (hj : j < (l.mergeSort fun x y => !decide (cfN (fun n => NS.count n) y x < 0)).length), w'.cell? ⟨b, j, none⟩ = some (nI (l.mergeSort fun x y => !decide (cfN (fun n => NS.count n) y x < 0))[j]))) := sortB w wr cb w.heap.size ts.length _ HC.out l hFM fa fc HI.out hgl (by omega)
      have hml : (l.mergeSort fun x y => !decide (cfN (fun n => NS.count n) y x < 0)).length = l.length := List.length_mergeSort _
      generalize (l.mergeSort fun x y => !decide (cfN (fun n => NS.count n) y x < 0)) = M at SB HB4 hml
      have HBL : Hid (BF.length = min 4 l.length) := by show _ = _; rw [← HB4.out, List.length_take, hml]
      have HBG : Hid (∀ (j : Nat) (hj : j < BF.length) (h2 : j < M.length), BF[j] = M[j]) := fun j hj h2 => by
        have e := HB4.out
        subst e
        rw [List.getElem_take]
      have HML : Hid (M.length = l.length) := hml
      have HCAP : Hid ((fa = none ∧ l.length = 0 ∧ fc = 0) ∨ (∃ b, fa = some ⟨b, 0, none⟩ ∧ l.length ≤ fc)) := by
        rcases HI.out.2 with ⟨e, h0⟩ | ⟨b, cap, cur, he, hb, hg, hcap, hmax, hsz, htake⟩
        · injection e with e1 e2 e3
          exact .inl ⟨e1, h0, e3⟩
        · injection he with e1 e2 e3
          exact .inr ⟨b, e1, by omega⟩
      clear hie hFM HB4 HC hml HBF HFL HTA HLK HI HCT HBA
      have hl4 : (l.length : Int) ≤ 10000 := by omega
      have HFIN : Hid (∀ (k : Nat) w', k = min 4 l.length → ((l = [] ∧ w' = wr) ∨ ∃ b, fa = some ⟨b, 0, none⟩ ∧ wr.grownBy w' (some b) ∧ cb + 1 ≤ b ∧ ∀ (j : Nat) (hj : j < M.length), w'.cell? ⟨b, j, none⟩ = some (nI M[j])) → ∃ a c, Ending.returned (.slice fa k fc) = .returned (.slice a BF.length c) ∧ (∀ (j : Nat) (hj : j < BF.length), ∃ b, a = some ⟨b, 0, none⟩ ∧ w'.cell? ⟨b, j, none⟩ = some (nI BF[j])) ∧ RowKit.Below w.heap.size w w') := fun k w' hk h => by
        have hbl := HBL.out
        refine ⟨fa, fc, by rw [hbl, hk], fun j hj => ?_, ?_⟩
        · rcases h with ⟨rfl, _⟩ | ⟨b, rfl, _, _, h⟩
          · have : ([] : List Nat).length = 0 := rfl
            omega
          · have h2 : j < M.length := by have := HML.out; omega
            exact ⟨b, rfl, by rw [h j h2, HBG.out j hj h2]⟩
        · rcases h with ⟨_, rfl⟩ | ⟨b, _, hg, hb, _⟩
          · exact HB.out.1
          · exact HB.out.1.grown hg HB.out.1.size (fun q e => by cases e; omega)
      rcases HCAP.out with ⟨e1, e2, e3⟩ | ⟨b, e1, e2⟩
      · subst e1 e3
        rw [e2] at SB hl4 ⊢
        have HE2 : Hid (l.length = 0) := e2
        clear e2 HCAP
        go_wp2_with (go_at_call 65; refine Calls.mono SB.out ?_; rintro r w5 ⟨rfl, h5⟩; have H5 : Hid (_) := h5; clear h5)
        go_ret
        exact HFIN.out 0 _ (by rw [HE2.out]; rfl) H5.out
      · subst e1
        have ce : (l.length : Int) ≤ (fc : Int) := by omega
        clear HCAP
        by_cases h4 : l.length ≤ 4
        · have h4' : ¬ (4 : Int) < (l.length : Int) := by omega
          have h4'' : (l.length : Int) ≤ 4 := by omega
          go_wp2_with (go_at_call 65; refine Calls.mono SB.out ?_; rintro r w5 ⟨rfl, h5⟩; have H5 : Hid (_) := h5; clear h5)
          go_ret
          exact HFIN.out (min (l.length : Int) 4).toNat _ (by omega) H5.out
        · have h4' : (4 : Int) < (l.length : Int) := by omega
          have c4 : (4 : Int) ≤ (fc : Int) := by omega
          go_wp2_with (go_at_call 65; refine Calls.mono SB.out ?_; rintro r w5 ⟨rfl, h5⟩; have H5 : Hid (_) := h5; clear h5)
          go_ret
          exact HFIN.out (min (l.length : Int) 4).toNat _ (by omega) H5.out
end Go.Proofs.YtbocknocmggcpaaGreatDoor
