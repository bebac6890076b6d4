/- Contracts of strings.SplitSeq, and of takeDays at the word of a rule's days. -/
import Derived.Test.YtekminpoiokgfaaGreatDoorYaQ
import Derived.RegionTactic
import Derived.Deep.AppendLies
namespace Go.Proofs.YtekminpoiokgfaaGreatDoor
open Go Go.RowKit Go.Shelf Cal
attribute [local go_sem] Oper.semAt_some

theorem splitSeq_any (s : ByteArray) (c : UInt8) (w : World) :
    Calls Tryz.prog 145 #[.string s, .string ⟨#[c]⟩] w fun r w' => r = .returned (.func (.func 187) #[] #[.pointer (some ⟨w.heap.size + 1, 0, none⟩), .pointer (some ⟨w.heap.size, 0, none⟩), .pointer (some ⟨w.heap.size + 2, 0, none⟩)]) ∧
      w' = ((w.alloc (.cells #[.string s] 9)).alloc (.cells #[.string ⟨#[c]⟩] 9)).alloc (.cells #[.int .i64 0] 3) := by
  go_enter Tryz.func145, Tryz.ntmps145
  go_wp2
  go_ret
  exact ⟨rfl, rfl⟩

/-- where the loop over the names begins -/
def DW (w : World) (B : Nat) (sb : ByteArray) : World :=
  ((((((w.setCell ⟨B, 5, none⟩ (.int .i64 3)).alloc (.cells #[.pointer (some ⟨B, 0, none⟩)] 205)).alloc (.cells #[.bool false] 4)).alloc (.cells #[.string sb] 9)).alloc (.cells #[.string ⟨#[44]⟩] 9)).alloc (.cells #[.int .i64 0] 3))
theorem dw_size (w : World) (B : Nat) (sb : ByteArray) : (DW w B sb).heap.size = w.heap.size + 5 := by
  unfold DW
  simp
theorem dw_grown (w : World) (B : Nat) (sb : ByteArray) : w.grownBy (DW w B sb) (some B) := by
  unfold DW
  exact grown_then (grown_set w ⟨B, 5, none⟩ _) (grown_below (below_then (below_alloc _ _) (below_then (below_alloc _ _) (below_then (below_alloc _ _) (below_then (below_alloc _ _) (below_alloc _ _))))) _)
theorem dw_rd {w : World} {B : Nat} {sb : ByteArray} {f : ByteArray} {e : Int} {sl : Value} {c u p : Int} (h : Rd w B f e sl c u p) : Rd (DW w B sb) B f e sl c u 3 := by
  unfold DW
  exact rd_step (rd_set5 h 3) (below_then (below_alloc _ _) (below_then (below_alloc _ _) (below_then (below_alloc _ _) (below_then (below_alloc _ _) (below_alloc _ _)))))
theorem dw_box (w : World) (B : Nat) (sb : ByteArray) :
    Boxed (DW w B sb) w.heap.size 205 (.pointer (some ⟨B, 0, none⟩)) ∧ Boxed (DW w B sb) (w.heap.size + 1) 4 (.bool false) ∧ Boxed (DW w B sb) (w.heap.size + 2) 9 (.string sb) ∧
      Boxed (DW w B sb) (w.heap.size + 3) 9 (.string ⟨#[44]⟩) ∧ Boxed (DW w B sb) (w.heap.size + 4) 3 (.int .i64 0) := by
  unfold DW
  refine ⟨?_, ?_, ?_, ?_, ?_⟩
  · exact ((((boxed_at _ _ (set_size _ _ _)).alloc _).alloc _).alloc _).alloc _
  · exact (((boxed_at _ _ (by simp)).alloc _).alloc _).alloc _
  · exact ((boxed_at _ _ (by simp)).alloc _).alloc _
  · exact (boxed_at _ _ (by simp)).alloc _
  · exact boxed_at _ _ (by simp)

/-- what a loop over an iterator leaves as it was: all but the reader's block and the iterator's variable; the block for deferred calls -/
structure Fr (W5 W : World) (B Bs : Nat) : Prop where
  os : W.os = W5.os
  tape : W.tape = W5.tape
  output : W.output = W5.output
  size : W5.heap.size + 2 ≤ W.heap.size
  block : ∀ k, k < W5.heap.size → k ≠ B → k ≠ Bs → W.heap[k]? = W5.heap[k]?
  dfr : W.heap[W5.heap.size]? = some (.deferred (some []))
theorem Fr.grown {W5 W W' : World} {B Bs : Nat} (h : Fr W5 W B Bs) (hg : W.grownBy W' (some B)) (hB : B < W5.heap.size) : Fr W5 W' B Bs :=
  ⟨hg.os.trans h.os, hg.tape.trans h.tape, hg.output.trans h.output, Nat.le_trans h.size hg.size, fun k hk h1 h2 => (hg.block k (by have := h.size; omega) (fun e => h1 (by cases e; rfl))).trans (h.block k hk h1 h2),
    (hg.block _ (by have := h.size; omega) (fun e => by cases e; omega)).trans h.dfr⟩
theorem Fr.setS {W5 W : World} {B Bs : Nat} (h : Fr W5 W B Bs) (hB : Bs < W5.heap.size) (v : Value) : Fr W5 (W.setCell ⟨Bs, 0, none⟩ v) B Bs :=
  ⟨h.os, h.tape, h.output, by rw [set_size]; exact h.size, fun k hk h1 h2 => (Below.heap_setCell _ _ _ k (fun e => h2 e)).trans (h.block k hk h1 h2), (Below.heap_setCell _ _ _ _ (fun e => by have e' : W5.heap.size = Bs := e; omega)).trans h.dfr⟩
theorem Fr.put {W5 W : World} {B Bs : Nat} (h : Fr W5 W B Bs) (o : Obj) : Fr W5 (W.putObj (W5.heap.size + 1) o) B Bs :=
  ⟨h.os, h.tape, h.output, by rw [World.putObj_size]; exact h.size, fun k hk h1 h2 => (World.putObj_heap_other (by omega)).trans (h.block k hk h1 h2), (World.putObj_heap_other (by omega)).trans h.dfr⟩
theorem Fr.start (W5 : World) (B Bs : Nat) (o : Obj) : Fr W5 ((W5.alloc (.deferred (some []))).alloc o) B Bs := by
  have h1 := below_then (below_alloc W5 (.deferred (some []))) (below_alloc _ o)
  refine ⟨rfl, rfl, rfl, by simp, fun k hk _ _ => h1.block k hk, ?_⟩
  exact ((below_alloc _ o).block W5.heap.size (by simp)).trans (World.alloc_heap_new W5 _)
theorem rd_put {w : World} {B l : Nat} {f : ByteArray} {e : Int} {sl : Value} {c u p : Int} (h : Rd w B f e sl c u p) (o : Obj) (hne : B ≠ l) : Rd (w.putObj l o) B f e sl c u p := (World.putObj_heap_other hne).trans h
/-- behind a round's append: what lies below the rows -/
theorem far {w Wb w1 : World} {sl : Value} {k : Nat} {xs : List Value} {o : Obj} (hsz : w.heap.size + 7 ≤ Wb.heap.size) (ho : Wb.ownsRow (w.heap.size + 7) 3 1 sl k xs) (hgrow : (Wb.alloc o).drew.grownBy w1 sl.ownBlock) (b : Nat) (hb : b < w.heap.size + 7) : w1.heap[b]? = Wb.heap[b]? := by
  refine (hgrow.block b (by show b < (Wb.heap.push _).size; simp only [Array.size_push]; omega) (fun e => ?_)).trans ((below_alloc Wb o).block b (by omega))
  have := (ho.lt b e.symm).1
  omega
theorem dayRound {w W5 W Wb w1 : World} {B k gb cap : Nat} {f : ByteArray} {e c u : Int} {sl : Value} {xs ys : List Value} {r0 rb : Loop} {o : Obj} (hs5 : W5.heap.size = w.heap.size + 5) (hB : B < w.heap.size)
    (rd : Rd Wb B f e sl c u 3) (fr : Fr W5 Wb B (w.heap.size + 2)) (hl : Wb.heap[W5.heap.size + 1]? = some (.loop rb)) (ho : Wb.ownsRow (w.heap.size + 7) 3 1 sl k xs)
    (e2 : Wb.heap[w.heap.size + 2]? = W.heap[w.heap.size + 2]?) (e3 : Wb.heap[w.heap.size + 3]? = W.heap[w.heap.size + 3]?) (e4 : Wb.heap[w.heap.size + 4]? = W.heap[w.heap.size + 4]?)
    (hown : w1.ownsRow (w.heap.size + 7) 3 1 (.slice (some ⟨gb, 0, none⟩) (k + 1) cap) (k + 1) ys) (hgrow : (Wb.alloc o).drew.grownBy w1 sl.ownBlock) :
    (w1.setCell ⟨B, 2, none⟩ (.slice (some ⟨gb, 0, none⟩) (k + 1) cap)).heap[W5.heap.size + 1]? = some (.loop rb) ∧
    ((∃ sl', Rd ((w1.setCell ⟨B, 2, none⟩ (.slice (some ⟨gb, 0, none⟩) (k + 1) cap)).putObj (W5.heap.size + 1) (.loop r0)) B f e sl' c u 3 ∧
      ((w1.setCell ⟨B, 2, none⟩ (.slice (some ⟨gb, 0, none⟩) (k + 1) cap)).putObj (W5.heap.size + 1) (.loop r0)).ownsRow (w.heap.size + 7) 3 1 sl' (k + 1) ys) ∧
      Fr W5 ((w1.setCell ⟨B, 2, none⟩ (.slice (some ⟨gb, 0, none⟩) (k + 1) cap)).putObj (W5.heap.size + 1) (.loop r0)) B (w.heap.size + 2) ∧
      ((w1.setCell ⟨B, 2, none⟩ (.slice (some ⟨gb, 0, none⟩) (k + 1) cap)).putObj (W5.heap.size + 1) (.loop r0)).heap[W5.heap.size + 1]? = some (.loop r0)) ∧
    ((w1.setCell ⟨B, 2, none⟩ (.slice (some ⟨gb, 0, none⟩) (k + 1) cap)).putObj (W5.heap.size + 1) (.loop r0)).heap[w.heap.size + 2]? = W.heap[w.heap.size + 2]? ∧
    ((w1.setCell ⟨B, 2, none⟩ (.slice (some ⟨gb, 0, none⟩) (k + 1) cap)).putObj (W5.heap.size + 1) (.loop r0)).heap[w.heap.size + 3]? = W.heap[w.heap.size + 3]? ∧
    ((w1.setCell ⟨B, 2, none⟩ (.slice (some ⟨gb, 0, none⟩) (k + 1) cap)).putObj (W5.heap.size + 1) (.loop r0)).heap[w.heap.size + 4]? = W.heap[w.heap.size + 4]? := by
  have hsz := fr.size
  have hfar := fun b hb => far (by omega) ho hgrow b hb
  have hset : ∀ b, b ≠ B → (w1.setCell ⟨B, 2, none⟩ (.slice (some ⟨gb, 0, none⟩) (k + 1) cap)).heap[b]? = w1.heap[b]? := fun b hb => Below.heap_setCell _ _ _ b (fun e => hb e)
  have hsize : Wb.heap.size ≤ w1.heap.size := by
    have := hgrow.size
    have h2 : (Wb.alloc o).drew.heap.size = Wb.heap.size + 1 := by show (Wb.heap.push _).size = _; simp
    omega
  have hlrec : (w1.setCell ⟨B, 2, none⟩ (.slice (some ⟨gb, 0, none⟩) (k + 1) cap)).heap[W5.heap.size + 1]? = some (.loop rb) := (hset _ (by omega)).trans ((hfar _ (by omega)).trans hl)
  have hrd1 : Rd w1 B f e sl c u 3 := (hfar B (by omega)).trans rd
  have hfr1 : Fr W5 w1 B (w.heap.size + 2) := ⟨hgrow.os.trans fr.os, hgrow.tape.trans fr.tape, hgrow.output.trans fr.output, by omega, fun b hb h1 h2 => (hfar b (by omega)).trans (fr.block b hb h1 h2), (hfar _ (by omega)).trans fr.dfr⟩
  have hput : ∀ b, b ≠ W5.heap.size + 1 → b ≠ B → b < w.heap.size + 7 → ((w1.setCell ⟨B, 2, none⟩ (.slice (some ⟨gb, 0, none⟩) (k + 1) cap)).putObj (W5.heap.size + 1) (.loop r0)).heap[b]? = Wb.heap[b]? := fun b h1 h2 h3 => (World.putObj_heap_other h1).trans ((hset b h2).trans (hfar b h3))
  refine ⟨hlrec, ⟨⟨_, rd_put (rd_set2 hrd1 _) _ (by omega), own_put (ownsRow_setCell_below hown (by show B < _; omega) _) _ ?_⟩, (hfr1.grown (grown_set w1 ⟨B, 2, none⟩ _) (by omega)).put _, World.putObj_heap_same (by rw [set_size]; omega)⟩, (hput _ (by omega) (by omega) (by omega)).trans e2, (hput _ (by omega) (by omega) (by omega)).trans e3, (hput _ (by omega) (by omega) (by omega)).trans e4⟩
  intro he
  have := (hown.lt _ he).1
  omega

set_option maxHeartbeats 1000000 in
set_option maxRecDepth 100000 in
theorem takeDays_any (B : Nat) (ds : List Int) (w0 w : World) (f : ByteArray) (e : Int) (c u p : Int) (g : GlobR w0) (hb0 : Below w0.heap.size w0 w) (hB : w0.heap.size ≤ B) (h0 : ds ≠ []) (hD : bD ds) (h20 : ds.length ≤ 20)
    (h : Rd w B f e (.slice none 0 0) c u p) :
    Calls Tryz.prog 190 #[.pointer (some ⟨B, 0, none⟩), .string (bs (Lib.join (ds.map nm) [44]))] w fun r w' => r = .returned (.bool true) ∧ w.grownBy w' (some B) ∧
      ∃ sl, Rd w' B f e sl c u 3 ∧ w'.ownsRow w.heap.size 3 1 sl ds.length (ds.map (Value.int .i64)) := by
  have hp := days_pieces h0
  have hsz : (bs (Lib.join (ds.map nm) [44])).size ≤ 1000000 := by rw [Lib.size_eq, bs_data]; have := days_len ds; omega
  have hp' : pieces 44 (bs (Lib.join (ds.map nm) [44])).data.toList = ds.map nm := hp
  generalize bs (Lib.join (ds.map nm) [44]) = sb at hsz hp'
  have HP : Hid (pieces 44 sb.data.toList = ds.map nm) := hp'
  have G : Hid (GlobR w0) := g
  have HB0 : Hid (Below w0.heap.size w0 w) := hb0
  have HD : Hid (bD ds) := hD
  have H : Hid (Rd w B f e (.slice none 0 0) c u p) := h
  have hlt := rd_lt h
  obtain ⟨x0, x1, x2, x3, x4, x5⟩ := rd_cell h
  have z5 := rd_frozen h 5
  have SS : Hid (∀ w, _) := fun w => splitSeq_any sb 44 w
  clear hp hp' g hb0 hD h x0 x1 x2 x3 x4
  refine (callsIn_wide (n := 10)).1 ?_
  refine callsIn_of_wp_marks Tryz.func190 rfl trivial ?_ rfl
  simp only [Tryz.ntmps190, List.size_toArray, List.length_cons, List.length_nil, Nat.reduceAdd, Nat.reduceSub, Array.replicate_succ, Array.replicate_zero, List.push_toArray, List.append_toArray, List.nil_append, List.cons_append]
  gi_wp2_with (refine ⟨trivial, ?_⟩; gi_at_call 145; refine (callsIn_wide.2 (SS.out _)).mono ?_; rintro r w' ⟨rfl, rfl⟩)
  change Code.wpIn _ _ _ _ _ _ (DW w B sb)
  obtain ⟨b0, b1, b2, b3, b4⟩ := dw_box w B sb
  have hrd := dw_rd (sb := sb) H.out
  have hgr := dw_grown w B sb
  have hs5 := dw_size w B sb
  generalize DW w B sb = W5 at b0 b1 b2 b3 b4 hrd hgr hs5
  have hBlt : B < W5.heap.size := by omega
  refine rangeFunc_of rfl (enters_of Tryz.func187 (by kernel_rfl) rfl) (fun r0 hr0 => ?_)
  refine (split_iter 9 (W5.heap.size + 1) (w.heap.size + 2) (w.heap.size + 3) (w.heap.size + 4) 44 (ds.map nm)
    (fun k W => (∃ sl, Rd W B f e sl c u 3 ∧ W.ownsRow (w.heap.size + 7) 3 1 sl k ((ds.take k).map (Value.int .i64))) ∧ Fr W5 W B (w.heap.size + 2) ∧ W.heap[W5.heap.size + 1]? = some (.loop r0))
    (fun _ _ => False) (by omega) (by omega) (by omega) ?hJs ?hY _ sb hsz HP.out ?hBox ?h0).mono ?post
  case hJs =>
    rintro k W v ⟨⟨sl, q1, q2⟩, q3, q4⟩
    refine ⟨⟨sl, (Below.heap_setCell _ _ _ B (fun e => by have e' : B = w.heap.size + 2 := e; omega)).trans q1, ownsRow_setCell_below q2 (by show w.heap.size + 2 < _; omega) v⟩, q3.setS (by omega) v, (Below.heap_setCell _ _ _ _ (fun e => by have e' : W5.heap.size + 1 = w.heap.size + 2 := e; omega)).trans q4⟩
  case hBox =>
    have hb := below_then (below_alloc W5 (.deferred (some []))) (below_alloc _ (.loop r0))
    exact ⟨(hb.block _ (by omega)).trans b2, (hb.block _ (by omega)).trans b3, (hb.block _ (by omega)).trans b4⟩
  case h0 =>
    refine ⟨⟨.slice none 0 0, rd_step hrd (below_then (below_alloc _ _) (below_alloc _ _)), World.ownsRow_nil _ _ _ _⟩, Fr.start _ _ _ _, rec_start _ _⟩
  case post =>
    rintro e2 W2 ⟨hv, (⟨⟨sl, q1, q2⟩, q3, q4⟩ | ⟨k, hx⟩)⟩
    · refine ⟨hv, _, q4, by rw [hr0.state]; decide, .inl ⟨hr0.pending, ?_⟩⟩
      have fr3 := q3.put (.loop { r0 with state := .exhausted })
      have r3 := rd_put q1 (.loop { r0 with state := .exhausted }) (show B ≠ W5.heap.size + 1 by omega)
      have o3 := own_put (l := W5.heap.size + 1) q2 (.loop { r0 with state := .exhausted }) (fun he => by have := (q2.lt _ he).1; omega)
      rw [List.length_map, List.take_length] at o3
      have b3' : Boxed (W2.putObj (W5.heap.size + 1) (.loop { r0 with state := .exhausted })) (w.heap.size + 1) 4 (.bool false) := (fr3.block (w.heap.size + 1) (by omega) (by omega) (by omega)).trans b1
      generalize W2.putObj (W5.heap.size + 1) (.loop { r0 with state := .exhausted }) = W3 at fr3 r3 o3 b3'
      have FR : Hid (_) := fr3
      have RR : Hid (_) := r3
      have OO : Hid (W3.ownsRow (w.heap.size + 7) 3 1 sl ds.length (ds.map (Value.int .i64))) := o3
      have BB : Hid (Boxed W3 (w.heap.size + 1) 4 (.bool false)) := b3'
      have hc := b3'.cell
      have hf := b3'.frozen
      have GR : Hid (_) := hgr
      clear fr3 r3 o3 q1 q2 q3 q4 b0 b1 b2 b3 b4 b3' hrd hgr SS x5 z5
      have hd5 : W3.heap[w.heap.size + 5]? = some (.deferred (some [])) := by rw [← hs5]; exact FR.out.dfr
      have HD5 : Hid (_) := hd5
      clear hd5
      gi_wp2
      have hK' : (W3.setCell ⟨w.heap.size + 1, 0, none⟩ (.bool true)).heap[w.heap.size + 5]? = some (.deferred (some [])) := (Below.heap_setCell _ _ _ _ (fun e => by have e' : w.heap.size + 5 = w.heap.size + 1 := e; omega)).trans HD5.out
      refine ⟨by simp, .inl ⟨_, _, rfl, run_takeDeferred hK', ?_⟩⟩
      have hc5 := cell_kept (BB.out.set (.bool true)).cell (grownBy_putObj' _ (w.heap.size + 5) (.deferred none)) (fun r e => by cases e; exact ⟨_, hK', rfl⟩)
      refine ⟨.bool true, ?_, rfl, ?_, sl, ?_, ?_⟩
      · simp [results, Tryz.f190, go_sem, hc5]
      · refine ⟨FR.out.os.trans GR.out.os, FR.out.tape.trans GR.out.tape, FR.out.output.trans GR.out.output, ?_, fun k hk hne => ?_⟩
        · rw [World.putObj_size, set_size]
          have := FR.out.size
          omega
        · have hkB : k ≠ B := fun e => hne (by rw [e])
          exact (World.putObj_heap_other (by omega)).trans ((Below.heap_setCell _ _ _ k (fun e => by have e' : k = w.heap.size + 1 := e; omega)).trans ((FR.out.block k (by omega) hkB (by omega)).trans (GR.out.block k hk hne)))
      · exact rd_put ((Below.heap_setCell _ _ _ B (fun e => by have e' : B = w.heap.size + 1 := e; omega)).trans RR.out) _ (by omega)
      · exact own_base (own_put (l := w.heap.size + 5) (ownsRow_setCell_below OO.out (by show w.heap.size + 1 < _; omega) _) _ (fun he => by have := (OO.out.lt _ he).1; omega)) (by omega)
    · exact hx.elim
  case hY =>
    rintro k hk W ⟨⟨sl, q1, q2⟩, q3, q4⟩
    have hkd : k < ds.length := by simpa using hk
    have hx : (⟨((ds.map nm)[k]).toArray⟩ : ByteArray) = bs (nm ds[k]) := by rw [List.getElem_map]; rfl
    rw [hx]
    have hdk := HD.out ds[k] (List.getElem_mem hkd)
    have HT : Hid (ds.take (k + 1) = ds.take k ++ [ds[k]]) := List.take_succ_eq_append_getElem hkd
    generalize ds[k] = d at hdk HT hx
    obtain ⟨m, rfl⟩ : ∃ m : Nat, d = m := ⟨d.toNat, by omega⟩
    have hm7 : m < 7 := by omega
    have hl0 := (Array.getElem?_eq_some_iff.1 q4).1
    have RN : Hid (∀ W, GlobR W → Calls Tryz.prog 211 #[.string (bs (nm m))] W fun r w' => r = .returned (.tuple #[.int .i64 m, .bool true]) ∧ w' = W) := fun W g => readName_any m hm7 W g
    generalize bs (nm m) = x at RN
    refine yieldAt_of hr0 ({ tmps := #[.pointer (some ⟨B, 0, none⟩), .string sb, .pointer (some ⟨w.heap.size, 0, none⟩), undef, .pointer (some ⟨w.heap.size + 1, 0, none⟩), .string x, undef, undef, .pointer (some ⟨B, 0, none⟩), .pointer (some ⟨B, 0, none⟩), .pointer (some ⟨B, 5, none⟩), .string sb, .func (.func 187) #[] #[.pointer (some ⟨w.heap.size + 1 + 1 + 1, 0, none⟩), .pointer (some ⟨w.heap.size + 1 + 1, 0, none⟩), .pointer (some ⟨w.heap.size + 1 + 1 + 2, 0, none⟩)], .string x, undef, undef, undef, undef, undef, undef, undef, undef, undef, undef, undef, undef, undef, undef, undef, undef, undef, undef, undef], defers := [] }) q4 rfl ?assign ?body
    case assign =>
      intro K hK
      gi_wp2
      exact hK
    case body =>
      have fr1 := q3.put (.loop { r0 with state := .busy })
      have hgW : GlobR (W.putObj (W5.heap.size + 1) (.loop { r0 with state := .busy })) := G.out.step ⟨fr1.os.trans (hgr.os.trans HB0.out.os), fr1.tape.trans (hgr.tape.trans HB0.out.tape), fr1.output.trans (hgr.output.trans HB0.out.output), by have h1 := fr1.size; have h2 := HB0.out.size; omega,
        fun b hb => (fr1.block b (by have h2 := HB0.out.size; omega) (by omega) (by have h2 := HB0.out.size; omega)).trans ((hgr.block b (by have h2 := HB0.out.size; omega) (fun e => by cases e; omega)).trans (HB0.out.block b hb))⟩
      have c0 : (W.putObj (W5.heap.size + 1) (.loop { r0 with state := .busy })).cell? ⟨w.heap.size, 0, none⟩ = some (.pointer (some ⟨B, 0, none⟩)) :=
        (World.cell?_of_block (a := ⟨w.heap.size, 0, none⟩) (fr1.block w.heap.size (by omega) (by omega) (by omega))).trans b0.cell
      have r1 := rd_put q1 (.loop { r0 with state := .busy }) (show B ≠ W5.heap.size + 1 by omega)
      have o1 : (W.putObj (W5.heap.size + 1) (.loop { r0 with state := .busy })).ownsRow (w.heap.size + 7) 3 1 sl k ((ds.take k).map (Value.int .i64)) := own_put q2 _ (fun he => by have := (q2.lt _ he).1; omega)
      have e2 : (W.putObj (W5.heap.size + 1) (.loop { r0 with state := .busy })).heap[w.heap.size + 2]? = W.heap[w.heap.size + 2]? := World.putObj_heap_other (by omega)
      have e3 : (W.putObj (W5.heap.size + 1) (.loop { r0 with state := .busy })).heap[w.heap.size + 3]? = W.heap[w.heap.size + 3]? := World.putObj_heap_other (by omega)
      have e4 : (W.putObj (W5.heap.size + 1) (.loop { r0 with state := .busy })).heap[w.heap.size + 4]? = W.heap[w.heap.size + 4]? := World.putObj_heap_other (by omega)
      have lrec : (W.putObj (W5.heap.size + 1) (.loop { r0 with state := .busy })).heap[W5.heap.size + 1]? = some (.loop { r0 with state := .busy }) := World.putObj_heap_same hl0
      generalize (W.putObj (W5.heap.size + 1) (.loop { r0 with state := .busy })) = Wb at hgW c0 r1 o1 lrec fr1 e2 e3 e4
      have FR : Hid (_) := fr1
      have E2 : Hid (_) := e2
      have E3 : Hid (_) := e3
      have E4 : Hid (_) := e4
      have LREC : Hid (_) := lrec
      have R1 : Hid (_) := r1
      have hWsz := fr1.size
      clear fr1 e2 e3 e4
      have HG : Hid (GlobR Wb) := hgW
      have HO : Hid (Wb.ownsRow (w.heap.size + 7) 3 1 sl k ((ds.take k).map (Value.int .i64))) := o1
      obtain ⟨x0, x1, x2, x3, x4, x6⟩ := rd_cell r1
      have z2 := rd_frozen r1 2
      have hmix : Tryz.prog.follows .mixedOrders = true := by kernel_rfl
      clear hgW o1
      gi_wp2_with (refine ⟨trivial, ?_⟩; gi_at_call 211; refine (CallsIn.inRound (W5.heap.size + 1) (callsIn_wide.2 (RN.out _ HG.out))).mono ?_; rintro r w' ⟨rfl, rfl⟩)
      obtain ⟨i0, hi, hz0, hz1, hz2⟩ := info_parts info_int
      generalize hxs : (ds.take k).map (Value.int .i64) = xs at HO
      have HXS : Hid ((ds.take k).map (Value.int .i64) = xs) := hxs
      have HI : Hid (_) := hi
      have HZ0 : Hid (_) := hz0
      have HZ1 : Hid (_) := hz1
      have HZ2 : Hid (_) := hz2
      have HO2 : Hid ((w'.drew.alloc (.cells #[.int .i64 m] 3)).ownsRow (w.heap.size + 7) 3 1 sl k xs) := own_step HO.out (below_then (drew_below _) (below_alloc _ _))
      have HNEWS : Hid (∀ (j : Nat) (u : Value), [Value.int .i64 m][j]? = some u → (w'.drew.alloc (.cells #[.int .i64 m] 3)).cell? ((⟨w'.heap.size, 0, none⟩ : Addr).add j) = some u) := by
        intro j u hj
        match j, hj with
        | 0, hj => simp at hj; subst hj; exact (Boxed.new w'.drew 3 (.int .i64 m)).cell
      have HONE : Hid (∀ u ∈ [Value.int .i64 m], u.oneCell' = true) := by intro u hu; simp at hu; subst hu; rfl
      have HMAX : Hid (k + 1 ≤ maxLen) := by unfold maxLen; show k + 1 ≤ _; omega
      have HBY : Hid ((k + 1) * 8 ≤ 140737488355328) := by show (k + 1) * 8 ≤ _; omega
      have HBASE : Hid (w.heap.size + 7 ≤ (w'.drew.alloc (.cells #[.int .i64 m] 3)).heap.size) := by
        have hq := (Array.getElem?_eq_some_iff.1 lrec).1
        show _ ≤ (w'.heap.push _).size
        simp only [Array.size_push]
        omega
      clear hi hz0 hz1 hz2 hxs RN
      have FIN : Hid (∀ (gb cap : Nat) (w1 : World), w1.ownsRow (w.heap.size + 7) 3 1 (.slice (some ⟨gb, 0, none⟩) (k + 1) cap) (k + 1) (xs ++ [.int .i64 m]) → (w'.alloc (.cells #[.int .i64 m] 3)).drew.grownBy w1 sl.ownBlock →
          (w1.setCell ⟨B, 2, none⟩ (.slice (some ⟨gb, 0, none⟩) (k + 1) cap)).heap[W5.heap.size + 1]? = some (.loop { r0 with state := .busy }) ∧
          ((∃ sl, Rd ((w1.setCell ⟨B, 2, none⟩ (.slice (some ⟨gb, 0, none⟩) (k + 1) cap)).putObj (W5.heap.size + 1) (.loop { r0 with state := .ready, pending := none })) B f e sl c u 3 ∧ ((w1.setCell ⟨B, 2, none⟩ (.slice (some ⟨gb, 0, none⟩) (k + 1) cap)).putObj (W5.heap.size + 1) (.loop { r0 with state := .ready, pending := none })).ownsRow (w.heap.size + 7) 3 1 sl (k + 1) ((ds.take (k + 1)).map (Value.int .i64))) ∧ Fr W5 ((w1.setCell ⟨B, 2, none⟩ (.slice (some ⟨gb, 0, none⟩) (k + 1) cap)).putObj (W5.heap.size + 1) (.loop { r0 with state := .ready, pending := none })) B (w.heap.size + 2) ∧ ((w1.setCell ⟨B, 2, none⟩ (.slice (some ⟨gb, 0, none⟩) (k + 1) cap)).putObj (W5.heap.size + 1) (.loop { r0 with state := .ready, pending := none })).heap[W5.heap.size + 1]? = some (.loop r0)) ∧
          ((w1.setCell ⟨B, 2, none⟩ (.slice (some ⟨gb, 0, none⟩) (k + 1) cap)).putObj (W5.heap.size + 1) (.loop { r0 with state := .ready, pending := none })).heap[w.heap.size + 2]? = W.heap[w.heap.size + 2]? ∧ ((w1.setCell ⟨B, 2, none⟩ (.slice (some ⟨gb, 0, none⟩) (k + 1) cap)).putObj (W5.heap.size + 1) (.loop { r0 with state := .ready, pending := none })).heap[w.heap.size + 3]? = W.heap[w.heap.size + 3]? ∧ ((w1.setCell ⟨B, 2, none⟩ (.slice (some ⟨gb, 0, none⟩) (k + 1) cap)).putObj (W5.heap.size + 1) (.loop { r0 with state := .ready, pending := none })).heap[w.heap.size + 4]? = W.heap[w.heap.size + 4]?) := by
        intro gb cap w1 hown hgrow
        have hD := dayRound (r0 := { r0 with state := .ready, pending := none }) hs5 hlt R1.out FR.out LREC.out HO.out E2.out E3.out E4.out hown hgrow
        have hys : xs ++ [Value.int .i64 m] = (ds.take (k + 1)).map (Value.int .i64) := by rw [← HXS.out, HT.out, List.map_append]; rfl
        rw [hys] at hD
        exact ⟨hD.1, ⟨hD.2.1.1, hD.2.1.2.1, hD.2.1.2.2.trans (by rw [hr0.again])⟩, hD.2.2⟩
      have c0d := cell_alloc (.cells #[.int .i64 m] 3) c0
      have x2d := cell_alloc (.cells #[.int .i64 m] 3) x2
      refine region_round hmix (no_defer (by kernel_rfl)) (by rintro ⟨_, _, hx⟩; exact hx) ?_
      refine wpAny_take (i := 6) (v := .int .i64 m) rfl (by kernel_rfl) (by kernel_rfl) (by kernel_rfl) (fun _ _ _ h => h) (Or.inl ⟨by rfl, fun w => by go_simp⟩) ?_
      refine wpAny_ready (rs := [0, 1, 7]) (by kernel_rfl) (by simp) (AllReady.cons rfl (fun K hK => ?q1a) (AllReady.cons rfl (fun K hK => ?q1b) (AllReady.cons rfl (fun K hK => ?q1c) AllReady.nil)))
      case' q1a =>
        go_simp
        refine hK _ _ ?_
        clear hK K
        refine wpAny_ready (rs := [1, 7]) (by kernel_rfl) (by simp) (AllReady.cons rfl (fun K hK => ?q2a) (AllReady.cons rfl (fun K hK => ?q2b) AllReady.nil))
        case' q2a =>
          go_simp
          refine hK _ _ ?_
          clear hK K
          refine wpAny_take (i := 2) (v := .pointer (some ⟨B, 0, none⟩)) rfl (by kernel_rfl) (by kernel_rfl) (by kernel_rfl) (fun _ _ _ h => h) (Or.inl ⟨by rfl, fun w => by go_simp⟩) ?_
          refine wpAny_take (i := 3) (v := .pointer (some ⟨B, 0, none⟩)) rfl (by kernel_rfl) (by kernel_rfl) (by kernel_rfl) (fun _ _ _ h => h) (Or.inl ⟨by rfl, fun w => by go_simp⟩) ?_
          refine wpAny_take (i := 4) (v := .pointer (some ⟨B, 2, none⟩)) rfl (by kernel_rfl) (by kernel_rfl) (by kernel_rfl) (fun _ _ _ h => h) (Or.inl ⟨by rfl, fun w => by go_simp⟩) ?_
          refine wpAny_ready (rs := [5, 7]) (by kernel_rfl) (by simp) (AllReady.cons rfl (fun K hK => ?q3a) (AllReady.cons rfl (fun K hK => ?q3b) AllReady.nil))
          case' q3a =>
            go_simp
            refine hK _ _ ?_
            clear hK K
            refine wpAny_ready (rs := [7]) (by kernel_rfl) (by simp) (AllReady.cons rfl (fun K hK => ?_) AllReady.nil)
            go_simp
            refine hK _ _ ?_
            clear hK K
          case' q3b =>
            go_simp
            refine hK _ _ ?_
            clear hK K
            refine wpAny_ready (rs := [5]) (by kernel_rfl) (by simp) (AllReady.cons rfl (fun K hK => ?_) AllReady.nil)
            go_simp
            refine hK _ _ ?_
            clear hK K
        case' q2b =>
          go_simp
          refine hK _ _ ?_
          clear hK K
          refine wpAny_ready (rs := [1]) (by kernel_rfl) (by simp) (AllReady.cons rfl (fun K hK => ?_) AllReady.nil)
          go_simp
          refine hK _ _ ?_
          clear hK K
          refine wpAny_take (i := 2) (v := .pointer (some ⟨B, 0, none⟩)) rfl (by kernel_rfl) (by kernel_rfl) (by kernel_rfl) (fun _ _ _ h => h) (Or.inl ⟨by rfl, fun w => by go_simp⟩) ?_
          refine wpAny_take (i := 3) (v := .pointer (some ⟨B, 0, none⟩)) rfl (by kernel_rfl) (by kernel_rfl) (by kernel_rfl) (fun _ _ _ h => h) (Or.inl ⟨by rfl, fun w => by go_simp⟩) ?_
          refine wpAny_take (i := 4) (v := .pointer (some ⟨B, 2, none⟩)) rfl (by kernel_rfl) (by kernel_rfl) (by kernel_rfl) (fun _ _ _ h => h) (Or.inl ⟨by rfl, fun w => by go_simp⟩) ?_
          refine wpAny_ready (rs := [5]) (by kernel_rfl) (by simp) (AllReady.cons rfl (fun K hK => ?_) AllReady.nil)
          go_simp
          refine hK _ _ ?_
          clear hK K
      case' q1b =>
        go_simp
        refine hK _ _ ?_
        clear hK K
        refine wpAny_take (i := 2) (v := .pointer (some ⟨B, 0, none⟩)) rfl (by kernel_rfl) (by kernel_rfl) (by kernel_rfl) (fun _ _ _ h => h) (Or.inl ⟨by rfl, fun w => by go_simp⟩) ?_
        refine wpAny_take (i := 3) (v := .pointer (some ⟨B, 0, none⟩)) rfl (by kernel_rfl) (by kernel_rfl) (by kernel_rfl) (fun _ _ _ h => h) (Or.inl ⟨by rfl, fun w => by go_simp⟩) ?_
        refine wpAny_take (i := 4) (v := .pointer (some ⟨B, 2, none⟩)) rfl (by kernel_rfl) (by kernel_rfl) (by kernel_rfl) (fun _ _ _ h => h) (Or.inl ⟨by rfl, fun w => by go_simp⟩) ?_
        refine wpAny_ready (rs := [0, 5, 7]) (by kernel_rfl) (by simp) (AllReady.cons rfl (fun K hK => ?q4a) (AllReady.cons rfl (fun K hK => ?q4b) (AllReady.cons rfl (fun K hK => ?q4c) AllReady.nil)))
        case' q4a =>
          go_simp
          refine hK _ _ ?_
          clear hK K
          refine wpAny_ready (rs := [5, 7]) (by kernel_rfl) (by simp) (AllReady.cons rfl (fun K hK => ?q5a) (AllReady.cons rfl (fun K hK => ?q5b) AllReady.nil))
          case' q5a =>
            go_simp
            refine hK _ _ ?_
            clear hK K
            refine wpAny_ready (rs := [7]) (by kernel_rfl) (by simp) (AllReady.cons rfl (fun K hK => ?_) AllReady.nil)
            go_simp
            refine hK _ _ ?_
            clear hK K
          case' q5b =>
            go_simp
            refine hK _ _ ?_
            clear hK K
            refine wpAny_ready (rs := [5]) (by kernel_rfl) (by simp) (AllReady.cons rfl (fun K hK => ?_) AllReady.nil)
            go_simp
            refine hK _ _ ?_
            clear hK K
        case' q4b =>
          go_simp
          refine hK _ _ ?_
          clear hK K
          refine wpAny_ready (rs := [0, 7]) (by kernel_rfl) (by simp) (AllReady.cons rfl (fun K hK => ?q6a) (AllReady.cons rfl (fun K hK => ?q6b) AllReady.nil))
          case' q6a =>
            go_simp
            refine hK _ _ ?_
            clear hK K
            refine wpAny_ready (rs := [7]) (by kernel_rfl) (by simp) (AllReady.cons rfl (fun K hK => ?_) AllReady.nil)
            go_simp
            refine hK _ _ ?_
            clear hK K
          case' q6b =>
            go_simp
            refine hK _ _ ?_
            clear hK K
            refine wpAny_ready (rs := [0, 8]) (by kernel_rfl) (by simp) (AllReady.cons rfl (fun K hK => ?q7a) (AllReady.cons rfl (fun K hK => ?q7b) AllReady.nil))
            case' q7a =>
              go_simp
              refine hK _ _ ?_
              clear hK K
            case' q7b =>
              refine step_append_lies _ rfl (.tmp 26) (.tmp 28) 39 rfl (w.heap.size + 7) 3 i0 (.int .i64 0) 1 8 Tryz.underlying39 HI.out HZ0.out HZ1.out HZ2.out rfl (by decide) sl k xs rfl HO2.out ⟨w'.heap.size, 0, none⟩ 1 1 [.int .i64 m] rfl rfl HNEWS.out HONE.out (by decide) HMAX.out HBY.out HBASE.out _ rfl ?_
              intro gb cap w1 hown hgrow _ _
              refine hK _ _ ?_
              clear hK K
              have hfar := fun b hb => far (by omega) HO.out hgrow b hb
              have c1 := (World.cell?_of_block (a := ⟨w.heap.size, 0, none⟩) (hfar w.heap.size (by omega))).trans c0
              have rr : Rd w1 B f e sl c u 3 := (hfar B (by omega)).trans R1.out
              have y2 := (rd_cell rr).2.2.1
              have v2 := rd_frozen rr 2
              have HOWN : Hid (_) := hown
              have HGROW : Hid (_) := hgrow
              clear hown hgrow hfar rr
              refine wpAny_ready (rs := [0]) (by kernel_rfl) (by simp) (AllReady.cons rfl (fun K hK => ?_) AllReady.nil)
              go_simp
              refine hK _ _ ?_
              clear hK K
              refine wpAny_take (i := 9) (v := .pointer (some ⟨B, 0, none⟩)) rfl (by kernel_rfl) (by kernel_rfl) (by kernel_rfl) (fun _ _ _ h => h) (Or.inl ⟨by rfl, fun w => by go_simp⟩) ?_
              refine wpAny_take (i := 10) (v := .pointer (some ⟨B, 0, none⟩)) rfl (by kernel_rfl) (by kernel_rfl) (by kernel_rfl) (fun _ _ _ h => h) (Or.inl ⟨by rfl, fun w => by go_simp⟩) ?_
              refine wpAny_take (i := 11) (v := .pointer (some ⟨B, 2, none⟩)) rfl (by kernel_rfl) (by kernel_rfl) (by kernel_rfl) (fun _ _ _ h => h) (Or.inl ⟨by rfl, fun w => by go_simp⟩) ?_
              refine wpAny_ready (rs := [12]) (by kernel_rfl) (by simp) (AllReady.cons rfl (fun K hK => ?_) AllReady.nil)
              go_simp
              refine hK _ _ ?_
              clear hK K
              refine wpAny_done (by kernel_rfl) ?_ _
              have hF := FIN.out gb cap w1 HOWN.out HGROW.out
              exact ⟨hF.1, Or.inl ⟨rfl, hF.2.1, hF.2.2⟩⟩
        case' q4c =>
          go_simp
          refine hK _ _ ?_
          clear hK K
          refine wpAny_ready (rs := [0, 5]) (by kernel_rfl) (by simp) (AllReady.cons rfl (fun K hK => ?q8a) (AllReady.cons rfl (fun K hK => ?q8b) AllReady.nil))
          case' q8a =>
            go_simp
            refine hK _ _ ?_
            clear hK K
            refine wpAny_ready (rs := [5]) (by kernel_rfl) (by simp) (AllReady.cons rfl (fun K hK => ?_) AllReady.nil)
            go_simp
            refine hK _ _ ?_
            clear hK K
          case' q8b =>
            go_simp
            refine hK _ _ ?_
            clear hK K
            refine wpAny_ready (rs := [0, 8]) (by kernel_rfl) (by simp) (AllReady.cons rfl (fun K hK => ?q9a) (AllReady.cons rfl (fun K hK => ?q9b) AllReady.nil))
            case' q9a =>
              go_simp
              refine hK _ _ ?_
              clear hK K
            case' q9b =>
              refine step_append_lies _ rfl (.tmp 26) (.tmp 28) 39 rfl (w.heap.size + 7) 3 i0 (.int .i64 0) 1 8 Tryz.underlying39 HI.out HZ0.out HZ1.out HZ2.out rfl (by decide) sl k xs rfl HO2.out ⟨w'.heap.size, 0, none⟩ 1 1 [.int .i64 m] rfl rfl HNEWS.out HONE.out (by decide) HMAX.out HBY.out HBASE.out _ rfl ?_
              intro gb cap w1 hown hgrow _ _
              refine hK _ _ ?_
              clear hK K
              have hfar := fun b hb => far (by omega) HO.out hgrow b hb
              have c1 := (World.cell?_of_block (a := ⟨w.heap.size, 0, none⟩) (hfar w.heap.size (by omega))).trans c0
              have rr : Rd w1 B f e sl c u 3 := (hfar B (by omega)).trans R1.out
              have y2 := (rd_cell rr).2.2.1
              have v2 := rd_frozen rr 2
              have HOWN : Hid (_) := hown
              have HGROW : Hid (_) := hgrow
              clear hown hgrow hfar rr
              refine wpAny_ready (rs := [0]) (by kernel_rfl) (by simp) (AllReady.cons rfl (fun K hK => ?_) AllReady.nil)
              go_simp
              refine hK _ _ ?_
              clear hK K
              refine wpAny_take (i := 9) (v := .pointer (some ⟨B, 0, none⟩)) rfl (by kernel_rfl) (by kernel_rfl) (by kernel_rfl) (fun _ _ _ h => h) (Or.inl ⟨by rfl, fun w => by go_simp⟩) ?_
              refine wpAny_take (i := 10) (v := .pointer (some ⟨B, 0, none⟩)) rfl (by kernel_rfl) (by kernel_rfl) (by kernel_rfl) (fun _ _ _ h => h) (Or.inl ⟨by rfl, fun w => by go_simp⟩) ?_
              refine wpAny_take (i := 11) (v := .pointer (some ⟨B, 2, none⟩)) rfl (by kernel_rfl) (by kernel_rfl) (by kernel_rfl) (fun _ _ _ h => h) (Or.inl ⟨by rfl, fun w => by go_simp⟩) ?_
              refine wpAny_ready (rs := [12]) (by kernel_rfl) (by simp) (AllReady.cons rfl (fun K hK => ?_) AllReady.nil)
              go_simp
              refine hK _ _ ?_
              clear hK K
              refine wpAny_done (by kernel_rfl) ?_ _
              have hF := FIN.out gb cap w1 HOWN.out HGROW.out
              exact ⟨hF.1, Or.inl ⟨rfl, hF.2.1, hF.2.2⟩⟩
      case' q1c =>
        go_simp
        refine hK _ _ ?_
        clear hK K
        refine wpAny_ready (rs := [0, 1]) (by kernel_rfl) (by simp) (AllReady.cons rfl (fun K hK => ?q10a) (AllReady.cons rfl (fun K hK => ?q10b) AllReady.nil))
        case' q10a =>
          go_simp
          refine hK _ _ ?_
          clear hK K
          refine wpAny_ready (rs := [1]) (by kernel_rfl) (by simp) (AllReady.cons rfl (fun K hK => ?_) AllReady.nil)
          go_simp
          refine hK _ _ ?_
          clear hK K
          refine wpAny_take (i := 2) (v := .pointer (some ⟨B, 0, none⟩)) rfl (by kernel_rfl) (by kernel_rfl) (by kernel_rfl) (fun _ _ _ h => h) (Or.inl ⟨by rfl, fun w => by go_simp⟩) ?_
          refine wpAny_take (i := 3) (v := .pointer (some ⟨B, 0, none⟩)) rfl (by kernel_rfl) (by kernel_rfl) (by kernel_rfl) (fun _ _ _ h => h) (Or.inl ⟨by rfl, fun w => by go_simp⟩) ?_
          refine wpAny_take (i := 4) (v := .pointer (some ⟨B, 2, none⟩)) rfl (by kernel_rfl) (by kernel_rfl) (by kernel_rfl) (fun _ _ _ h => h) (Or.inl ⟨by rfl, fun w => by go_simp⟩) ?_
          refine wpAny_ready (rs := [5]) (by kernel_rfl) (by simp) (AllReady.cons rfl (fun K hK => ?_) AllReady.nil)
          go_simp
          refine hK _ _ ?_
          clear hK K
        case' q10b =>
          go_simp
          refine hK _ _ ?_
          clear hK K
          refine wpAny_take (i := 2) (v := .pointer (some ⟨B, 0, none⟩)) rfl (by kernel_rfl) (by kernel_rfl) (by kernel_rfl) (fun _ _ _ h => h) (Or.inl ⟨by rfl, fun w => by go_simp⟩) ?_
          refine wpAny_take (i := 3) (v := .pointer (some ⟨B, 0, none⟩)) rfl (by kernel_rfl) (by kernel_rfl) (by kernel_rfl) (fun _ _ _ h => h) (Or.inl ⟨by rfl, fun w => by go_simp⟩) ?_
          refine wpAny_take (i := 4) (v := .pointer (some ⟨B, 2, none⟩)) rfl (by kernel_rfl) (by kernel_rfl) (by kernel_rfl) (fun _ _ _ h => h) (Or.inl ⟨by rfl, fun w => by go_simp⟩) ?_
          refine wpAny_ready (rs := [0, 5]) (by kernel_rfl) (by simp) (AllReady.cons rfl (fun K hK => ?q11a) (AllReady.cons rfl (fun K hK => ?q11b) AllReady.nil))
          case' q11a =>
            go_simp
            refine hK _ _ ?_
            clear hK K
            refine wpAny_ready (rs := [5]) (by kernel_rfl) (by simp) (AllReady.cons rfl (fun K hK => ?_) AllReady.nil)
            go_simp
            refine hK _ _ ?_
            clear hK K
          case' q11b =>
            go_simp
            refine hK _ _ ?_
            clear hK K
            refine wpAny_ready (rs := [0, 8]) (by kernel_rfl) (by simp) (AllReady.cons rfl (fun K hK => ?q12a) (AllReady.cons rfl (fun K hK => ?q12b) AllReady.nil))
            case' q12a =>
              go_simp
              refine hK _ _ ?_
              clear hK K
            case' q12b =>
              refine step_append_lies _ rfl (.tmp 26) (.tmp 28) 39 rfl (w.heap.size + 7) 3 i0 (.int .i64 0) 1 8 Tryz.underlying39 HI.out HZ0.out HZ1.out HZ2.out rfl (by decide) sl k xs rfl HO2.out ⟨w'.heap.size, 0, none⟩ 1 1 [.int .i64 m] rfl rfl HNEWS.out HONE.out (by decide) HMAX.out HBY.out HBASE.out _ rfl ?_
              intro gb cap w1 hown hgrow _ _
              refine hK _ _ ?_
              clear hK K
              have hfar := fun b hb => far (by omega) HO.out hgrow b hb
              have c1 := (World.cell?_of_block (a := ⟨w.heap.size, 0, none⟩) (hfar w.heap.size (by omega))).trans c0
              have rr : Rd w1 B f e sl c u 3 := (hfar B (by omega)).trans R1.out
              have y2 := (rd_cell rr).2.2.1
              have v2 := rd_frozen rr 2
              have HOWN : Hid (_) := hown
              have HGROW : Hid (_) := hgrow
              clear hown hgrow hfar rr
              refine wpAny_ready (rs := [0]) (by kernel_rfl) (by simp) (AllReady.cons rfl (fun K hK => ?_) AllReady.nil)
              go_simp
              refine hK _ _ ?_
              clear hK K
              refine wpAny_take (i := 9) (v := .pointer (some ⟨B, 0, none⟩)) rfl (by kernel_rfl) (by kernel_rfl) (by kernel_rfl) (fun _ _ _ h => h) (Or.inl ⟨by rfl, fun w => by go_simp⟩) ?_
              refine wpAny_take (i := 10) (v := .pointer (some ⟨B, 0, none⟩)) rfl (by kernel_rfl) (by kernel_rfl) (by kernel_rfl) (fun _ _ _ h => h) (Or.inl ⟨by rfl, fun w => by go_simp⟩) ?_
              refine wpAny_take (i := 11) (v := .pointer (some ⟨B, 2, none⟩)) rfl (by kernel_rfl) (by kernel_rfl) (by kernel_rfl) (fun _ _ _ h => h) (Or.inl ⟨by rfl, fun w => by go_simp⟩) ?_
              refine wpAny_ready (rs := [12]) (by kernel_rfl) (by simp) (AllReady.cons rfl (fun K hK => ?_) AllReady.nil)
              go_simp
              refine hK _ _ ?_
              clear hK K
              refine wpAny_done (by kernel_rfl) ?_ _
              have hF := FIN.out gb cap w1 HOWN.out HGROW.out
              exact ⟨hF.1, Or.inl ⟨rfl, hF.2.1, hF.2.2⟩⟩
      all_goals
        refine wpAny_ready (rs := [8]) (by kernel_rfl) (by simp) (AllReady.cons rfl (fun K hK => ?_) AllReady.nil)
        refine step_append_lies _ rfl (.tmp 26) (.tmp 28) 39 rfl (w.heap.size + 7) 3 i0 (.int .i64 0) 1 8 Tryz.underlying39 HI.out HZ0.out HZ1.out HZ2.out rfl (by decide) sl k xs rfl HO2.out ⟨w'.heap.size, 0, none⟩ 1 1 [.int .i64 m] rfl rfl HNEWS.out HONE.out (by decide) HMAX.out HBY.out HBASE.out _ rfl ?_
        intro gb cap w1 hown hgrow _ _
        refine hK _ _ ?_
        clear hK K
        have hfar := fun b hb => far (by omega) HO.out hgrow b hb
        have c1 := (World.cell?_of_block (a := ⟨w.heap.size, 0, none⟩) (hfar w.heap.size (by omega))).trans c0
        have rr : Rd w1 B f e sl c u 3 := (hfar B (by omega)).trans R1.out
        have y2 := (rd_cell rr).2.2.1
        have v2 := rd_frozen rr 2
        have HOWN : Hid (_) := hown
        have HGROW : Hid (_) := hgrow
        clear hown hgrow hfar rr
        refine wpAny_take (i := 9) (v := .pointer (some ⟨B, 0, none⟩)) rfl (by kernel_rfl) (by kernel_rfl) (by kernel_rfl) (fun _ _ _ h => h) (Or.inl ⟨by rfl, fun w => by go_simp⟩) ?_
        refine wpAny_take (i := 10) (v := .pointer (some ⟨B, 0, none⟩)) rfl (by kernel_rfl) (by kernel_rfl) (by kernel_rfl) (fun _ _ _ h => h) (Or.inl ⟨by rfl, fun w => by go_simp⟩) ?_
        refine wpAny_take (i := 11) (v := .pointer (some ⟨B, 2, none⟩)) rfl (by kernel_rfl) (by kernel_rfl) (by kernel_rfl) (fun _ _ _ h => h) (Or.inl ⟨by rfl, fun w => by go_simp⟩) ?_
        refine wpAny_ready (rs := [12]) (by kernel_rfl) (by simp) (AllReady.cons rfl (fun K hK => ?_) AllReady.nil)
        go_simp
        refine hK _ _ ?_
        clear hK K
        refine wpAny_done (by kernel_rfl) ?_ _
        have hF := FIN.out gb cap w1 HOWN.out HGROW.out
        exact ⟨hF.1, Or.inl ⟨rfl, hF.2.1, hF.2.2⟩⟩
end Go.Proofs.YtekminpoiokgfaaGreatDoor
