/- Package pack's Delta. -/
import Derived.Test.YtbocknocmggcpaaGreatDoorPkY
namespace Go.Proofs.YtbocknocmggcpaaGreatDoor
open Go Go.RowKit Go.Shelf Go.Maps Cal Pk
attribute [local go_sem] Oper.semAt_some

/-- a round whose assignment makes a block -/
theorem yieldAt_mkP {P : Program} {n l : Nat} {r : Loop} {x : Array Value} {W W1 : World} {R : Ending → World → Prop} {tmps : Array Value} {ps : Array Tmp} {assign body : Code} (hR : IsRec r tmps ps assign body) (a₁ : Act)
    (hl : W.heap[l]? = some (.loop r)) (hl1 : W1.heap[l]? = some (.loop r)) (hs : x.size = ps.size)
    (hassign : ∀ K : Act → World → Prop, K a₁ W1 → assign.wpIn (Fence.wide.inRound l) n P (Exit.then K (fun _ _ _ => False)) { tmps := (ps.zip x).foldl (fun t (p, v) => t.setIfInBounds p v) tmps, defers := [] } W)
    (hbody : body.wpIn (Fence.wide.inRound l) n P (rnd l r R) a₁ (W1.putObj l (.loop { r with state := .busy }))) :
    YieldAt Fence.wide n P l x W R := by
  obtain ⟨hr, _, rfl, rfl, rfl, rfl⟩ := hR
  refine ⟨r.fn, _, r.assign, r.body, run_yield hl hs, roundIn_of_wpIn trivial (hassign _ ⟨_, run_beginRound hl1 hr, wpIn_mono hbody ?_⟩)⟩
  intro e a W3 h
  cases e with
  | normal => exact ⟨_, _, run_endRound none h.1, h.2⟩
  | ret => exact ⟨_, _, run_endRound (some .ret) h.1, h.2⟩
  | exit id => exact h.elim
  | goto t => exact h.elim
  | panic ch => exact h.elim
  | outgrown => exact h.elim
theorem pwriteK (w0 : World) (acc : List UInt8) (x : ByteArray) (W : World) (h : PB w0 acc W) (hl : acc.length + x.size ≤ 140737488355328) :
    Calls Tryz.prog 19 #[.pointer (some ⟨w0.heap.size, 0, none⟩), .string x] W fun r w' => r = .returned (.tuple #[.int .i64 x.size, .nilIface]) ∧ PB w0 (acc ++ x.data.toList) w' ∧ Lib.OthersKept 5 (some w0.heap.size) W w' ∧ W.heap.size ≤ w'.heap.size := by
  obtain ⟨h1, h2, h3⟩ := h
  refine Calls.mono (Any.Builder_WriteString_k Tryz.plys166 Tryz.Builder_Extra_pl w0.heap.size w0.heap.size (Lib.byteCells acc) x W h3 (by rw [Lib.byteCells_length]; exact hl) (by omega)) ?_
  rintro r w' ⟨rfl, k1, k2, k3⟩
  refine ⟨rfl, ⟨pl_both h1 k2, Nat.lt_of_lt_of_le h2 k2.size, .inr ?_⟩, k3, k2.size⟩
  rw [Lib.byteCells_append, ← Lib.strCells_eq]
  exact k1
theorem PlcAt.far {lo mb n : Nat} {W W' : World} {L : ByteArray → List Nat} (h : PlcAt lo W mb n L) (hs : W.heap.size ≤ W'.heap.size) (hm : W'.heap[mb]? = W.heap[mb]?) (hk : ∀ (k : Nat) (c : Array Value), lo ≤ k → W.heap[k]? = some (.cells c 3 (0, 0)) → W'.heap[k]? = W.heap[k]?) : PlcAt lo W' mb n L := by
  obtain ⟨D, vf, ⟨es, clock, hb, F, hs2, rfl⟩, h3, h4, h5⟩ := h.ex
  refine ⟨h.hm, Nat.le_trans h.le hs, _, vf, ⟨es, clock, hm.trans hb, F, hs2, rfl⟩, h3, fun s => ⟨(h4 s).1, ?_⟩, h5⟩
  rcases (h4 s).2 with h2 | ⟨g, cap, cur, hv, hg, hh, r⟩
  · exact .inl h2
  · exact .inr ⟨g, cap, cur, hv, hg, (hk g cur hg hh).trans hh, r⟩
theorem PlcAt.isMap {lo mb n : Nat} {W : World} {L : ByteArray → List Nat} (h : PlcAt lo W mb n L) : ∃ es clock, W.heap[mb]? = some (.map es clock) := by
  obtain ⟨D, vf, ⟨es, clock, hb, _⟩, _⟩ := h.ex
  exact ⟨es, clock, hb⟩

/-- what Delta's rounds leave -/
structure DJ (w W : World) (rec : Loop) (a o : ByteArray) (lo mb nn Bb Bo dB lB : Nat) (T : List UInt8) (rest : List Opq) : Prop where
  acc : ∃ acc, PB w acc W ∧ acc ++ rest.flatMap opT = T
  bb : W.heap[Bb]? = some (.cells #[.string a, .map (some mb)] 55 (0, 0))
  bo : W.heap[Bo]? = some (.cells #[.string o] 9 (0, 0))
  d : W.heap[dB]? = some (.deferred (some []))
  l : W.heap[lB]? = some (.loop rec)
  pl : PlcAt lo W mb nn (plcK a.data.toList (a.size / 8))
theorem DJ.step {w W W' : World} {rec : Loop} {a o : ByteArray} {lo mb nn Bb Bo dB lB : Nat} {T : List UInt8} {rest : List Opq} (h : DJ w W rec a o lo mb nn Bb Bo dB lB T rest) (hb : Below W.heap.size W W') : DJ w W' rec a o lo mb nn Bb Bo dB lB T rest := by
  obtain ⟨acc, h1, h2⟩ := h.acc
  have k : ∀ (b : Nat) (x : Obj), W.heap[b]? = some x → W'.heap[b]? = some x := fun b x hx => (hb.block b (Array.getElem?_eq_some_iff.1 hx).1).trans hx
  exact ⟨⟨acc, h1.step hb, h2⟩, k _ _ h.bb, k _ _ h.bo, k _ _ h.d, k _ _ h.l, h.pl.step hb⟩

theorem pstringK (w0 : World) (acc : List UInt8) (W : World) (h : PB w0 acc W) :
    Calls Tryz.prog 23 #[.pointer (some ⟨w0.heap.size, 0, none⟩)] W fun r w' => r = .returned (.string ⟨acc.toArray⟩) ∧ Below w0.heap.size w0 w' ∧ Lib.OthersKept 5 (some w0.heap.size) W w' ∧ W.heap.size ≤ w'.heap.size := by
  obtain ⟨h1, h2, h3⟩ := h
  refine Calls.mono (Any.Builder_String_any_k Tryz.plys169 Tryz.Builder_Extra_pl w0.heap.size w0.heap.size acc W h3 (by omega)) ?_
  rintro r w' ⟨rfl, k1, k2, k3⟩
  exact ⟨rfl, pl_both h1 k2, k3, k2.size⟩
theorem PB.blk {w0 W : World} {acc : List UInt8} (h : PB w0 acc W) : ∃ c, W.heap[w0.heap.size]? = some (.cells c 50 (0, 0)) := by
  rcases h.2.2 with ⟨_, v, h2, _⟩ | ⟨_, v, h2, _⟩ <;> exact ⟨_, h2⟩
theorem PB.grown {w0 W W' : World} {acc : List UInt8} {L : Nat} (h : PB w0 acc W) (hg : W.grownBy W' (some L)) (hL : ∃ r, W.heap[L]? = some (.loop r)) (hge : w0.heap.size ≤ L) : PB w0 acc W' := by
  obtain ⟨r, hr⟩ := hL
  obtain ⟨c, hc⟩ := h.blk
  have hne : w0.heap.size ≠ L := fun e => by rw [e, hr] at hc; cases hc
  have key : ∀ p, Lib.BuilderAtF 50 5 w0.heap.size w0.heap.size p (Lib.byteCells acc) W → Lib.BuilderAtF 50 5 w0.heap.size w0.heap.size p (Lib.byteCells acc) W' := fun p ⟨h1, v, h2, h3, h4⟩ => ⟨h1, v, (hg.block _ (Array.getElem?_eq_some_iff.1 h2).1 (fun q => hne (Option.some.inj q))).trans h2, h3.kept hg (by
    cases hv : v.ownBlock with
    | none => exact .inl rfl
    | some g =>
      refine .inr (fun z => ?_)
      rcases h3.2 with ⟨e1, _⟩ | ⟨g', cap, cur, fz, e1, _, hh, _⟩
      · rw [e1] at hv; cases hv
      · rw [e1] at hv
        have e2 : g' = g := Option.some.inj hv
        have e3 : g = L := Option.some.inj z
        rw [e2, e3, hr] at hh
        cases hh), h4⟩
  exact ⟨⟨hg.os.trans h.1.os, hg.tape.trans h.1.tape, hg.output.trans h.1.output, Nat.le_trans h.1.size hg.size, fun k hk => (hg.block k (Nat.lt_of_lt_of_le hk h.1.size) (fun q => by have := Option.some.inj q; omega)).trans (h.1.block k hk)⟩, Nat.lt_of_lt_of_le h.2.1 hg.size, h.2.2.imp (key _) (key _)⟩
theorem opL_count (a b : List UInt8) (f made i : Nat) : (opL a b f made i).length ≤ 2 * f + 1 := by
  induction f generalizing made i with
  | zero => unfold opL; split <;> simp
  | succ f ih =>
    unfold opL
    split
    · split
      · have := ih ((lng a b made i).1 + (lng a b made i).2.2) ((lng a b made i).1 + (lng a b made i).2.2)
        rw [List.length_append, List.length_cons]
        split <;> simp <;> omega
      · have := ih made (i + 1); omega
    · split <;> simp
theorem opT_len (o : Opq) (h : OpOk o) : (opT o).length ≤ 1000020 := by
  unfold opT
  rcases h with ⟨h1, h2, _⟩ | ⟨h1, h2, h3, h4, h5⟩
  · rw [if_pos h1]
    have := itoa_len (o.1.length : Int) (by omega) (by omega)
    unfold ownT
    simp only [List.length_append, List.length_cons, List.length_nil]
    omega
  · rw [if_neg (fun q => q h1)]
    have l1 := itoa_len o.2.1 h2 h3
    have l2 := itoa_len o.2.2 (by omega) h5
    simp only [List.length_append, List.length_cons, List.length_nil]
    omega
theorem flat_len (L : List Opq) (h : ∀ o ∈ L, OpOk o) : (L.flatMap opT).length ≤ L.length * 1000020 := by
  induction L with
  | nil => simp
  | cons o L ih =>
    have h1 := opT_len o (h o List.mem_cons_self)
    have h2 := ih (fun x hx => h x (List.mem_cons_of_mem _ hx))
    rw [List.flatMap_cons, List.length_append, List.length_cons, Nat.add_mul]
    omega
theorem dlT_len (a b : List UInt8) (ha : a.length ≤ 10000) (hb : b.length ≤ 10000) : (dlT a b).length ≤ 30000000000 := by
  unfold dlT
  have h1 := flat_len _ (opL_ok a b (by omega) (by omega) (b.length + 1) 0 0 (Nat.le_refl _) (Nat.zero_le _)).1
  have h2 := opL_count a b (b.length + 1) 0 0
  omega

set_option maxHeartbeats 4000000 in
set_option maxRecDepth 100000 in
theorem delta_any (a o : ByteArray) (w : World) (ht : Tab w) (ha : a.size ≤ 10000) (ho : o.size ≤ 10000) :
    Calls Tryz.prog 7 #[.string a, .string o] w fun r w' => r = .returned (.string (bs (dl a.data.toList o.data.toList))) ∧ Below w.heap.size w w' := by
  have hA := below_alloc w (.cells #[.pointer none, .slice none 0 0] 50)
  have PB0 : Hid (PB w [] (w.alloc (.cells #[.pointer none, .slice none 0 0] 50))) := PB.new w
  have hz : (w.alloc (.cells #[.pointer none, .slice none 0 0] 50)).heap.size = w.heap.size + 1 := World.size_alloc _ _
  have BO1 : Hid (∀ W, W.heap.size = w.heap.size + 1 → Calls Tryz.prog 17 #[.string a] W fun r w' => r = .returned (.agg #[.string a, .map (some (w.heap.size + 2))]) ∧ (∃ n, PlcAt (w.heap.size + 7) w' (w.heap.size + 2) n (plcK a.data.toList (a.size / 8))) ∧ Below W.heap.size W w') := fun W hW => by
    have := blocksOf_any a W (by omega)
    rw [hW] at this
    refine Calls.mono this ?_
    rintro r w' ⟨q1, ⟨n, _, q2⟩, q3⟩
    rw [← hW] at q3
    exact ⟨q1, ⟨n, q2⟩, q3⟩
  have OP1 : Hid (∀ mb W, _) := fun mb W => blOps_any a o mb W
  have HT : Hid (Tab w) := ht
  clear ht
  obtain ⟨R, hR⟩ : ∃ R, dl a.data.toList o.data.toList = R := ⟨_, rfl⟩
  rw [hR]
  have HR : Hid (R = if (ownT o.data.toList).length < (dlT a.data.toList o.data.toList).length then ownT o.data.toList else dlT a.data.toList o.data.toList) := hR.symm
  clear hR
  refine (callsIn_wide (n := 16)).1 ?_
  refine callsIn_of_wp_marks Tryz.func7 rfl trivial ?_ rfl
  simp only [Tryz.ntmps7, List.size_toArray, List.length_cons, List.length_nil, Nat.reduceAdd, Nat.reduceSub, Array.replicate_succ, Array.replicate_zero, List.push_toArray, List.append_toArray, List.nil_append, List.cons_append]
  gi_wp2_with (first
    | (refine ⟨trivial, ?_⟩; gi_at_call 17; refine (callsIn_wide.2 (BO1.out _ (World.size_alloc _ _))).mono ?_; rintro r w2 ⟨rfl, ⟨nn, hpl⟩, hb2⟩)
    | (refine ⟨trivial, ?_⟩; gi_at_call 18; refine (callsIn_wide.2 (OP1.out _ _)).mono ?_; rintro r w' ⟨rfl, rfl⟩))
  have la : a.data.toList.length = a.size := (Lib.size_eq a).symm
  have lo' : o.data.toList.length = o.size := (Lib.size_eq o).symm
  have hTl := dlT_len a.data.toList o.data.toList (by omega) (by omega)
  have hT0 : dlT a.data.toList o.data.toList = (opL a.data.toList o.data.toList (o.size + 1) 0 0).flatMap opT := by unfold dlT; rw [lo']
  have OWN : Hid (∀ W, Tab W → Calls Tryz.prog 21 #[.string o] W fun r w' => r = .returned (.string (bs (ownT o.data.toList))) ∧ Below W.heap.size W w') := fun W hW => by
    have := ownText_any o.data.toList W hW (by omega)
    rw [show bs o.data.toList = o from pl_ext (bs_data _)] at this
    exact this
  generalize dlT a.data.toList o.data.toList = T at hTl hT0 HR
  clear BO1 OP1
  have hsz2 : w.heap.size + 1 ≤ w2.heap.size := by have := hb2.size; omega
  have PB2 : Hid (PB w [] w2) := PB0.out.step hb2
  have e1 := below_alloc w2 (.cells #[.string a, .map (some (w.heap.size + 2))] 55)
  have e2 := below_alloc (w2.alloc (.cells #[.string a, .map (some (w.heap.size + 2))] 55)) (.cells #[.string o] 9)
  have z1 : (w2.alloc (.cells #[.string a, .map (some (w.heap.size + 2))] 55)).heap.size = w2.heap.size + 1 := World.size_alloc _ _
  have z2 : ((w2.alloc (.cells #[.string a, .map (some (w.heap.size + 2))] 55)).alloc (.cells #[.string o] 9)).heap.size = w2.heap.size + 2 := by rw [World.size_alloc, z1]
  have kb : ((w2.alloc (.cells #[.string a, .map (some (w.heap.size + 2))] 55)).alloc (.cells #[.string o] 9)).heap[w2.heap.size]? = some (.cells #[.string a, .map (some (w.heap.size + 2))] 55 (0, 0)) := block_alloc _ (block_at _ rfl)
  have ko : ((w2.alloc (.cells #[.string a, .map (some (w.heap.size + 2))] 55)).alloc (.cells #[.string o] 9)).heap[w2.heap.size + 1]? = some (.cells #[.string o] 9 (0, 0)) := block_at _ z1
  have hb23 := below_then e1 e2
  have PB3 : Hid (PB w [] ((w2.alloc (.cells #[.string a, .map (some (w.heap.size + 2))] 55)).alloc (.cells #[.string o] 9))) := PB2.out.step hb23
  have PL3 : Hid (PlcAt (w.heap.size + 7) ((w2.alloc (.cells #[.string a, .map (some (w.heap.size + 2))] 55)).alloc (.cells #[.string o] 9)) (w.heap.size + 2) nn (plcK a.data.toList (a.size / 8))) := hpl.step hb23
  generalize (w2.alloc (.cells #[.string a, .map (some (w.heap.size + 2))] 55)).alloc (.cells #[.string o] 9) = W3 at z2 kb ko PB3 PL3
  generalize w2.heap.size = B at hsz2 z2 kb ko
  clear e1 e2 z1 hb23 PB2 PB0 hpl hb2 hA hz
  refine rangeFunc_of rfl (enters_of Tryz.func44 (by kernel_rfl) rfl) (fun r0 hr0 => ?_)
  have hl5 : W3.heap.size + 1 = B + 3 := by omega
  rw [hl5]
  refine (ops_iter 15 (B + 3) (B + 1) B (w.heap.size + 7) (w.heap.size + 2) nn a o (fun r W => DJ w W r0 a o (w.heap.size + 7) (w.heap.size + 2) nn B (B + 1) (B + 2) (B + 3) T r) (by omega) (by omega) (by omega) ?hB ?hS ?hY _ ?h0).mono ?post
  case hB =>
    intro r W q
    obtain ⟨acc, hp, _⟩ := q.acc
    exact ⟨blk1 q.bo, (blk2 q.bb).1, (blk2 q.bb).2, q.pl, HT.out.step hp.1⟩
  case hS =>
    intro r W W' q hb
    exact q.step hb
  case h0 =>
    have hb := below_then (below_alloc W3 (.deferred (some []))) (below_alloc _ (.loop r0))
    have y1 : (W3.alloc (.deferred (some []))).heap.size = B + 3 := by rw [World.size_alloc, z2]
    refine ⟨⟨[], PB3.out.step hb, by rw [hT0]; rfl⟩, (hb.block _ (by omega)).trans kb, (hb.block _ (by omega)).trans ko, block_alloc _ (block_at _ z2), block_at _ y1, PL3.out.step hb⟩
  case hY =>
    intro x r W hok q
    obtain ⟨acc, hpb, hT⟩ := q.acc
    have hal : acc.length ≤ 30000000000 := by
      have := congrArg List.length hT
      rw [List.length_append] at this
      omega
    have hxl := opT_len x hok
    unfold opV
    have hA := below_alloc W (.cells #[.string (bs x.1), .int .i64 x.2.1, .int .i64 x.2.2] 59)
    have hl1 : (W.alloc (.cells #[.string (bs x.1), .int .i64 x.2.1, .int .i64 x.2.2] 59)).heap[B + 3]? = some (.loop r0) := block_alloc _ q.l
    have hWl : B + 3 < W.heap.size := (Array.getElem?_eq_some_iff.1 q.l).1
    have hgb := grownBy_putObj' (W.alloc (.cells #[.string (bs x.1), .int .i64 x.2.1, .int .i64 x.2.2] 59)) (B + 3) (.loop { r0 with state := .busy })
    have P : ∀ b, b < W.heap.size → b ≠ B + 3 → ((W.alloc (.cells #[.string (bs x.1), .int .i64 x.2.1, .int .i64 x.2.2] 59)).putObj (B + 3) (.loop { r0 with state := .busy })).heap[b]? = W.heap[b]? := fun b hb hne => (World.putObj_heap_other hne).trans (hA.block b hb)
    have kc : ((W.alloc (.cells #[.string (bs x.1), .int .i64 x.2.1, .int .i64 x.2.2] 59)).putObj (B + 3) (.loop { r0 with state := .busy })).heap[W.heap.size]? = some (.cells #[.string (bs x.1), .int .i64 x.2.1, .int .i64 x.2.2] 59 (0, 0)) := (World.putObj_heap_other (by omega)).trans (block_at _ rfl)
    have lb : ((W.alloc (.cells #[.string (bs x.1), .int .i64 x.2.1, .int .i64 x.2.2] 59)).putObj (B + 3) (.loop { r0 with state := .busy })).heap[B + 3]? = some (.loop { r0 with state := .busy }) := World.putObj_heap_same (Array.getElem?_eq_some_iff.1 hl1).1
    have pbB : PB w acc ((W.alloc (.cells #[.string (bs x.1), .int .i64 x.2.1, .int .i64 x.2.2] 59)).putObj (B + 3) (.loop { r0 with state := .busy })) := (hpb.step hA).grown hgb ⟨_, hl1⟩ (by omega)
    have szb : W.heap.size ≤ ((W.alloc (.cells #[.string (bs x.1), .int .i64 x.2.1, .int .i64 x.2.2] 59)).putObj (B + 3) (.loop { r0 with state := .busy })).heap.size := Nat.le_trans hA.size hgb.size
    refine yieldAt_mkP hr0 ({ tmps := #[.string a, .string o, undef, undef, .string ⟨#[]⟩, .pointer (some ⟨w.heap.size, 0, none⟩), .pointer (some ⟨W.heap.size, 0, none⟩), undef, .string a, .agg #[.string a, .map (some (w.heap.size + 2))], .string o, .func (.func 44) #[] #[.pointer (some ⟨B + 1, 0, none⟩), .pointer (some ⟨B, 0, none⟩)], .agg #[.string (bs x.1), .int .i64 x.2.1, .int .i64 x.2.2], undef, undef, undef, undef, undef, undef, undef, undef, undef, undef, undef], defers := [] }) q.l hl1 rfl ?assign ?body
    case assign =>
      intro K hK
      gi_wp2
      exact hK
    case body =>
      generalize (W.alloc (.cells #[.string (bs x.1), .int .i64 x.2.1, .int .i64 x.2.2] 59)).putObj (B + 3) (.loop { r0 with state := .busy }) = Wb at hgb P kc lb pbB szb ⊢
      have OT : Hid (_) := opText_any x Wb (HT.out.step pbB.1) hok
      unfold opV at OT
      have HFIN : Hid (∀ w4 w5, Below Wb.heap.size Wb w4 → PB w (acc ++ opT x) w5 → Lib.OthersKept 5 (some w.heap.size) w4 w5 → w4.heap.size ≤ w5.heap.size → w5.heap[B + 3]? = some (.loop { r0 with state := .busy }) ∧ DJ w (w5.putObj (B + 3) (.loop { r0 with state := .ready, pending := none })) r0 a o (w.heap.size + 7) (w.heap.size + 2) nn B (B + 1) (B + 2) (B + 3) T r ∧ KeepP W (w5.putObj (B + 3) (.loop { r0 with state := .ready, pending := none }))) := by
        intro w4 w5 hb4 hp5 hk5 hz5
        obtain ⟨cb, hcb⟩ := hpb.blk
        have keep5 : ∀ (k : Nat) (ob : Obj), Wb.heap[k]? = some ob → k ≠ w.heap.size → (∀ c fz, ob ≠ .cells c 5 fz) → w5.heap[k]? = some ob := fun k ob h1 h2 h3 => hk5 k ob ((hb4.block k (Array.getElem?_eq_some_iff.1 h1).1).trans h1) (fun z => h2 (Option.some.inj z)) h3
        have l5 : w5.heap[B + 3]? = some (.loop { r0 with state := .busy }) := keep5 _ _ lb (by omega) (by intro c fz h; cases h)
        have gP := grownBy_putObj' w5 (B + 3) (.loop { r0 with state := .ready, pending := none })
        have keep : ∀ (k : Nat) (ob : Obj), W.heap[k]? = some ob → k ≠ B + 3 → k ≠ w.heap.size → (∀ c fz, ob ≠ .cells c 5 fz) → (w5.putObj (B + 3) (.loop { r0 with state := .ready, pending := none })).heap[k]? = some ob := fun k ob h1 h2 h3 h4 => (World.putObj_heap_other h2).trans (keep5 k ob ((P k (Array.getElem?_eq_some_iff.1 h1).1 h2).trans h1) h3 h4)
        have nl : ∀ (k : Nat) (c : Array Value) (T : TypeId) (f : Nat × Nat), W.heap[k]? = some (.cells c T f) → k ≠ B + 3 := fun k c T f h e => by rw [e, q.l] at h; cases h
        have nb : ∀ (k : Nat) (c : Array Value) (T : TypeId) (f : Nat × Nat), W.heap[k]? = some (.cells c T f) → T ≠ 50 → k ≠ w.heap.size := fun k c T f h hT e => by rw [e, hcb] at h; cases h; exact hT rfl
        have ct : ∀ (c : Array Value) (T : TypeId) (f : Nat × Nat), T ≠ 5 → ∀ c' fz, (Obj.cells c T f) ≠ .cells c' 5 fz := fun c T f hT c' fz h => by cases h; exact hT rfl
        have hzz : W.heap.size ≤ (w5.putObj (B + 3) (.loop { r0 with state := .ready, pending := none })).heap.size := Nat.le_trans szb (Nat.le_trans hb4.size (Nat.le_trans hz5 gP.size))
        refine ⟨l5, ⟨⟨acc ++ opT x, hp5.grown gP ⟨_, l5⟩ (by omega), ?_⟩, keep _ _ q.bb (by omega) (by omega) (ct _ _ _ (by decide)), keep _ _ q.bo (by omega) (by omega) (ct _ _ _ (by decide)), keep _ _ q.d (by omega) (by omega) (by intro c fz h; cases h), ?_, ?_⟩, fun b cs h => keep b _ h (nl _ _ _ _ h) (nb _ _ _ _ h (by decide)) (ct _ _ _ (by decide))⟩
        · rw [← hT, List.flatMap_cons, List.append_assoc]
        · rw [hr0.again]; exact World.putObj_heap_same (Array.getElem?_eq_some_iff.1 l5).1
        · obtain ⟨es, clock, hm⟩ := q.pl.isMap
          refine q.pl.far hzz ((keep _ _ hm (fun e => by rw [e, q.l] at hm; cases hm) (by omega) (by intro c fz h; cases h)).trans hm.symm) (fun k c hk h => (keep k _ h (nl _ _ _ _ h) (by omega) (ct _ _ _ (by decide))).trans h.symm)
      have WR : Hid (∀ w4, Below Wb.heap.size Wb w4 → Calls Tryz.prog 19 #[.pointer (some ⟨w.heap.size, 0, none⟩), .string (bs (opT x))] w4 fun r w' => (∃ v, r = .returned (.tuple #[v, .nilIface])) ∧ PB w (acc ++ opT x) w' ∧ Lib.OthersKept 5 (some w.heap.size) w4 w' ∧ w4.heap.size ≤ w'.heap.size) := fun w4 hb4 => by
        refine Calls.mono (pwriteK w acc (bs (opT x)) w4 (pbB.step hb4) (by rw [Lib.size_eq, bs_data]; omega)) ?_
        rintro r w' ⟨q1, q2, q3, q4⟩
        rw [bs_data] at q2
        exact ⟨⟨_, q1⟩, q2, q3, q4⟩
      obtain ⟨c0, c1, c2⟩ := p3_cells kc
      clear q hpb hT hal hxl hA hl1 hWl hgb P kc lb pbB szb z2 kb ko PB3 PL3 hTl hT0 OWN
      generalize bs (opT x) = tx at OT WR
      gi_wp2_with (first
        | (refine ⟨trivial, ?_⟩; gi_at_call 20; refine (CallsIn.inRound _ (callsIn_wide.2 OT.out)).mono ?_; rintro r w4 ⟨rfl, hb4⟩)
        | (refine ⟨trivial, ?_⟩; gi_at_call 19; refine (CallsIn.inRound _ (callsIn_wide.2 (WR.out w4 hb4))).mono ?_; rintro r w5 ⟨⟨v5, rfl⟩, hp5, hk5, hz5⟩))
      obtain ⟨y1, y2, y3⟩ := HFIN.out w4 w5 hb4 hp5 hk5 hz5
      exact ⟨y1, rfl, y2, y3⟩
  case post =>
    rintro e2 W4 ⟨hv, q⟩
    refine ⟨hv, _, q.l, by rw [hr0.state]; decide, .inl ⟨hr0.pending, ?_⟩⟩
    obtain ⟨acc, hpb, hT⟩ := q.acc
    rw [List.flatMap_nil, List.append_nil] at hT
    subst hT
    have gP := grownBy_putObj' W4 (B + 3) (.loop { r0 with state := .exhausted })
    have y1 := hpb.grown gP ⟨_, q.l⟩ (by omega)
    have yd : (W4.putObj (B + 3) (.loop { r0 with state := .exhausted })).heap[B + 2]? = some (.deferred (some [])) := (World.putObj_heap_other (by omega)).trans q.d
    rw [z2]
    clear q hpb gP
    generalize W4.putObj (B + 3) (.loop { r0 with state := .exhausted }) = W5 at y1 yd
    have OW : Hid (_) := OWN.out W5 (HT.out.step y1.1)
    have os : (bs (ownT o.data.toList)).size = (ownT o.data.toList).length := by rw [Lib.size_eq, bs_data]
    have ol : (ownT o.data.toList).length ≤ 1000020 := by
      have := itoa_len (o.data.toList.length : Int) (by omega) (by omega)
      unfold ownT
      simp only [List.length_append, List.length_cons, List.length_nil]
      omega
    have HLN : Hid (∀ W6, Below W5.heap.size W5 W6 → _) := fun W6 hb6 => plen w acc W6 (y1.step hb6)
    have HST : Hid (∀ W6, Below W5.heap.size W5 W6 → _) := fun W6 hb6 => pstringK w acc W6 (y1.step hb6)
    have HBD : Hid (∀ W6, Below W5.heap.size W5 W6 → W6.heap[B + 2]? = some (.deferred (some [])) ∧ Below w.heap.size w W6) := fun W6 hb6 => ⟨(hb6.block _ (Array.getElem?_eq_some_iff.1 yd).1).trans yd, below_then y1.1 hb6⟩
    have HFX : Hid (∀ W6, W6.heap[B + 2]? = some (.deferred (some [])) → Below w.heap.size w W6 → Below w.heap.size w (W6.putObj (B + 2) (.deferred none))) := fun W6 hd hb => by
      have gD := grownBy_putObj' W6 (B + 2) (.deferred none)
      exact ⟨gD.os.trans hb.os, gD.tape.trans hb.tape, gD.output.trans hb.output, Nat.le_trans hb.size gD.size, fun k hk => (World.putObj_heap_other (by omega)).trans (hb.block k hk)⟩
    have hTi : (acc.length : Int) ≤ 30000000000 := by omega
    clear y1 yd OWN kb ko PB3 PL3 hT0
    by_cases hc : (ownT o.data.toList).length < acc.length
    · have HRR : Hid (R = ownT o.data.toList) := by show _ = _; rw [HR.out, if_pos hc]
      have hc' : ((bs (ownT o.data.toList)).size : Int) < (acc.length : Int) := by omega
      clear HR hc os
      generalize hgo : bs (ownT o.data.toList) = so at OW hc'
      have HGO : Hid (bs (ownT o.data.toList) = so) := hgo
      clear hgo
      generalize acc.length = na at HLN hc' hTi hTl
      gi_wp2_with (first
        | (refine ⟨trivial, ?_⟩; gi_at_call 21; refine (callsIn_wide.2 OW.out).mono ?_; rintro r w6 ⟨rfl, hb6⟩)
        | (refine ⟨trivial, ?_⟩; gi_at_call 22; refine (callsIn_wide.2 (HLN.out _ hb6)).mono ?_; rintro r w7 ⟨rfl, hq⟩; subst hq))
      obtain ⟨fd, fb⟩ := HBD.out _ hb6
      refine ⟨by simp, .inl ⟨_, _, rfl, run_takeDeferred fd, ?_⟩⟩
      refine ⟨.string so, ?_, by rw [HRR.out, HGO.out], HFX.out _ fd fb⟩
      simp [results, Tryz.f7, go_sem]
    · have HRR : Hid (R = acc) := by show _ = _; rw [HR.out, if_neg hc]
      have hc' : (acc.length : Int) ≤ ((bs (ownT o.data.toList)).size : Int) := by omega
      clear HR hc os
      generalize bs (ownT o.data.toList) = so at OW hc'
      generalize acc.length = na at HLN hc' hTi hTl
      gi_wp2_with (first
        | (refine ⟨trivial, ?_⟩; gi_at_call 21; refine (callsIn_wide.2 OW.out).mono ?_; rintro r w6 ⟨rfl, hb6⟩)
        | (refine ⟨trivial, ?_⟩; gi_at_call 22; refine (callsIn_wide.2 (HLN.out _ hb6)).mono ?_; rintro r w7 ⟨rfl, hq⟩; subst hq)
        | (refine ⟨trivial, ?_⟩; gi_at_call 23; refine (callsIn_wide.2 (HST.out _ hb6)).mono ?_; rintro r w8 ⟨rfl, hb8, hk8, hz8⟩))
      obtain ⟨fd, fb⟩ := HBD.out _ hb6
      have fd8 := hk8 _ _ fd (by intro z; have := Option.some.inj z; omega) (by intro c fz h; cases h)
      refine ⟨by simp, .inl ⟨_, _, rfl, run_takeDeferred fd8, ?_⟩⟩
      refine ⟨.string ⟨acc.toArray⟩, ?_, by rw [HRR.out]; rfl, HFX.out _ fd8 hb8⟩
      simp [results, Tryz.f7, go_sem]
end Go.Proofs.YtbocknocmggcpaaGreatDoor
