/- The closed commit: its text, and what is read of it. -/
import Derived.Test.YtkjfbeempmfipaaGreatDoorCmLP
import Derived.Test.YtkjfbeempmfipaaGreatDoorJtAE
import Derived.Shelf.SlMaps.Clone
import Derived.Deep.RegionWith
namespace Go.Proofs.YtkjfbeempmfipaaGreatDoor
open Go Go.RowKit Cal

def helloB : ByteArray := ⟨#[104, 101, 108, 108, 111]⟩
def t0L : List UInt8 := [99, 111, 109, 109, 105, 116, 32, 48, 10, 53, 32, 104, 101, 108, 108, 111]
theorem itoa0 : Lib.itoa 0 = [48] := by
  have := Lib.itoa_nonneg 0
  rw [show ((0 : Nat) : Int) = 0 from rfl] at this
  rw [this, Lib.decDigits_one (by decide)]
  rfl
theorem itoa5 : Lib.itoa 5 = [53] := by
  have := Lib.itoa_nonneg 5
  rw [show ((5 : Nat) : Int) = 5 from rfl] at this
  rw [this, Lib.decDigits_one (by decide)]
  rfl
theorem cmT0 : cmT 0 [] 5 helloB = t0L := by
  unfold cmT cmW
  rw [itoa0, itoa5]
  rfl
theorem num0 : numOfC [48] = some 0 := by
  have h := itoa_atoi 0 (by decide)
  rw [itoa0] at h
  unfold numOfC
  rw [if_pos (by decide), h]
  dsimp only
  rw [if_pos ⟨by decide, itoa0⟩]
theorem num5 : numOfC [53] = some 5 := by
  have h := itoa_atoi 5 (by decide)
  rw [itoa5] at h
  unfold numOfC
  rw [if_pos (by decide), h]
  dsimp only
  rw [if_pos ⟨by decide, itoa5⟩]
theorem cuts0 : cutsC t0L = some ([[99, 111, 109, 109, 105, 116], [48]], [53], [104, 101, 108, 108, 111]) := by kernel_rfl
theorem frm0 : FrmC t0L 0 [] 5 [104, 101, 108, 108, 111] := ⟨[48], [], [53], cuts0, num0, ⟨(fun x hx => by cases hx), rfl⟩, num5⟩
theorem bd0 : bdC 0 [] 5 := ⟨by decide, by decide, by decide, fun p hp => by cases hp⟩
theorem note0 : noteOk helloB := by
  refine ⟨by decide, fun j h => ?_⟩
  have h' : j < 5 := h
  match j, h' with
  | 0, _ => show okN 104; exact ⟨by decide, by decide⟩
  | 1, _ => show okN 101; exact ⟨by decide, by decide⟩
  | 2, _ => show okN 108; exact ⟨by decide, by decide⟩
  | 3, _ => show okN 108; exact ⟨by decide, by decide⟩
  | 4, _ => show okN 111; exact ⟨by decide, by decide⟩
/-- the closed text is read as it was written -/
theorem read0 {s : Nat → Addr} {base : Nat} {r : Ending} {w' : World} (h : ReadIs s t0L base r w') : ∃ v : Value, r = .returned (.tuple #[.agg #[.int .i64 0, v, .int .i64 5, .string helloB], .nilIface]) ∧ w'.ownsRow base 3 1 v 0 [] := by
  rcases h with ⟨t, at_, ps, note, a, n, c, hf, _, _, rfl, ho⟩ | ⟨q, _⟩ | ⟨⟨t, ps, at_, note, hf, hb⟩, _⟩
  · obtain ⟨rfl, rfl, rfl, hn⟩ := frm0.one hf
    have : note = helloB := pl_ext hn.symm
    subst this
    exact ⟨_, rfl, ho⟩
  · rcases q with q | ⟨t, ps, at_, note, hf, _, hn⟩
    · exact absurd ⟨_, _, _, _, frm0⟩ q
    · obtain ⟨rfl, rfl, rfl, hq⟩ := frm0.one hf
      have : note = helloB := pl_ext hq.symm
      subst this
      exact absurd note0 hn
  · obtain ⟨rfl, rfl, rfl, _⟩ := frm0.one hf
    exact absurd bd0 hb
end Go.Proofs.YtkjfbeempmfipaaGreatDoor

/- Package commit's New; package pool's Copy of an empty pool; a graph in memory. -/
namespace Go.Proofs.YtkjfbeempmfipaaGreatDoor
open Go Go.RowKit Go.Maps Go.Sort Cal
attribute [local go_sem] Oper.semAt_some

set_option maxHeartbeats 1000000 in
set_option maxRecDepth 100000 in
theorem mcloneC_any (b : Nat) (es : Array MapEntry) (clock : Nat) (w : World) (hb : w.heap[b]? = some (.map es clock)) :
    Calls Tryz.prog 62 #[.map (some b)] w fun e w' => e = .returned (.map (some w.heap.size)) ∧ w' = w.alloc (.map es clock) := by
  have hq := fun w => run_eql_map_nil_sl (P := Tryz.prog) w 85 _ _ (some b) Tryz.underlying85
  go_enter Tryz.func62, Tryz.ntmps62
  go_wp2
  rw [run_callFunc_extern Tryz.func83 (by kernel_rfl) (by kernel_rfl) (by kernel_rfl) (e := Extern.MapsClone.clone) (by kernel_rfl), run_maps_clone_sl w 85 hb]
  simp only [Result.andThen]
  rw [Oper.upon_value]
  go_wp2
  rw [run_typeAssert_map_sl _ 85 20 _ _ _ Tryz.underlying85]
  simp only [Result.andThen]
  rw [Oper.upon_value]
  go_wp2
  go_ret
  exact ⟨rfl, rfl⟩
theorem pl_drewC (w : World) : Below w.heap.size w w.drew := ⟨rfl, rfl, rfl, Nat.le_refl _, fun _ _ => rfl⟩
theorem cloneS_nil (w : World) : Calls Tryz.prog 61 #[.slice none 0 0] w fun r w' => r = .returned (.slice none 0 0) ∧ w' = w := by
  have q22 : ∀ (w : World) (a : Option Addr) (n c n' c' : Nat), (binOp .eql 44 (.slice a n c) (.slice none n' c')).run Tryz.prog w = .ok (.bool a.isNone) w := fun w a n c n' c' => Lib.run_eql_slice_nil w _ _ a n c n' c' Tryz.underlying44
  go_enter Tryz.func61, Tryz.ntmps61
  go_wp2
  go_ret
  exact ⟨rfl, rfl⟩
set_option maxHeartbeats 2000000 in
set_option maxRecDepth 100000 in
theorem pcopy_0 (lo pb mb : Nat) (w : World) (h : PoolAt lo w pb mb (.slice none 0 0) []) :
    Calls Tryz.prog 42 #[.pointer (some ⟨pb, 0, none⟩)] w fun r w' => ∃ qb mq, r = .returned (.pointer (some ⟨qb, 0, none⟩)) ∧ PoolAt w'.heap.size w' qb mq (.slice none 0 0) [] ∧ w.heap.size ≤ qb ∧ w.heap.size ≤ mq ∧ Below w.heap.size w w' := by
  obtain ⟨D, hom, hlook⟩ := h.map
  have hom' := hom
  obtain ⟨es, clock, hbm, hfit⟩ := hom'
  have MC : Hid (∀ W, Below w.heap.size w W → Calls Tryz.prog 62 #[.map (some mb)] W fun r w' => r = .returned (.map (some W.heap.size)) ∧ w' = W.alloc (.map es clock)) := fun W hW => mcloneC_any mb es clock W ((hW.block mb (Array.getElem?_eq_some_iff.1 hbm).1).trans hbm)
  have XC : Hid (∀ W, Below w.heap.size w W → W.cell? ⟨pb, 0, none⟩ = some (.slice none 0 0) ∧ W.cell? ⟨pb, 1, none⟩ = some (.map (some mb))) := fun W hW => (h.step hW).cells
  have CS : Hid (∀ W, Calls Tryz.prog 61 #[.slice none 0 0] W fun r w' => r = .returned (.slice none 0 0) ∧ w' = W) := fun W => cloneS_nil W
  have HM : Hid (∀ (W : World) (b : Nat), W.heap[b]? = some (Obj.map es clock) → ∃ D : DataW Value, W.ownsMap Tryz.prog 9 (plainElem Tryz.prog 3) b ([] : List ByteArray).length D ∧ PLook D []) := fun W b hb => ⟨D, ⟨es, clock, hb, hfit⟩, hlook⟩
  obtain ⟨x0, x1⟩ := XC.out w (Below.refl _ _)
  clear h hbm hom hfit hlook
  go_enter Tryz.func42, Tryz.ntmps42
  go_upto_region 1 with (fail)
  go_region_with (first
    | (go_at_call 61; refine Calls.mono (CS.out _) ?_; rintro r wC ⟨rfl, hqC⟩; have hqC := hqC.symm; subst hqC)
    | (go_at_call 62; refine Calls.mono (MC.out _ ?_) ?_; (first | with_reducible assumption | with_reducible exact pl_drewC _); rintro r wM ⟨rfl, hqM⟩; have kM : Below w.heap.size w wM := (by rw [hqM]; exact below_then (pl_drewC _) (below_alloc _ _)); have hbM : wM.heap[w.heap.size]? = some (.map es clock) := (by rw [hqM]; exact block_at _ rfl); clear hqM; obtain ⟨xM0, xM1⟩ := XC.out wM kM))
  all_goals
    go_wp2
    go_ret
    have hlt := (Array.getElem?_eq_some_iff.1 hbM).1
    exact ⟨wM.heap.size, w.heap.size, rfl, ⟨by rw [World.size_alloc]; omega, by rw [World.size_alloc]; omega, by omega, Nat.le_refl _, block_at _ rfl, World.ownsRow_nil _ _ _ _, HM.out _ _ (block_alloc _ hbM)⟩, Nat.le_of_lt hlt, Nat.le_refl _, below_then kM (below_alloc _ _)⟩
end Go.Proofs.YtkjfbeempmfipaaGreatDoor

/- The closed fact of the commit laws: a commit is put into a new graph, and got. -/
namespace Go.Proofs.YtkjfbeempmfipaaGreatDoor
open Go Go.RowKit Go.Maps Go.Sort Cal
attribute [local go_sem] Oper.semAt_some

/-- a graph in memory: its pool -/
structure GraphAt (lo : Nat) (W : World) (gb pb mb : Nat) (tv : Value) (ts : List ByteArray) : Prop where
  g : W.heap[gb]? = some (.cells #[.pointer (some ⟨pb, 0, none⟩)] 58 (0, 0))
  p : PoolAt lo W pb mb tv ts
theorem GraphAt.step {lo : Nat} {W W' : World} {gb pb mb : Nat} {tv : Value} {ts : List ByteArray} (h : GraphAt lo W gb pb mb tv ts) (hb : Below W.heap.size W W') : GraphAt lo W' gb pb mb tv ts := ⟨(hb.block _ (Array.getElem?_eq_some_iff.1 h.g).1).trans h.g, h.p.step hb⟩
theorem cmNew_any (w : World) : Calls Tryz.prog 11 #[] w fun r w' => ∃ lo gb pb mb, r = .returned (.pointer (some ⟨gb, 0, none⟩)) ∧ GraphAt lo w' gb pb mb (.slice none 0 0) [] ∧ w.heap.size ≤ pb ∧ w.heap.size ≤ mb ∧ pb < gb ∧ mb < gb ∧ Below w.heap.size w w' := by
  have PN : Hid (Calls _ _ _ _ _) := pnew_any w
  go_enter Tryz.func11, Tryz.ntmps11
  go_wp2_with (go_at_call 25; refine Calls.mono PN.out ?_; rintro r w1 ⟨rfl, hp, hb1⟩)
  go_ret
  exact ⟨_, _, _, _, rfl, ⟨block_at _ rfl, hp.step (below_alloc _ _)⟩, by omega, by omega, by have := hp.le; omega, by have := hp.le; omega, below_then hb1 (below_alloc _ _)⟩
theorem cmChk_nil (gb : Nat) (w : World) : Calls Tryz.prog 26 #[.pointer (some ⟨gb, 0, none⟩), .slice none 0 0, .int .i64 5] w fun r w' => r = .returned .nilIface ∧ Below w.heap.size w w' := by
  go_enter Tryz.func26, Tryz.ntmps26
  go_wp2
  go_loopw [7, 9, 10, 11, 14] (fun v _ _ _ i wr => v = .int .i64 0 ∧ i = .int .i64 0 ∧ wr = w) (fun _ _ _ _ _ _ => 0)
  case atStart => exact ⟨rfl, rfl, rfl⟩
  case round =>
    obtain ⟨rfl, rfl, rfl⟩ := hrel
    go_upto_region 12 with (fail)
    go_region
    all_goals
      go_wp2
      go_ret
      exact ⟨rfl, pl_drewC _⟩

theorem pkept_below {w w' : World} {qb mq base : Nat} {tv : Value} (h : PKept w w' qb mq tv) (h0 : base ≤ w.heap.size) (h1 : base ≤ qb) (h2 : base ≤ mq) (h3 : ∀ k, tv.ownBlock = some k → base ≤ k) : Below base w w' :=
  ⟨h.os, h.tape, h.output, h.size, fun k hk => h.block k (by omega) (by omega) (by omega) (fun q => by have := h3 k q; omega)⟩
theorem below_base {a b : Nat} {w w' : World} (h : Below b w w') (hab : a ≤ b) : Below a w w' := ⟨h.os, h.tape, h.output, h.size, fun k hk => h.block k (by omega)⟩
theorem below_trans {b : Nat} {w w1 w2 : World} (h1 : Below b w w1) (h2 : Below b w1 w2) : Below b w w2 :=
  ⟨h2.os.trans h1.os, h2.tape.trans h1.tape, h2.output.trans h1.output, Nat.le_trans h1.size h2.size, fun k hk => (h2.block k hk).trans (h1.block k hk)⟩
theorem blk1_cell {W : World} {b T : Nat} {v : Value} (h : W.heap[b]? = some (.cells #[v] T (0, 0))) : W.cell? ⟨b, 0, none⟩ = some v := by simp [World.cell?, h]
theorem blk2C {W : World} {n : Nat} {v0 v1 : Value} {t : TypeId} (h : W.heap[n]? = some (.cells #[v0, v1] t (0, 0))) : W.cell? ⟨n, 0, none⟩ = some v0 ∧ W.cell? ⟨n, 1, none⟩ = some v1 ∧ W.frozen? ⟨n, 0, none⟩ = false ∧ W.frozen? ⟨n, 1, none⟩ = false := by
  simp [World.cell?, World.frozen?, h]
set_option maxHeartbeats 4000000 in
set_option maxRecDepth 100000 in
theorem cmPut_0 (lo gb pb mb : Nat) (w : World) (ht : Tab w) (h : GraphAt lo w gb pb mb (.slice none 0 0) []) (hpg : pb ≠ gb) :
    Calls Tryz.prog 27 #[.pointer (some ⟨gb, 0, none⟩), .string ⟨#[]⟩, .agg #[.int .i64 0, .slice none 0 0, .int .i64 5, .string helloB]] w fun r w' => r = .returned (.tuple #[.int .i64 1, .nilIface]) ∧ ∃ lo' mq tv, GraphAt lo' w' gb pb mq tv [⟨#[]⟩, bs t0L] ∧ Below pb w w' := by
  have hA := below_alloc w (.cells #[.int .i64 0, .slice none 0 0, .int .i64 5, .string helloB] 26)
  have kB : (w.alloc (.cells #[.int .i64 0, .slice none 0 0, .int .i64 5, .string helloB] 26)).heap[w.heap.size]? = some (.cells #[.int .i64 0, .slice none 0 0, .int .i64 5, .string helloB] 26 (0, 0)) := block_at _ rfl
  have G0 : Hid (GraphAt lo (w.alloc (.cells #[.int .i64 0, .slice none 0 0, .int .i64 5, .string helloB] 26)) gb pb mb (.slice none 0 0) []) := h.step hA
  have HT : Hid (Tab (w.alloc (.cells #[.int .i64 0, .slice none 0 0, .int .i64 5, .string helloB] 26))) := ht.step hA
  have HTw : Hid (∀ W, Below w.heap.size w W → Tab W) := fun W hW => ht.step hW
  have hpw : pb < w.heap.size := (Array.getElem?_eq_some_iff.1 h.p.blk).1
  have hgw : gb < w.heap.size := (Array.getElem?_eq_some_iff.1 h.g).1
  have HA : Hid (_) := hA
  have HKB : Hid (_) := kB
  have hsz : w.heap.size < (w.alloc (.cells #[.int .i64 0, .slice none 0 0, .int .i64 5, .string helloB] 26)).heap.size := by rw [World.size_alloc]; omega
  clear h ht hA kB
  unfold helloB at *
  generalize hw0 : w.alloc (.cells #[.int .i64 0, .slice none 0 0, .int .i64 5, .string ⟨#[104, 101, 108, 108, 111]⟩] 26) = w0 at G0 HT HA HKB hsz
  have PC : Hid (Calls _ _ _ _ _) := pcopy_0 lo pb mb w0 G0.out.p
  have cg := blk1_cell G0.out.g
  go_enter Tryz.func27, Tryz.ntmps27
  go_upto_region 2 with (go_at_call 42; refine Calls.mono PC.out ?_; rintro r w1 ⟨qb, mq, rfl, hp1, hq1, hm1, hb1⟩)
  have B1 : Hid (Below w0.heap.size w0 w1) := hb1
  have P1 : Hid (PoolAt w1.heap.size w1 qb mq (.slice none 0 0) []) := hp1
  have HQ : Hid (w0.heap.size ≤ qb ∧ w0.heap.size ≤ mq) := ⟨hq1, hm1⟩
  have U2 : Hid (Calls _ _ _ _ _) := pput_new w1.heap.size qb mq (.slice none 0 0) [] ⟨#[]⟩ w1 hp1 (by decide) (by simp) (by decide)
  clear hp1 hb1 PC cg
  go_upto_region 5 with (go_at_call 43; refine Calls.mono U2.out ?_; rintro r w2 ⟨rfl, tv2, hp2, hk2, ho2⟩)
  have hcb : w2.heap[w.heap.size]? = some (.cells #[.int .i64 0, .slice none 0 0, .int .i64 5, .string ⟨#[104, 101, 108, 108, 111]⟩] 26 (0, 0)) := by
    have h1 := HQ.out
    have h2 := B1.out.size
    exact (hk2.block _ (by omega) (by omega) (by omega) (fun q => by cases q)).trans ((B1.out.block _ hsz).trans HKB.out)
  have BB2 : Hid (Below w0.heap.size w0 w2) := below_trans B1.out (pkept_below hk2 B1.out.size HQ.out.1 HQ.out.2 (fun k q => by cases q))
  have P2 : Hid (PoolAt w1.heap.size w2 qb mq tv2 ([] ++ [⟨#[]⟩])) := hp2
  obtain ⟨z0, z1, z2, z3⟩ := blkC hcb
  obtain ⟨f0, _, _, _⟩ := blkC_frozen hcb
  have hc3 : (w2.setCell ⟨w.heap.size, 0, none⟩ (.int .i64 0)).heap[w.heap.size]? = some (.cells #[.int .i64 0, .slice none 0 0, .int .i64 5, .string ⟨#[104, 101, 108, 108, 111]⟩] 26 (0, 0)) := set_block (i := 0) (.int .i64 0) hcb
  have hg3 := grown_set w2 ⟨w.heap.size, 0, none⟩ (.int .i64 0)
  have HO2 : Hid (∀ k, tv2.ownBlock = some k → w1.heap.size ≤ k) := fun k q => (World.ownsRow.lt hp2.row k q).1
  have P3 : Hid (PoolAt w1.heap.size (w2.setCell ⟨w.heap.size, 0, none⟩ (.int .i64 0)) qb mq tv2 ([] ++ [⟨#[]⟩])) := hp2.far hg3.size (fun k hk hh => hg3.block k hk (fun q => by
    have q' : k = w.heap.size := Option.some.inj q
    have h1 := HQ.out
    have h2 := B1.out.size
    rcases hh with e | e | e
    · omega
    · omega
    · have := HO2.out k e; omega))
  have BB3 : Hid (Below w.heap.size w (w2.setCell ⟨w.heap.size, 0, none⟩ (.int .i64 0))) := (below_then HA.out BB2.out).grown hg3 (below_then HA.out BB2.out).size (fun k q => by cases q; exact Nat.le_refl _)
  have KP3 : Hid ((w2.setCell ⟨w.heap.size, 0, none⟩ (.int .i64 0)).heap[pb]? = w0.heap[pb]? ∧ (w2.setCell ⟨w.heap.size, 0, none⟩ (.int .i64 0)).heap[gb]? = w0.heap[gb]?) := ⟨(hg3.block _ (by have := BB2.out.size; omega) (fun q => by have q' : pb = w.heap.size := Option.some.inj q; omega)).trans (BB2.out.block _ (by omega)), (hg3.block _ (by have := BB2.out.size; omega) (fun q => by have q' : gb = w.heap.size := Option.some.inj q; omega)).trans (BB2.out.block _ (by omega))⟩
  clear hp2 hk2 ho2 U2 P1 hg3
  go_upto_region 6 with (fail)
  generalize w2.setCell ⟨w.heap.size, 0, none⟩ (.int .i64 0) = w3 at hc3 P3 BB3 KP3 ⊢
  obtain ⟨y0, y1, y2, y3⟩ := blkC hc3
  have TX : Hid (Calls Tryz.prog 5 #[.agg #[.int .i64 0, .slice none 0 0, .int .i64 5, .string ⟨#[104, 101, 108, 108, 111]⟩]] w3 fun r w' => r = .returned (.string (bs t0L)) ∧ Below w3.heap.size w3 w') := by
    have h := cmText_any 0 5 (.slice none 0 0) [] helloB w3 (HTw.out w3 BB3.out) ⟨none, 0, rfl, by decide, by decide, fun j hj => absurd hj (by simp)⟩ (by decide) (by decide) (by decide) (by decide) (by decide) (fun p hp => by cases hp) (by decide)
    rw [cmT0] at h
    exact h
  have UP : Hid (∀ W, Below w3.heap.size w3 W → _) := fun W hW => pput_new w1.heap.size qb mq tv2 ([] ++ [⟨#[]⟩]) (bs t0L) W (P3.out.step hW) (by decide) (by simp only [List.nil_append, List.mem_singleton]; intro q; have q2 := congrArg ByteArray.size q; revert q2; decide) (by decide)
  clear z0 z1 z2 z3 f0 hcb hc3
  go_upto_region 7 with (first
    | (go_at_call 5; refine Calls.mono TX.out ?_; rintro r w4 ⟨rfl, hb4⟩; have B4 : Hid (Below w3.heap.size w3 w4) := hb4; clear hb4)
    | (go_at_call 43; refine Calls.mono (UP.out w4 B4.out) ?_; rintro r w5 ⟨rfl, tv5, hp5, hk5, ho5⟩; have P5 : Hid (PoolAt w1.heap.size w5 qb mq tv5 (([] ++ [⟨#[]⟩]) ++ [bs t0L])) := hp5; have K5 : Hid (PKept w4 w5 qb mq tv2) := hk5; clear hp5 hk5 ho5))
  have hpb5 : w5.heap[pb]? = some (.cells #[.slice none 0 0, .map (some mb)] 87 (0, 0)) := by
    have h1 := HQ.out
    have h2 := B1.out.size
    have h3 := BB2.out.size
    have hl : pb < w3.heap.size := by have := BB3.out.size; omega
    exact (K5.out.block _ (by have := B4.out.size; omega) (by omega) (by omega) (fun q => by have := HO2.out _ q; omega)).trans ((B4.out.block _ hl).trans (KP3.out.1.trans G0.out.p.blk))
  have hgb5 : w5.heap[gb]? = some (.cells #[.pointer (some ⟨pb, 0, none⟩)] 58 (0, 0)) := by
    have h1 := HQ.out
    have h2 := B1.out.size
    have h3 := BB2.out.size
    have hl : gb < w3.heap.size := by have := BB3.out.size; omega
    exact (K5.out.block _ (by have := B4.out.size; omega) (by omega) (by omega) (fun q => by have := HO2.out _ q; omega)).trans ((B4.out.block _ hl).trans (KP3.out.2.trans G0.out.g))
  have BB5 : Hid (Below w.heap.size w w5) := by
    have h1 := HQ.out
    have h2 := B1.out.size
    have h3 := BB3.out.size
    have h4 := B4.out.size
    exact below_trans (below_trans BB3.out (below_base B4.out h3)) (pkept_below K5.out (by omega) (by omega) (by omega) (fun k q => by have := HO2.out _ q; omega))
  have HB5 : Hid (_) := hpb5
  have HG5 : Hid (_) := hgb5
  obtain ⟨p0, p1, pf0, pf1⟩ := blk2C hpb5
  obtain ⟨q0, q1, qf0, qf1⟩ := blk2C P5.out.blk
  have cg5 := blk1_cell hgb5
  clear hpb5 hgb5 y0 y1 y2 y3
  obtain ⟨sa, sn, sc, rfl⟩ : ∃ sa sn sc, tv5 = .slice sa sn sc := (by obtain ⟨sa, sc, h, _⟩ := P5.out.form; exact ⟨_, _, _, h⟩)
  have d0 : w5.drew.cell? ⟨pb, 0, none⟩ = some (.slice none 0 0) := p0
  have d1 : w5.drew.cell? ⟨pb, 1, none⟩ = some (.map (some mb)) := p1
  have df0 : w5.drew.frozen? ⟨pb, 0, none⟩ = false := pf0
  have df1 : w5.drew.frozen? ⟨pb, 1, none⟩ = false := pf1
  have e0 : w5.drew.cell? ⟨qb, 0, none⟩ = some (.slice sa sn sc) := q0
  have e1 : w5.drew.cell? ⟨qb, 1, none⟩ = some (.map (some mq)) := q1
  have hd : w5.drew.heap[pb]? = some (.cells #[.slice none 0 0, .map (some mb)] 87 (0, 0)) := HB5.out
  have s1 := (blk2C (set_block (i := 0) (.slice sa sn sc) hd)).2.1
  have sf1 := (blk2C (set_block (i := 0) (.slice sa sn sc) hd)).2.2.2
  go_upto_region 9 with (fail)
  go_region
  all_goals
    go_wp2
    have g1 := grown_set w5 ⟨pb, 0, none⟩ (.slice sa sn sc)
    have g2 := grown_set (w5.setCell ⟨pb, 0, none⟩ (.slice sa sn sc)) ⟨pb, 1, none⟩ (.map (some mq))
    have hs2 : ((w5.setCell ⟨pb, 0, none⟩ (.slice sa sn sc)).setCell ⟨pb, 1, none⟩ (.map (some mq))).heap[pb]? = some (.cells #[.slice sa sn sc, .map (some mq)] 87 (0, 0)) := set_block (i := 1) _ (set_block (i := 0) _ HB5.out)
    have hsz5 : w5.heap.size ≤ ((w5.setCell ⟨pb, 0, none⟩ (.slice sa sn sc)).setCell ⟨pb, 1, none⟩ (.map (some mq))).heap.size := Nat.le_trans g1.size g2.size
    have hfar : ∀ k, k < w5.heap.size → k ≠ pb → ((w5.setCell ⟨pb, 0, none⟩ (.slice sa sn sc)).setCell ⟨pb, 1, none⟩ (.map (some mq))).heap[k]? = w5.heap[k]? := fun k hk hn => (g2.block k (Nat.lt_of_lt_of_le hk g1.size) (fun q => hn (Option.some.inj q))).trans (g1.block k hk (fun q => hn (Option.some.inj q)))
    have BBs : Below pb w ((w5.setCell ⟨pb, 0, none⟩ (.slice sa sn sc)).setCell ⟨pb, 1, none⟩ (.map (some mq))) := ((below_base BB5.out (by omega)).grown g1 (by have := BB5.out.size; omega) (fun k q => by cases q; exact Nat.le_refl _)).grown g2 (by have := BB5.out.size; have := g1.size; omega) (fun k q => by cases q; exact Nat.le_refl _)
    have h1 := HQ.out
    have h2 := B1.out.size
    have P6 := P5.out.far hsz5 (fun k hk hh => hfar k hk (fun q => by
      rcases hh with e | e | e
      · omega
      · omega
      · have := (World.ownsRow.lt P5.out.row k e).1; omega))
    refine bodyPost_ret (v := .tuple #[.int .i64 1, .nilIface]) (by simp [results, Tryz.f27, go_sem]) rfl ⟨rfl, w1.heap.size, mq, .slice sa sn sc, ⟨(hfar gb (by have := BB5.out.size; omega) (by omega)).trans HG5.out, ⟨by omega, P5.out.hm, by omega, P6.le, hs2, P6.row, P6.map⟩⟩, below_trans BBs (below_base (pl_drewC _) (by have := BBs.size; omega))⟩
end Go.Proofs.YtkjfbeempmfipaaGreatDoor
