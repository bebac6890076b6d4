/- Package pool's Copy, and Get where there is none; the law's coded and faulted. -/
import Derived.Test.YtifbhedomcgonaaGreatDoorPlZ
import Derived.Test.YtifbhedomcgonaaGreatDoorCode2
import Derived.Shelf.SlMaps.Clone
import Derived.Deep.RegionWith
namespace Go.Proofs.YtifbhedomcgonaaGreatDoor
open Go Go.RowKit Go.Maps Go.Sort Cal
attribute [local go_sem] Oper.semAt_some

theorem coded3_nil (w : World) :
    Calls Tryz.prog 8 #[.nilIface, .int .i64 0] w fun e w' => e = .returned (.bool true) ∧ w' = w := by
  go_enter Tryz.func8, Tryz.ntmps8
  go_wp2_with (go_at_call 19; refine (code_nil _).mono ?_; rintro e w' ⟨rfl, rfl⟩)
  go_ret
  exact ⟨rfl, rfl⟩
theorem coded3_err (s : Nat → Addr) (j : Nat) (w : World) (g : Sents s w) (hj : j < 11) :
    Calls Tryz.prog 8 #[.iface 151 (.pointer (some (s j))), .int .i64 (j + 1)] w fun e w' => e = .returned (.bool true) ∧ Below w.heap.size w w' := by
  have hc := code_gen s j (s j) w g (by omega) (fun k hk => g.ne j k hj (by omega) (by omega)) (fun _ => rfl) (g.blk j hj)
  rw [cnum_lt hj] at hc
  have HC : Hid (_) := hc
  clear hc
  go_enter Tryz.func8, Tryz.ntmps8
  go_wp2_with (go_at_call 19; refine (Calls.mono HC.out ?_); rintro e w' ⟨rfl, hb⟩)
  go_ret
  exact ⟨rfl, hb⟩
theorem faulted3_any (s : Nat → Addr) (j fb : Nat) (p : Int) (w : World) (g : Sents s w) (hj : j < 11) (hf : w.heap[fb]? = some (.cells #[.int .i64 p, .iface 151 (.pointer (some (s j)))] 74 (0, 0))) :
    Calls Tryz.prog 18 #[.iface 70 (.pointer (some ⟨fb, 0, none⟩)), .agg #[.int .i64 (j + 1), .int .i64 p]] w fun e w' => e = .returned (.bool true) ∧ Below w.heap.size w w' := by
  have hA := below_alloc w (.cells #[.int .i64 (j + 1), .int .i64 p] 46)
  have g1 := g.step hA
  obtain ⟨h0, h1, _, _⟩ := blk2 hf
  have C : Hid (Calls _ _ _ _ _) := code_fault s j fb 0 p _ g1 hj (cell_step h0 hA) (cell_step h1 hA)
  have K : Hid ((w.alloc (.cells #[.int .i64 (j + 1), .int .i64 p] 46)).heap[w.heap.size]? = some (.cells #[.int .i64 (j + 1), .int .i64 p] 46 (0, 0))) := block_at _ rfl
  have HA : Hid (_) := hA
  clear g g1 h0 h1 hf hA
  go_enter Tryz.func18, Tryz.ntmps18
  generalize hw0 : w.alloc (.cells #[.int .i64 (j + 1), .int .i64 p] 46) = w0 at C K HA
  go_wp2_with (go_at_call 19; refine Calls.mono C.out ?_; rintro e w1 ⟨rfl, hb1⟩; obtain ⟨c0, c1, _, _⟩ := blk2 ((hb1.block _ (Array.getElem?_eq_some_iff.1 K.out).1).trans K.out))
  go_ret
  exact ⟨rfl, below_then HA.out hb1⟩

set_option maxRecDepth 100000 in
theorem pget_no (lo pb mb : Nat) (tv : Value) (ts : List ByteArray) (n : Int) (hn : n < 0 ∨ (ts.length : Int) ≤ n) (sn : Nat → Addr) (w : World) (g : GlobP sn w) (h : PoolAt lo w pb mb tv ts) :
    Calls Tryz.prog 13 #[.pointer (some ⟨pb, 0, none⟩), .int .i64 n] w fun r w' => r = .returned (.tuple #[.string ⟨#[]⟩, perr sn 5]) ∧ Below w.heap.size w w' := by
  have L : Hid (Calls _ _ _ _ _) := plen_any lo pb mb tv ts w h
  have hN := g.none_
  clear g h
  rcases hn with hn | hn
  · go_enter Tryz.func13, Tryz.ntmps13
    go_wp2
    go_quiet (fail)
    go_wp2
    go_ret2
    exact ⟨rfl, pl_drew _ _⟩
  · have h0 : (0 : Int) ≤ n := by omega
    go_enter Tryz.func13, Tryz.ntmps13
    go_wp2_with (go_at_call 12; refine Calls.mono L.out ?_; rintro r w' ⟨rfl, hq⟩; have hq := hq.symm; subst hq)
    go_quiet (fail)
    go_wp2
    go_ret2
    exact ⟨rfl, pl_drew _ _⟩

set_option maxHeartbeats 1000000 in
set_option maxRecDepth 100000 in
theorem cloneS_any (ts : List ByteArray) (a : Option Addr) (c : Nat) (w : World) (hl : ts.length ≤ 1000) (hcap : ts.length ≤ c) (hc : ∀ (j : Nat) (hj : j < ts.length), ∃ b, a = some ⟨b, 0, none⟩ ∧ b < w.heap.size ∧ w.cell? ⟨b, j, none⟩ = some (.string ts[j])) (ha : a = none ∨ ∃ b, a = some ⟨b, 0, none⟩) :
    Calls Tryz.prog 20 #[.slice a ts.length c] w fun r w' => ∃ a' c', r = .returned (.slice a' ts.length c') ∧ (∀ (j : Nat) (hj : j < ts.length), ∃ b, a' = some ⟨b, 0, none⟩ ∧ b < w'.heap.size ∧ w'.cell? ⟨b, j, none⟩ = some (.string ts[j])) ∧ Below w.heap.size w w' := by
  obtain ⟨i0, hi, hz0, hz1, hz2⟩ := info_parts pl_info
  have q22 : ∀ (w : World) (a : Option Addr) (n c n' c' : Nat), (binOp .eql 22 (.slice a n c) (.slice none n' c')).run Tryz.prog w = .ok (.bool a.isNone) w := fun w a n c n' c' => Lib.run_eql_slice_nil w _ _ a n c n' c' Tryz.underlying22
  rcases ha with rfl | ⟨b, rfl⟩
  · have h0 : ts = [] := by
      cases ts with
      | nil => rfl
      | cons x r => obtain ⟨b, e, _⟩ := hc 0 (by simp); cases e
    subst h0
    clear hc
    go_enter Tryz.func20, Tryz.ntmps20
    go_wp2
    go_ret
    exact ⟨_, _, rfl, fun j hj => absurd hj (by simp), Below.refl _ _⟩
  · have HC : Hid (∀ j v, (ts.map Value.string)[j]? = some v → (w.alloc (.cells #[] 9)).cell? ((⟨b, 0, none⟩ : Addr).add j) = some v) := fun j v hv => by
      rw [List.getElem?_map] at hv
      obtain ⟨d, hd, rfl⟩ := Option.map_eq_some_iff.1 hv
      obtain ⟨hj, rfl⟩ := List.getElem?_eq_some_iff.1 hd
      obtain ⟨b', e, hl, hcc⟩ := hc j hj
      cases e
      rw [Addr.add_lit, Nat.zero_add]
      exact cell_alloc _ hcc
    clear hc
    go_enter Tryz.func20, Tryz.ntmps20
    go_wp2_with (at_builtin; refine wpList_append_own _ rfl _ _ 22 rfl w.heap.size 9 i0 (.string ⟨#[]⟩) 1 16 Tryz.underlying22 hi hz0 hz1 hz2 rfl (by decide) _ _ _ rfl (World.ownsRow_made w #[] 0 (Nat.le_refl _) (Nat.zero_le _) rfl) ⟨b, 0, none⟩ ts.length c (ts.map Value.string) rfl (by simp) HC.out (fun v hv => by obtain ⟨x, _, rfl⟩ := List.mem_map.1 hv; rfl) (by unfold maxLen; omega) (by omega) (by simp) ?_; intro v' w1 hown hgrow _)
    have OW : Hid (World.ownsRow w1 w.heap.size 9 1 v' ts.length (ts.map Value.string)) := by
      show World.ownsRow _ _ _ _ _ _ _
      have := hown
      rw [Nat.zero_add, List.nil_append] at this
      exact this
    have BB : Hid (Below w.heap.size w w1) := by
      have q := below_alloc w (.cells #[] 9)
      exact ⟨hgrow.os.trans q.os, hgrow.tape.trans q.tape, hgrow.output.trans q.output, Nat.le_trans q.size hgrow.size, fun k hk => (hgrow.block k (Nat.lt_of_lt_of_le hk q.size) (fun e => by have e' : k = w.heap.size := Option.some.inj e; omega)).trans (q.block k hk)⟩
    clear hown hgrow
    go_wp2
    go_ret
    rcases OW.out.2 with ⟨e, h0⟩ | ⟨g, cap, cur, rfl, hg, hh, hcap2, hmax, hsz, htake⟩
    · subst e
      exact ⟨none, 0, by rw [h0]; rfl, fun j hj => by omega, BB.out⟩
    · refine ⟨_, _, rfl, fun j hj => ⟨g, rfl, (Array.getElem?_eq_some_iff.1 hh).1, ?_⟩, BB.out⟩
      have e := congrArg (fun z : List Value => z[j]?) htake
      simp only [List.getElem?_take, List.getElem?_map, Array.getElem?_toList] at e
      rw [if_pos (by omega), List.getElem?_eq_getElem hj] at e
      simp only [World.cell?, hh]
      exact e

set_option maxHeartbeats 1000000 in
set_option maxRecDepth 100000 in
theorem mclone_any (b : Nat) (es : Array MapEntry) (clock : Nat) (w : World) (hb : w.heap[b]? = some (.map es clock)) :
    Calls Tryz.prog 21 #[.map (some b)] w fun e w' => e = .returned (.map (some w.heap.size)) ∧ w' = w.alloc (.map es clock) := by
  have hq := fun w => run_eql_map_nil_sl (P := Tryz.prog) w 51 _ _ (some b) Tryz.underlying51
  go_enter Tryz.func21, Tryz.ntmps21
  go_wp2
  rw [run_callFunc_extern Tryz.func35 (by kernel_rfl) (by kernel_rfl) (by kernel_rfl) (e := Extern.MapsClone.clone) (by kernel_rfl), run_maps_clone_sl w 51 hb]
  simp only [Result.andThen]
  rw [Oper.upon_value]
  go_wp2
  rw [run_typeAssert_map_sl _ 51 20 _ _ _ Tryz.underlying51]
  simp only [Result.andThen]
  rw [Oper.upon_value]
  go_wp2
  go_ret
  exact ⟨rfl, rfl⟩
theorem pl_drew1 (w : World) : Below w.heap.size w w.drew := ⟨rfl, rfl, rfl, Nat.le_refl _, fun _ _ => rfl⟩

set_option maxHeartbeats 2000000 in
set_option maxRecDepth 100000 in
theorem pcopy_any (lo pb mb : Nat) (tv : Value) (ts : List ByteArray) (w : World) (h : PoolAt lo w pb mb tv ts) (hl : ts.length ≤ 1000) :
    Calls Tryz.prog 9 #[.pointer (some ⟨pb, 0, none⟩)] w fun r w' => ∃ qb a c, r = .returned (.pointer (some ⟨qb, 0, none⟩)) ∧ w'.cell? ⟨qb, 0, none⟩ = some (.slice a ts.length c) ∧ (∀ (j : Nat) (hj : j < ts.length), ∃ b, a = some ⟨b, 0, none⟩ ∧ b < w'.heap.size ∧ w'.cell? ⟨b, j, none⟩ = some (.string ts[j])) ∧ Below w.heap.size w w' := by
  obtain ⟨D, ⟨es, clock, hbm, _⟩, _⟩ := h.map
  have MC : Hid (∀ W, Below w.heap.size w W → Calls Tryz.prog 21 #[.map (some mb)] W fun r w' => ∃ b', r = .returned (.map (some b')) ∧ Below W.heap.size W w') := fun W hW => by
    refine Calls.mono (mclone_any mb es clock W ((hW.block mb (Array.getElem?_eq_some_iff.1 hbm).1).trans hbm)) ?_
    rintro r w' ⟨rfl, rfl⟩
    exact ⟨_, rfl, below_alloc _ _⟩
  have XC : Hid (∀ W, Below w.heap.size w W → W.cell? ⟨pb, 0, none⟩ = some tv ∧ W.cell? ⟨pb, 1, none⟩ = some (.map (some mb))) := fun W hW => (h.step hW).cells
  have hcap : ∃ a c, tv = .slice a ts.length c ∧ ts.length ≤ c ∧ (a = none ∨ ∃ b, a = some ⟨b, 0, none⟩) := by
    rcases h.row.2 with ⟨rfl, h0⟩ | ⟨g, cap, cur, rfl, _, _, hcap, _⟩
    · exact ⟨none, 0, by rw [h0], by omega, .inl rfl⟩
    · exact ⟨_, _, rfl, hcap, .inr ⟨g, rfl⟩⟩
  obtain ⟨a0, c0, hc0, hca⟩ := h.form
  obtain ⟨a, c, rfl, hcap, ha⟩ := hcap
  have e0 : a0 = a ∧ c0 = c := by injection hc0 with q1 _ q3; exact ⟨q1.symm, q3.symm⟩
  obtain ⟨rfl, rfl⟩ := e0
  have CS : Hid (∀ W, Below w.heap.size w W → Calls Tryz.prog 20 #[.slice a0 ts.length c0] W fun r w' => ∃ a' c', r = .returned (.slice a' ts.length c') ∧ (∀ (j : Nat) (hj : j < ts.length), ∃ b, a' = some ⟨b, 0, none⟩ ∧ b < w'.heap.size ∧ w'.cell? ⟨b, j, none⟩ = some (.string ts[j])) ∧ Below W.heap.size W w') := fun W hW => cloneS_any ts a0 c0 W hl hcap (fun j hj => by
    obtain ⟨b, q1, q2, q3⟩ := hca j hj
    exact ⟨b, q1, Nat.lt_of_lt_of_le q2 hW.size, cell_step q3 hW⟩) ha
  obtain ⟨x0, x1⟩ := XC.out w (Below.refl _ _)
  clear h hbm hc0 hca hcap ha
  go_enter Tryz.func9, Tryz.ntmps9
  go_upto_region 1 with (fail)
  go_region_with (first
    | (go_at_call 20; refine Calls.mono (CS.out _ ?_) ?_; (first | with_reducible assumption | with_reducible exact pl_drew1 _); rintro r wC ⟨aC, cC, rfl, hcC, hbC⟩; have kC : Below w.heap.size w wC := (by first | with_reducible exact below_then (pl_drew1 _) hbC | with_reducible exact below_then kM hbC); have HcC : Hid (∀ (j : Nat) (hj : j < ts.length), ∃ b, aC = some ⟨b, 0, none⟩ ∧ b < wC.heap.size ∧ wC.cell? ⟨b, j, none⟩ = some (.string ts[j])) := hcC; obtain ⟨xC0, xC1⟩ := XC.out wC kC; clear hcC)
    | (go_at_call 21; refine Calls.mono (MC.out _ ?_) ?_; (first | with_reducible assumption | with_reducible exact pl_drew1 _); rintro r wM ⟨bM, rfl, hbM⟩; have kM : Below w.heap.size w wM := (by first | with_reducible exact below_then (pl_drew1 _) hbM | with_reducible exact below_then kC hbM); obtain ⟨xM0, xM1⟩ := XC.out wM kM))
  all_goals
    go_wp2
    go_ret
    refine ⟨wM.heap.size, aC, cC, rfl, (blk2 (block_at _ rfl)).1, fun j hj => ?_, below_then kM (below_alloc _ _)⟩
    obtain ⟨b, q1, q2, q3⟩ := HcC.out j hj
    exact ⟨b, q1, by rw [World.size_alloc]; have := hbM.size; omega, cell_alloc _ (cell_step q3 hbM)⟩

/-- the errors of a pool among the eleven -/
def fiv (s : Nat → Addr) (k : Nat) : Addr := if k = 0 then s 0 else if k = 1 then s 1 else if k = 2 then s 4 else if k = 3 then s 5 else s 6
theorem Sents.globp {s : Nat → Addr} {w : World} (g : Sents s w) : GlobP (fiv s) w := ⟨g.c0, g.c1, g.c4, g.c5, g.c6⟩
theorem row_ne_blk {W : World} {base : Nat} {e t : TypeId} {size n : Nat} {v : Value} {xs : List Value} {b : Nat} {cs : Array Value} {fr : Nat × Nat} (h : W.ownsRow base e size v n xs) (hb : W.heap[b]? = some (.cells cs t fr)) (hne : e ≠ t) : v.ownBlock ≠ some b := by
  intro q
  rcases h.2 with ⟨rfl, _⟩ | ⟨g, cap, cur, rfl, _, hh, _⟩
  · cases q
  · have a1 : g = b := Option.some.inj q
    subst a1
    rw [hh] at hb
    have := Option.some.inj hb
    injection this with _ q _
    exact hne q
/-- a pool and the document's, side by side -/
structure Both (lo : Nat) (W : World) (pb mb qb : Nat) (tv mv : Value) (ts : List ByteArray) : Prop where
  p : PoolAt lo W pb mb tv ts
  m : MPl (qb + 1) W qb mv ts
  q : lo ≤ qb
  a : ∀ k, tv.ownBlock = some k → mv.ownBlock ≠ some k
theorem Both.step {lo : Nat} {W W' : World} {pb mb qb : Nat} {tv mv : Value} {ts : List ByteArray} (h : Both lo W pb mb qb tv mv ts) (hb : Below W.heap.size W W') : Both lo W' pb mb qb tv mv ts := ⟨h.p.step hb, h.m.step hb, h.q, h.a⟩
/-- behind Put of the one -/
theorem Both.put1 {lo : Nat} {W W' : World} {pb mb qb : Nat} {tv mv tv' : Value} {ts : List ByteArray} (h : Both lo W pb mb qb tv mv ts) (hk : PKept W W' pb mb tv) (ho : tv'.ownBlock = tv.ownBlock ∨ ∃ k, W.heap.size ≤ k ∧ tv'.ownBlock = some k) : MPl (qb + 1) W' qb mv ts ∧ ∀ k, tv'.ownBlock = some k → mv.ownBlock ≠ some k := by
  have h1 := h.p.hp
  have h2 := h.p.hm
  have h3 := h.q
  refine ⟨h.m.far hk.size (fun k hlt hh => hk.block k hlt ?_ ?_ ?_), fun k q e => ?_⟩
  · rcases hh with rfl | e
    · omega
    · have := (World.ownsRow.lt h.m.row k e).1; omega
  · rcases hh with rfl | e
    · omega
    · have := (World.ownsRow.lt h.m.row k e).1; omega
  · rcases hh with rfl | e
    · exact row_ne_blk h.p.row h.m.blk (by decide)
    · exact fun q => h.a k q e
  · rcases ho with ho | ⟨k', ho1, ho2⟩
    · exact h.a k (ho.symm.trans q) e
    · rw [ho2] at q
      have := (World.ownsRow.lt h.m.row k e).2
      have := Option.some.inj q
      omega
/-- behind Put of the other -/
theorem both_put2 {lo : Nat} {W W' : World} {pb mb qb : Nat} {tv mv mv' : Value} {ts us us' : List ByteArray} (hp : PoolAt lo W pb mb tv ts) (hm : MPl (qb + 1) W qb mv us) (hq : lo ≤ qb) (ha : ∀ k, tv.ownBlock = some k → mv.ownBlock ≠ some k) (hk : PKept W W' qb qb mv) (hm' : MPl (qb + 1) W' qb mv' us') (ho : mv'.ownBlock = mv.ownBlock ∨ ∃ k, W.heap.size ≤ k ∧ mv'.ownBlock = some k) (hu : us' = ts) : Both lo W' pb mb qb tv mv' ts := by
  subst hu
  have h1 := hp.hp
  have h2 := hp.hm
  refine ⟨hp.far hk.size (fun k hlt hh => hk.block k hlt ?_ ?_ ?_), hm', hq, fun k q e => ?_⟩
  · rcases hh with rfl | rfl | e
    · omega
    · omega
    · exact fun q => row_ne_blk hp.row hm.blk (by decide) (q ▸ e)
  · rcases hh with rfl | rfl | e
    · omega
    · omega
    · exact fun q => row_ne_blk hp.row hm.blk (by decide) (q ▸ e)
  · rcases hh with rfl | rfl | e
    · exact fun q => by have := (World.ownsRow.lt hm.row _ q).1; omega
    · exact fun q => by have := (World.ownsRow.lt hm.row _ q).1; omega
    · exact ha k e
  · rcases ho with ho | ⟨k', ho1, ho2⟩
    · exact ha k q (ho.symm.trans e)
    · rw [ho2] at e
      have := (World.ownsRow.lt hp.row k q).2
      have := Option.some.inj e
      omega
end Go.Proofs.YtifbhedomcgonaaGreatDoor
