/- The law DiffChain. -/
import Derived.Test.YtmjojifhpglhoaaGreatDoorJkBD
import Derived.Test.YtmjojifhpglhoaaGreatDoorJkAL
import Derived.Laws.AppendOwnNone
import Derived.Test.YtmjojifhpglhoaaGreatDoorJkAH
import Derived.Test.YtmjojifhpglhoaaGreatDoorJkAM
import Derived.Laws.StructEq
namespace Go.Proofs.YtmjojifhpglhoaaGreatDoor
open Go Go.RowKit Go.Shelf Cal
attribute [local go_sem] Oper.semAt_some

theorem bookOf_C (Es : List EV) (v : Value) (s : Nat → Addr) (w : World) (g : GlobK s w) (hE : EvsL w v Es) (h70 : Es.length ≤ 70) (hl : ∀ E ∈ Es, lngE E = 0) :
    Calls Tryz.prog 8 #[v] w fun r w' => ∃ lo bb mo n va vn vc, r = .returned (.tuple #[.pointer (some ⟨bb, 0, none⟩), .agg #[.slice va vn vc]]) ∧ BookAt lo w' bb mo n (calOf Es) ∧ n ≤ 70 ∧ Below w.heap.size w w' := by
  refine Calls.mono (bookOf_any Es v s w g hE h70 hl) ?_
  rintro r w' ⟨bb, mo, n, vm, Xs, rfl, _, h1, h2, hmr, _, _, h3⟩
  obtain ⟨oa, oc, rfl, _, _⟩ := hmr.form
  exact ⟨_, bb, mo, n, _, _, _, rfl, h1, h2, h3⟩
theorem below_two {b : Nat} {w w1 w2 : World} (h1 : Below b w w1) (h2 : Below b w1 w2) : Below b w w2 :=
  ⟨h2.os.trans h1.os, h2.tape.trans h1.tape, h2.output.trans h1.output, Nat.le_trans h1.size h2.size, fun k hk => (h2.block k hk).trans (h1.block k hk)⟩
end Go.Proofs.YtmjojifhpglhoaaGreatDoor

/- What the merge laws use: the closed fact of two events; Same; Three of calendars one of which is the base, or the other one. -/
namespace Go.Proofs.YtmjojifhpglhoaaGreatDoor
open Go Go.RowKit Go.Maps Go.Sort Cal
attribute [local go_sem] Oper.semAt_some

/-- the listed variables -/
structure GlobM (s : Nat → Addr) (w : World) : Prop where
  gk : GlobK s w
  gr : GlobR w
theorem GlobM.step {s : Nat → Addr} {w w' : World} (g : GlobM s w) (hb : Below w.heap.size w w') : GlobM s w' := ⟨g.gk.step hb, g.gr.step hb⟩
def E8 : EV := ⟨⟨#[98]⟩, ⟨#[]⟩, 8, 1, ⟨#[111, 110, 99, 101]⟩, 1, [], 0, -1, [], []⟩
theorem E8_well : EW E8 := by
  refine ⟨⟨fun j h => ?_, by decide, by decide⟩, E7_well.ti, ⟨by decide, by decide⟩, E7_well.rl, by decide⟩
  have h' : j < 1 := h
  match j, h' with
  | 0, _ => show okc 98; left; decide
theorem E8_k : EvK E8 0 := by
  obtain ⟨k, hk⟩ := evK_ex E8
  have := (evK_0 hk).2 E8_well
  rwa [this] at hk
theorem puts_C (E : EV) (hk : EvK E 0) (hi : E.id.size ≤ 60) (ht : E.ti.size ≤ 60) (hd : E.ds = []) (hs : E.sk = []) (hm : E.mv = []) (lo bb : Nat) (s : Nat → Addr) (w : World) (g : GlobK s w) (h : BookAt lo w bb none 0 []) : Calls Tryz.prog 18 #[.pointer (some ⟨bb, 0, none⟩), ev E (.slice none 0 0) (.slice none 0 0) (.slice none 0 0)] w fun r w' => r = .returned .nilIface ∧ PutTo lo w w' bb none 0 [E] := by
  refine Calls.mono (put_C lo bb 0 none [] E _ _ _ 0 s w g h (by decide) hi ht ⟨by rw [hd]; exact Days.nil _ _, by rw [hs]; exact Ints.nil _ _, by rw [hm]; exact Movs.nil _ _⟩ hk) ?_
  rintro r w' (⟨h, _⟩ | ⟨_, ⟨_, h⟩, _⟩ | ⟨_, _, rfl, hP⟩)
  · exact absurd rfl h
  · exact absurd h (by decide)
  · exact ⟨rfl, hP⟩
theorem thr78 : thr [] [E7] [E8] (idsU [E7] [E8]) = ([E7, E8], []) := by
  have hR : Rises [E7, E8] := List.pairwise_cons.2 ⟨fun F hF => by rw [List.mem_singleton.1 hF]; decide, List.pairwise_singleton _ _⟩
  have e7 : lkC [E7, E8] E7.id = some E7 := evOf_of hR (by simp)
  have e8 : lkC [E7, E8] E8.id = some E8 := evOf_of hR (by simp)
  have a7 : lkC [E7] E7.id = some E7 := evOf_of (List.pairwise_singleton _ _) (by simp)
  have a8 : lkC [E7] E8.id = none := evOf_none.2 (by rintro ⟨E, hE, e⟩; rw [List.mem_singleton.1 hE] at e; exact absurd e (by decide))
  have b8 : lkC [E8] E8.id = some E8 := evOf_of (List.pairwise_singleton _ _) (by simp)
  have b7 : lkC [E8] E7.id = none := evOf_none.2 (by rintro ⟨E, hE, e⟩; rw [List.mem_singleton.1 hE] at e; exact absurd e (by decide))
  have n0 : ∀ id, lkC [] id = none := fun id => rfl
  refine thr_of hR (by decide) (idsU_nodup _ _) (fun E hE => (idsU_mem _ _ _).2 ?_) (fun id hid => ?_)
  · rcases List.mem_cons.1 hE with rfl | hE
    · exact .inl ⟨E7, by simp, rfl⟩
    · rw [List.mem_singleton.1 hE]; exact .inr ⟨E8, by simp, rfl⟩
  · rcases (idsU_mem _ _ _).1 hid with ⟨E, hE, rfl⟩ | ⟨E, hE, rfl⟩
    · rw [List.mem_singleton.1 hE, e7, a7, b7, n0]
      exact jR_left _ _
    · rw [List.mem_singleton.1 hE, e8, a8, b8, n0]
      exact jR_right (fun E q => by cases q) (fun E q => by cases q; exact E8_well)
theorem txs2 (W : World) (x y : ByteArray) : Txs (W.alloc (.cells #[.string x, .string y] 9)) (.slice (some ⟨W.heap.size, 0, none⟩) 2 2) [x, y] := by
  refine ⟨_, _, rfl, by simp, by simp, fun j hj => ⟨W.heap.size, rfl, by rw [World.size_alloc]; omega, ?_⟩⟩
  have h2 : j < 2 := hj
  match j, h2 with
  | 0, _ => show (W.alloc (.cells #[.string x, .string y] 9)).cell? ⟨W.heap.size, 0, none⟩ = some (.string x); simp
  | 1, _ => show (W.alloc (.cells #[.string x, .string y] 9)).cell? ⟨W.heap.size, 1, none⟩ = some (.string y); simp
/-- a book is left by a put into another one that has no map yet -/
theorem BookAt.other {la ba na lb bb nb : Nat} {ma : Option Nat} {C B : List EV} {W W' : World} (h : BookAt la W ba ma na C) (hB : BookAt lb W bb none nb B) (hne : ba ≠ bb) (hk : Kept W W' bb none) : BookAt la W' ba ma na C := by
  obtain ⟨D', hb, _⟩ := hB
  have hbb : W.heap[bb]? = some (.cells #[.map none] 90 (0, 0)) := hb.1
  have c0 : W.cell? ⟨bb, 0, none⟩ = some (.map none) := cell_of hbb
  obtain ⟨D, h1, h2, h3, h4⟩ := h
  refine ⟨D, ⟨(hk.block ba (Array.getElem?_eq_some_iff.1 h1.1).1 hne (by simp)).trans h1.1, ?_⟩, Nat.le_trans h2 hk.size, h3, h4.up, h4.tidy, h4.size, h4.has, fun E hE => ?_⟩
  · cases ma with
    | none => exact h1.2
    | some mb =>
      obtain ⟨q0, q⟩ := h1.2
      refine ⟨q0, q.kept (row := some bb) ⟨hk.os, hk.tape, hk.output, hk.size, fun k hkk hn => hk.block k hkk (fun e => hn (by rw [e])) (by simp)⟩ (fun e => ?_)⟩
      obtain ⟨es, clock, hm, _⟩ := q
      have e' : mb = bb := Option.some.inj e
      rw [e', hbb] at hm
      cases hm
  · obtain ⟨q, sl, skv, mvv, q1, q2⟩ := h4.at_ E hE
    have ne : ∀ {b j : Nat} {x : Int}, W.cell? ⟨b, j, none⟩ = some (.int .i64 x) → j = 0 → b ≠ bb := fun {b j x} hc hj e => by
      subst e hj
      rw [c0] at hc
      cases hc
    have hc2 : ∀ {b j : Nat} {v : Value}, b ≠ bb → W.cell? ⟨b, j, none⟩ = some v → W'.cell? ⟨b, j, none⟩ = some v := fun {b j v} hb hc => kept_cellM hk hc hb (by simp)
    have HI : ∀ {v : Value} {xs : List Int}, OffI (NotIn la ba ma) W v xs → OffI (NotIn la ba ma) W' v xs := fun {v xs} hO => by
      obtain ⟨a, c, r1, r2, r3, r4⟩ := hO
      refine ⟨a, c, r1, r2, r3, fun j hj => ?_⟩
      obtain ⟨b, e, hn, hl, hc⟩ := r4 j hj
      obtain ⟨b', e', _, _, hc'⟩ := r4 0 (by omega)
      have eb : b' = b := by rw [e] at e'; cases e'; rfl
      rw [eb] at hc'
      exact ⟨b, e, hn, Nat.lt_of_lt_of_le hl hk.size, hc2 (ne hc' rfl) hc⟩
    have HM : ∀ {v : Value} {xs : List (Int × Int)}, OffM (NotIn la ba ma) W v xs → OffM (NotIn la ba ma) W' v xs := fun {v xs} hO => by
      obtain ⟨a, c, r1, r2, r3, r4⟩ := hO
      refine ⟨a, c, r1, r2, r3, fun j hj => ?_⟩
      obtain ⟨b, e, hn, hl, hc, hd⟩ := r4 j hj
      obtain ⟨b', e', _, _, hc', _⟩ := r4 0 (by omega)
      have eb : b' = b := by rw [e] at e'; cases e'; rfl
      rw [eb] at hc'
      exact ⟨b, e, hn, Nat.lt_of_lt_of_le hl hk.size, hc2 (ne hc' (by omega)) hc, hc2 (ne hc' (by omega)) hd⟩
    exact ⟨q, sl, skv, mvv, q1, HI q2.d, HI q2.s, HM q2.m⟩
/-- Three of calendars of which one is the base, or the other one -/
theorem three_one (pb : Option Addr) (X : List EV) (l2 b2 n2 : Nat) (o2 : Option Nat) (Y : List EV) (l3 b3 n3 : Nat) (o3 : Option Nat) (Z T : List EV) (s : Nat → Addr) (w : World) (g : GlobM s w) (h1 : GetC w pb X) (hX : ∀ E ∈ X, EW E ∧ E.ds.length ≤ 20) (h2 : BookAt l2 w b2 o2 n2 Y) (h3 : BookAt l3 w b3 o3 n3 Z) (hn2 : n2 ≤ 70) (hn3 : n3 ≤ 70) (hy : Y.length ≤ 60) (hz : Z.length ≤ 60) (hT : thr X Y Z (idsU Y Z) = (T, [])) :
    Calls Tryz.prog 9 #[.pointer pb, .pointer (some ⟨b2, 0, none⟩), .pointer (some ⟨b3, 0, none⟩)] w fun r w' => ∃ lt bt mt nt, r = .returned (.tuple #[.pointer (some ⟨bt, 0, none⟩), .slice none 0 0]) ∧ BookAt lt w' bt mt nt T ∧ nt ≤ 1000 ∧ Below w.heap.size w w' := by
  refine (three_C pb X l2 b2 n2 o2 Y l3 b3 n3 o3 Z s w g.gk g.gr h1 hX h2 h3 (by omega) (by omega) hy hz).mono ?_
  rw [hT]
  rintro r w' ⟨hb, ⟨_, mo, n, rfl, hB, hn⟩ | ⟨q, _⟩⟩
  · exact ⟨_, _, mo, n, rfl, hB, hn, hb⟩
  · exact absurd rfl q
set_option maxHeartbeats 4000000 in
set_option maxRecDepth 100000 in
theorem merged_any (s : Nat → Addr) (w : World) (g : GlobM s w) : Calls Tryz.prog 6 #[] w fun r w' => r = .returned (.bool true) ∧ Below w.heap.size w w' := by
  have NW : Hid (∀ W, _) := fun W => bookAt_new W
  have S7 : Hid (∀ W, Calls Tryz.prog 19 #[.string ⟨#[97]⟩, .int .i64 7] W fun r w' => r = .returned (ev E7 (.slice none 0 0) (.slice none 0 0) (.slice none 0 0)) ∧ Below W.heap.size W w') := fun W => small_any _ _ _
  have S8 : Hid (∀ W, Calls Tryz.prog 19 #[.string ⟨#[98]⟩, .int .i64 8] W fun r w' => r = .returned (ev E8 (.slice none 0 0) (.slice none 0 0) (.slice none 0 0)) ∧ Below W.heap.size W w') := fun W => small_any _ _ _
  have HG : Hid (GlobM s w) := g
  clear g
  go_enter Tryz.func6, Tryz.ntmps6
  go_upto_region 2 with (go_at_call 17; refine Calls.mono (NW.out w) ?_; rintro r w1 ⟨rfl, hB1, hb1⟩)
  have BA : Hid (BookAt w.heap.size w1 w.heap.size none 0 []) := hB1
  have BW1 : Hid (Below w.heap.size w w1) := hb1
  have HL1 : Hid (w.heap.size < w1.heap.size) := hB1.lt.1
  clear hB1 hb1
  go_upto_region 3 with (go_at_call 17; refine Calls.mono (NW.out w1) ?_; rintro r w2 ⟨rfl, hB2, hb2⟩)
  have BB : Hid (BookAt w1.heap.size w2 w1.heap.size none 0 []) := hB2
  have BW2 : Hid (Below w1.heap.size w1 w2) := hb2
  have BA2 : Hid (BookAt w.heap.size w2 w.heap.size none 0 []) := BA.out.step hb2
  clear hB2 hb2 BA
  have hne : w.heap.size ≠ w1.heap.size := Nat.ne_of_lt HL1.out
  go_wp2_with fail
  go_at_call 19
  refine Calls.mono (S7.out _) ?_
  rintro r w3 ⟨rfl, hb3⟩
  have BW3 : Hid (Below w.heap.size w w3) := below_then (below_then BW1.out BW2.out) hb3
  have BA3 : Hid (BookAt w.heap.size w3 w.heap.size none 0 []) := BA2.out.step hb3
  have BB3 : Hid (BookAt w1.heap.size w3 w1.heap.size none 0 []) := BB.out.step hb3
  have P3 : Hid (Calls _ _ _ _ _) := puts_C E7 E7_k (by decide) (by decide) rfl rfl rfl w.heap.size w.heap.size s w3 (HG.out.step BW3.out).gk BA3.out
  clear hb3 BA2 BB BW2
  go_wp2_with fail
  go_at_call 18
  refine Calls.mono P3.out ?_
  rintro r w4 ⟨rfl, mo4, hB4, hK4, hm4⟩
  have BW4 : Hid (Below w.heap.size w w4) := hK4.below BW3.out (Nat.le_refl _) (fun m q => by cases q)
  have BA4 : Hid (BookAt w.heap.size w4 w.heap.size mo4 (0 + 1) [E7]) := hB4
  have BB4 : Hid (BookAt w1.heap.size w4 w1.heap.size none 0 []) := BB3.out.other BA3.out (Ne.symm hne) hK4
  clear hB4 hK4 hm4 BA3 BB3 BW3 P3
  go_wp2_with fail
  go_at_call 19
  refine Calls.mono (S8.out _) ?_
  rintro r w5 ⟨rfl, hb5⟩
  have BW5 : Hid (Below w.heap.size w w5) := below_then BW4.out hb5
  have BA5 : Hid (BookAt w.heap.size w5 w.heap.size mo4 (0 + 1) [E7]) := BA4.out.step hb5
  have BB5 : Hid (BookAt w1.heap.size w5 w1.heap.size none 0 []) := BB4.out.step hb5
  have P5 : Hid (Calls _ _ _ _ _) := puts_C E8 E8_k (by decide) (by decide) rfl rfl rfl w1.heap.size w1.heap.size s w5 (HG.out.step BW5.out).gk BB5.out
  clear hb5 BA4 BB4 BW4
  go_wp2_with fail
  go_at_call 18
  refine Calls.mono P5.out ?_
  rintro r w6 ⟨rfl, mo6, hB6, hK6, hm6⟩
  have BW6 : Hid (Below w.heap.size w w6) := hK6.below BW5.out (Nat.le_of_lt HL1.out) (fun m q => by cases q)
  have BB6 : Hid (BookAt w1.heap.size w6 w1.heap.size mo6 (0 + 1) [E8]) := hB6
  have BA6 : Hid (BookAt w.heap.size w6 w.heap.size mo4 (0 + 1) [E7]) := BA5.out.other BB5.out hne hK6
  clear hB6 hK6 hm6 BA5 BB5 BW5 P5
  go_upto_region 5 with (fail)
  have HTC : Hid (Calls _ _ _ _ _) := three_one none [] w.heap.size w.heap.size (0 + 1) mo4 [E7] w1.heap.size w1.heap.size (0 + 1) mo6 [E8] [E7, E8] s w6 (HG.out.step BW6.out) (getC_nil _) (fun E hE => absurd hE List.not_mem_nil) BA6.out BB6.out (by decide) (by decide) (by decide) (by decide) thr78
  clear BA6 BB6 S7 S8 NW
  generalize w1.heap.size = ab at *
  go_upto_region 6 with (go_at_call 9; refine Calls.mono HTC.out ?_; rintro r w7 ⟨lt, bt, mo7, n7, rfl, hB7, hn7, hb7⟩)
  have BW7 : Hid (Below w.heap.size w w7) := below_then BW6.out hb7
  have IT : Hid (Calls _ _ _ _ _) := ids_C _ _ _ _ _ w7 hB7 (Nat.le_trans hn7 (by decide))
  clear hb7 hB7 hn7 HTC
  go_wp2_with (first
    | (go_at_call 14; refine Calls.mono IT.out ?_; rintro r w8 ⟨v8, rfl, hr8, hb8⟩; have BW8 : Hid (Below w.heap.size w w8) := below_then BW7.out hb8; have T8 : Hid (Txs w8 v8 [E7.id, E8.id]) := hr8.txs (by decide); obtain ⟨y1, y2, rfl⟩ := rowV_form hr8; clear hr8 hb8)
    | (go_at_call 20; refine Calls.mono (sameTexts_eq (T8.out.step (below_alloc _ _)) (txs2 w8 ⟨#[97]⟩ ⟨#[98]⟩)) ?_; rintro r w9 ⟨rfl, hb9⟩))
  go_ret
  exact ⟨rfl, below_then BW8.out (below_then (below_alloc _ _) hb9)⟩
theorem BookAt.allw {lo bb n : Nat} {mo : Option Nat} {X : List EV} {w : World} (h : BookAt lo w bb mo n X) : AllW X := fun E hE => (book_ok h E hE).1
end Go.Proofs.YtmjojifhpglhoaaGreatDoor

/- The document's own SameEvent, SameRule over two events that are one. -/
namespace Go.Proofs.YtmjojifhpglhoaaGreatDoor
open Go Go.RowKit Cal
attribute [local go_sem] Oper.semAt_some

theorem same_ints {W : World} {v1 v2 : Value} {o : List Int} (h1 : Ints W v1 o) (h2 : Ints W v2 o) :
    Calls Tryz.prog 42 #[v1, v2] W fun e w' => e = .returned (.bool true) ∧ Below W.heap.size W w' := by
  obtain ⟨a1, c1, rfl, hl, _, h1⟩ := h1
  obtain ⟨a2, c2, rfl, _, _, h2⟩ := h2
  by_cases h0 : o.length = 0
  · rw [h0]
    exact same_zero a1 a2 c1 c2 W
  · obtain ⟨g1, rfl, _⟩ := h1 0 (by omega)
    obtain ⟨g2, rfl, _⟩ := h2 0 (by omega)
    refine same_yes g1 g2 o.length c1 c2 (fun i => o.getD i 0) W (by omega) (fun i hi => ?_) (fun i hi => ?_)
    · obtain ⟨b, e, _, hc⟩ := h1 i hi
      cases e
      rw [hc, List.getD_eq_getElem?_getD, List.getElem?_eq_getElem hi]; rfl
    · obtain ⟨b, e, _, hc⟩ := h2 i hi
      cases e
      rw [hc, List.getD_eq_getElem?_getD, List.getElem?_eq_getElem hi]; rfl

set_option maxHeartbeats 1000000 in
theorem sameRule_any (f : ByteArray) (e : Int) (sl sl' : Value) (c u : Int) (ds : List Int) (w : World) (hd : Days w sl ds) (hd' : Days w sl' ds) :
    Calls Tryz.prog 41 #[rv f e sl c u, rv f e sl' c u] w fun r w' => r = .returned (.bool true) ∧ Below w.heap.size w w' := by
  have hA := below_box2 w (.cells #[.string f, .int .i64 e, sl, .int .i64 c, .int .i64 u] 46) (.cells #[.string f, .int .i64 e, sl', .int .i64 c, .int .i64 u] 46)
  have k0 : ((w.alloc (.cells #[.string f, .int .i64 e, sl, .int .i64 c, .int .i64 u] 46)).alloc (.cells #[.string f, .int .i64 e, sl', .int .i64 c, .int .i64 u] 46)).heap[w.heap.size]? = some (.cells #[.string f, .int .i64 e, sl, .int .i64 c, .int .i64 u] 46 (0, 0)) := block_alloc _ (block_at _ rfl)
  have k1 : ((w.alloc (.cells #[.string f, .int .i64 e, sl, .int .i64 c, .int .i64 u] 46)).alloc (.cells #[.string f, .int .i64 e, sl', .int .i64 c, .int .i64 u] 46)).heap[w.heap.size + 1]? = some (.cells #[.string f, .int .i64 e, sl', .int .i64 c, .int .i64 u] 46 (0, 0)) := block_at _ (by simp)
  have SI : Hid (Calls _ _ _ _ _) := same_ints (days_ints (hd.step hA)) (days_ints (hd'.step hA))
  obtain ⟨ra, rc, rfl, _⟩ := hd
  obtain ⟨ra1, rc1, rfl, _⟩ := hd'
  have HA : Hid (_) := hA
  clear hA
  unfold rv
  generalize hw0 : (w.alloc (.cells #[.string f, .int .i64 e, .slice ra ds.length rc, .int .i64 c, .int .i64 u] 46)).alloc (.cells #[.string f, .int .i64 e, .slice ra1 ds.length rc1, .int .i64 c, .int .i64 u] 46) = w0 at HA k0 k1 SI
  obtain ⟨x0, x1, x2, x3, x4⟩ := blk5 k0
  obtain ⟨y0, y1, y2, y3, y4⟩ := blk5 k1
  clear k0 k1
  go_enter Tryz.func41, Tryz.ntmps41
  go_wp2_with (go_at_call 42; refine Calls.mono SI.out ?_; rintro r w1 ⟨rfl, hb1⟩)
  go_ret
  exact ⟨rfl, below_then HA.out hb1⟩

set_option maxHeartbeats 4000000 in
set_option maxRecDepth 100000 in
theorem sameEvent_any (E : EV) (sl skv mvv sl' skv' mvv' : Value) (w : World) (h1 : Ls w E sl skv mvv) (h2 : Ls w E sl' skv' mvv') :
    Calls Tryz.prog 16 #[ev E sl skv mvv, ev E sl' skv' mvv'] w fun r w' => r = .returned (.bool true) ∧ Below w.heap.size w w' := by
  have HL1 : Hid (Ls w E sl skv mvv) := h1
  have HL2 : Hid (Ls w E sl' skv' mvv') := h2
  obtain ⟨hd, hs, hm⟩ := h1
  obtain ⟨hd', hs', hm'⟩ := h2
  obtain ⟨ra, rc, rfl, _⟩ := hd
  obtain ⟨sa, sc, rfl, _⟩ := hs
  obtain ⟨ma, mc, rfl, hml, _⟩ := hm
  obtain ⟨ra1, rc1, rfl, _⟩ := hd'
  obtain ⟨sa1, sc1, rfl, _⟩ := hs'
  obtain ⟨ma1, mc1, rfl, _⟩ := hm'
  obtain ⟨idn, ti, st, lg, f, e, ds, c, u, sk, mv⟩ := E
  unfold ev
  dsimp only at *
  have hA := below_box2 w (.cells #[.string idn, .string ti, .int .i64 st, .int .i64 lg, .string f, .int .i64 e, .slice ra ds.length rc, .int .i64 c, .int .i64 u, .slice sa sk.length sc, .slice ma mv.length mc] 49) (.cells #[.string idn, .string ti, .int .i64 st, .int .i64 lg, .string f, .int .i64 e, .slice ra1 ds.length rc1, .int .i64 c, .int .i64 u, .slice sa1 sk.length sc1, .slice ma1 mv.length mc1] 49)
  have k0 : ((w.alloc (.cells #[.string idn, .string ti, .int .i64 st, .int .i64 lg, .string f, .int .i64 e, .slice ra ds.length rc, .int .i64 c, .int .i64 u, .slice sa sk.length sc, .slice ma mv.length mc] 49)).alloc (.cells #[.string idn, .string ti, .int .i64 st, .int .i64 lg, .string f, .int .i64 e, .slice ra1 ds.length rc1, .int .i64 c, .int .i64 u, .slice sa1 sk.length sc1, .slice ma1 mv.length mc1] 49)).heap[w.heap.size]? = some (.cells #[.string idn, .string ti, .int .i64 st, .int .i64 lg, .string f, .int .i64 e, .slice ra ds.length rc, .int .i64 c, .int .i64 u, .slice sa sk.length sc, .slice ma mv.length mc] 49 (0, 0)) := block_alloc _ (block_at _ rfl)
  have k1 : ((w.alloc (.cells #[.string idn, .string ti, .int .i64 st, .int .i64 lg, .string f, .int .i64 e, .slice ra ds.length rc, .int .i64 c, .int .i64 u, .slice sa sk.length sc, .slice ma mv.length mc] 49)).alloc (.cells #[.string idn, .string ti, .int .i64 st, .int .i64 lg, .string f, .int .i64 e, .slice ra1 ds.length rc1, .int .i64 c, .int .i64 u, .slice sa1 sk.length sc1, .slice ma1 mv.length mc1] 49)).heap[w.heap.size + 1]? = some (.cells #[.string idn, .string ti, .int .i64 st, .int .i64 lg, .string f, .int .i64 e, .slice ra1 ds.length rc1, .int .i64 c, .int .i64 u, .slice sa1 sk.length sc1, .slice ma1 mv.length mc1] 49 (0, 0)) := block_at _ (by simp)
  have L1 := HL1.out.step hA
  have L2 := HL2.out.step hA
  have SR := sameRule_any f e _ _ c u ds _ L1.d L2.d
  unfold rv at SR
  have HSR : Hid (Calls _ _ _ _ _) := SR
  have HA : Hid (_) := hA
  have HK0 : Hid (_) := k0
  have HK1 : Hid (_) := k1
  have M1 : Hid (Ls _ ⟨idn, ti, st, lg, f, e, ds, c, u, sk, mv⟩ (.slice ra ds.length rc) (.slice sa sk.length sc) (.slice ma mv.length mc)) := L1
  have M2 : Hid (Ls _ ⟨idn, ti, st, lg, f, e, ds, c, u, sk, mv⟩ (.slice ra1 ds.length rc1) (.slice sa1 sk.length sc1) (.slice ma1 mv.length mc1)) := L2
  clear SR L1 L2 HL1 HL2 hA
  generalize hw0 : (w.alloc (.cells #[.string idn, .string ti, .int .i64 st, .int .i64 lg, .string f, .int .i64 e, .slice ra ds.length rc, .int .i64 c, .int .i64 u, .slice sa sk.length sc, .slice ma mv.length mc] 49)).alloc (.cells #[.string idn, .string ti, .int .i64 st, .int .i64 lg, .string f, .int .i64 e, .slice ra1 ds.length rc1, .int .i64 c, .int .i64 u, .slice sa1 sk.length sc1, .slice ma1 mv.length mc1] 49) = w0 at HA k0 k1 HK0 HK1 HSR M1 M2
  obtain ⟨x0, x1, x2, x3, x4, x5, x6, x7, x8, x9, x10⟩ := blk11 k0
  obtain ⟨y0, y1, y2, y3, y4, y5, y6, y7, y8, y9, y10⟩ := blk11 k1
  clear k0 k1
  go_enter Tryz.func16, Tryz.ntmps16
  go_upto_region 3 with (go_at_call 41; refine Calls.mono HSR.out ?_; rintro r w1 ⟨rfl, hb1⟩)
  have HK2 : Hid (_) := (hb1.block _ (Array.getElem?_eq_some_iff.1 HK0.out).1).trans HK0.out
  have HK3 : Hid (_) := (hb1.block _ (Array.getElem?_eq_some_iff.1 HK1.out).1).trans HK1.out
  have N1 : Hid (Ls w1 ⟨idn, ti, st, lg, f, e, ds, c, u, sk, mv⟩ (.slice ra ds.length rc) (.slice sa sk.length sc) (.slice ma mv.length mc)) := M1.out.step hb1
  have N2 : Hid (Ls w1 ⟨idn, ti, st, lg, f, e, ds, c, u, sk, mv⟩ (.slice ra1 ds.length rc1) (.slice sa1 sk.length sc1) (.slice ma1 mv.length mc1)) := M2.out.step hb1
  have BW1 : Hid (Below w.heap.size w w1) := below_then HA.out hb1
  have SI : Hid (Calls _ _ _ _ _) := same_ints N1.out.s N2.out.s
  clear x0 x1 x2 x3 x4 x5 x6 x7 x8 x9 x10 y0 y1 y2 y3 y4 y5 y6 y7 y8 y9 y10 HK0 HK1 M1 M2 HSR HA hb1 hw0
  obtain ⟨x0, x1, x2, x3, x4, x5, x6, x7, x8, x9, x10⟩ := blk11 HK2.out
  obtain ⟨y0, y1, y2, y3, y4, y5, y6, y7, y8, y9, y10⟩ := blk11 HK3.out
  go_upto_region 5 with (go_at_call 42; refine Calls.mono SI.out ?_; rintro r w2 ⟨rfl, hb2⟩; have HK4 : Hid (_) := (hb2.block _ (Array.getElem?_eq_some_iff.1 HK2.out).1).trans HK2.out; have HK5 : Hid (_) := (hb2.block _ (Array.getElem?_eq_some_iff.1 HK3.out).1).trans HK3.out; clear x0 x1 x2 x3 x4 x5 x6 x7 x8 x9 x10 y0 y1 y2 y3 y4 y5 y6 y7 y8 y9 y10; obtain ⟨x0, x1, x2, x3, x4, x5, x6, x7, x8, x9, x10⟩ := blk11 HK4.out; obtain ⟨y0, y1, y2, y3, y4, y5, y6, y7, y8, y9, y10⟩ := blk11 HK5.out)
  have P1 : Hid (Movs w2 (.slice ma mv.length mc) mv) := N1.out.m.step hb2
  have P2 : Hid (Movs w2 (.slice ma1 mv.length mc1) mv) := N2.out.m.step hb2
  have BW2 : Hid (Below w.heap.size w w2) := below_then BW1.out hb2
  clear N1 N2 BW1 SI hb2 HK2 HK3 HK4 HK5 x0 x1 x2 x3 x4 x5 x6 x7 x8 x9 y0 y1 y2 y3 y4 y5 y6 y7 y8 y9
  go_wp2
  go_loopw [5] (fun i wr => ∃ k q : Nat, k ≤ mv.length ∧ i = .int .i64 k ∧ wr = w2.drewN q) (fun i _ => mv.length - (intOf i).toNat)
  case atStart => exact ⟨0, 0, Nat.zero_le _, rfl, rfl⟩
  case round =>
    obtain ⟨k, q, hk, rfl, rfl⟩ := hrel
    by_cases hlt : k < mv.length
    · obtain ⟨aa, ca, ea, _, _, hca⟩ := P1.out
      cases ea
      obtain ⟨ab, cb, eb, _, _, hcb⟩ := P2.out
      cases eb
      obtain ⟨b1, rfl, _, p1, p2⟩ := hca k hlt
      obtain ⟨b2, rfl, _, p3, p4⟩ := hcb k hlt
      have hlt' : (k : Int) < (mv.length : Int) := by omega
      generalize mv[k] = y at p1 p2 p3 p4
      clear hca hcb P1 P2
      go_wp2
      go_quiet (fail)
      go_wp2
      go_roundw
      case rel => exact ⟨k + 1, _, by omega, by go_num, rfl⟩
      case measure => simp [intOf]; omega
    · go_wp2
      go_ret
      exact ⟨rfl, below_then BW2.out (drewN_below _ _)⟩
end Go.Proofs.YtmjojifhpglhoaaGreatDoor
