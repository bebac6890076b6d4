/- The law DiffChain. -/
import Derived.Test.YtmjojifhpglhoaaGreatDoorJsBD
import Derived.Test.YtmjojifhpglhoaaGreatDoorJsAL
import Derived.Laws.AppendOwnNone
import Derived.Laws.StructEq
import Derived.Test.YtmjojifhpglhoaaGreatDoorRows
import Derived.JoinedOf
namespace Go.Proofs.YtmjojifhpglhoaaGreatDoor
open Go Go.RowKit Go.Shelf Cal
attribute [local go_sem] Oper.semAt_some

theorem bookOf_C (Es : List EV) (v : Value) (s : Nat → Addr) (w : World) (g : GlobK s w) (hE : EvsL w v Es) (h70 : Es.length ≤ 70) (hl : ∀ E ∈ Es, lngE E = 0) :
    Calls Tryz.prog 8 #[v] w fun r w' => ∃ lo bb mo n va vn vc, r = .returned (.tuple #[.pointer (some ⟨bb, 0, none⟩), .agg #[.slice va vn vc]]) ∧ BookAt lo w' bb mo n (calOf Es) ∧ n ≤ 70 ∧ Below w.heap.size w w' := by
  refine Calls.mono (bookOf_any Es v s w g hE h70 hl) ?_
  rintro r w' ⟨bb, mo, n, vm, Xs, rfl, _, h1, h2, hmr, _, _, h3⟩
  obtain ⟨oa, oc, rfl, _, _⟩ := hmr.form
  exact ⟨_, bb, mo, n, _, _, _, rfl, h1, h2, h3⟩
end Go.Proofs.YtmjojifhpglhoaaGreatDoor

/- What the merge laws use: the closed fact of two events; Same; Three of calendars one of which is the base, or the other one. -/
namespace Go.Proofs.YtmjojifhpglhoaaGreatDoor
open Go Go.RowKit Go.Maps Go.Sort Cal
attribute [local go_sem] Oper.semAt_some

/-- the listed variables -/
structure GlobM (s : Nat → Addr) (w : World) : Prop where
  gk : GlobK s w
  gr : GlobR w
theorem GlobM.step {s : Nat → Addr} {w w' : World} (g : GlobM s w) (hb : Below w.heap.size w w') : GlobM s w' := ⟨g.gk.step hb, g.gr.step hb⟩
theorem same_okM (la ba na : Nat) (ma : Option Nat) (lb bb nb : Nat) (mb : Option Nat) (C : List EV) (s : Nat → Addr) (w : World) (g : GlobM s w) (hX : BookAt la w ba ma na C) (hY : BookAt lb w bb mb nb C) (hn1 : na ≤ 100000) (hn2 : nb ≤ 100000) (hC : C.length ≤ 60) :
    Calls Tryz.prog 13 #[.pointer (some ⟨ba, 0, none⟩), .pointer (some ⟨bb, 0, none⟩)] w fun r w' => r = .returned (.bool true) ∧ Below w.heap.size w w' := by
  refine Calls.mono (same_C _ _ _ _ w (btext_C la ba na ma C s w g.gk g.gr hX hn1 hC) (fun W hW => btext_C lb bb nb mb C s W (g.step hW).gk (g.step hW).gr (hY.step hW) hn2 hC)) ?_
  rintro r w' ⟨rfl, hb⟩
  exact ⟨by rw [beq_self_eq_true], hb⟩
def E8 : EV := ⟨⟨#[98]⟩, ⟨#[]⟩, 8, 1, ⟨#[111, 110, 99, 101]⟩, 1, [], 0, -1, [], []⟩
theorem E8_well : EW E8 := by
  refine ⟨⟨fun j h => ?_, by decide, by decide⟩, E7_well.ti, ⟨by decide, by decide⟩, E7_well.rl, by decide⟩
  have h' : j < 1 := h
  match j, h' with
  | 0, _ => show okc 98; left; decide
theorem E8_k : EvK E8 0 := by
  obtain ⟨k, hk⟩ := evK_ex E8
  have := (evK_0 hk).2 E8_well
  rwa [this] at hk
theorem puts_C (E : EV) (hk : EvK E 0) (hi : E.id.size ≤ 60) (ht : E.ti.size ≤ 60) (hd : E.ds = []) (hs : E.sk = []) (hm : E.mv = []) (lo bb : Nat) (s : Nat → Addr) (w : World) (g : GlobK s w) (h : BookAt lo w bb none 0 []) : Calls Tryz.prog 18 #[.pointer (some ⟨bb, 0, none⟩), ev E (.slice none 0 0) (.slice none 0 0) (.slice none 0 0)] w fun r w' => r = .returned .nilIface ∧ PutTo lo w w' bb none 0 [E] := by
  refine Calls.mono (put_C lo bb 0 none [] E _ _ _ 0 s w g h (by decide) hi ht ⟨by rw [hd]; exact Days.nil _ _, by rw [hs]; exact Ints.nil _ _, by rw [hm]; exact Movs.nil _ _⟩ hk) ?_
  rintro r w' (⟨h, _⟩ | ⟨_, ⟨_, h⟩, _⟩ | ⟨_, _, rfl, hP⟩)
  · exact absurd rfl h
  · exact absurd h (by decide)
  · exact ⟨rfl, hP⟩
theorem thr78 : thr [] [E7] [E8] (idsU [E7] [E8]) = ([E7, E8], []) := by
  have hR : Rises [E7, E8] := List.pairwise_cons.2 ⟨fun F hF => by rw [List.mem_singleton.1 hF]; decide, List.pairwise_singleton _ _⟩
  have e7 : lkC [E7, E8] E7.id = some E7 := evOf_of hR (by simp)
  have e8 : lkC [E7, E8] E8.id = some E8 := evOf_of hR (by simp)
  have a7 : lkC [E7] E7.id = some E7 := evOf_of (List.pairwise_singleton _ _) (by simp)
  have a8 : lkC [E7] E8.id = none := evOf_none.2 (by rintro ⟨E, hE, e⟩; rw [List.mem_singleton.1 hE] at e; exact absurd e (by decide))
  have b8 : lkC [E8] E8.id = some E8 := evOf_of (List.pairwise_singleton _ _) (by simp)
  have b7 : lkC [E8] E7.id = none := evOf_none.2 (by rintro ⟨E, hE, e⟩; rw [List.mem_singleton.1 hE] at e; exact absurd e (by decide))
  have n0 : ∀ id, lkC [] id = none := fun id => rfl
  refine thr_of hR (by decide) (idsU_nodup _ _) (fun E hE => (idsU_mem _ _ _).2 ?_) (fun id hid => ?_)
  · rcases List.mem_cons.1 hE with rfl | hE
    · exact .inl ⟨E7, by simp, rfl⟩
    · rw [List.mem_singleton.1 hE]; exact .inr ⟨E8, by simp, rfl⟩
  · rcases (idsU_mem _ _ _).1 hid with ⟨E, hE, rfl⟩ | ⟨E, hE, rfl⟩
    · rw [List.mem_singleton.1 hE, e7, a7, b7, n0]
      exact jR_left _ _
    · rw [List.mem_singleton.1 hE, e8, a8, b8, n0]
      exact jR_right (fun E q => by cases q) (fun E q => by cases q; exact E8_well)
theorem txs2 (W : World) (x y : ByteArray) : Txs (W.alloc (.cells #[.string x, .string y] 9)) (.slice (some ⟨W.heap.size, 0, none⟩) 2 2) [x, y] := by
  refine ⟨_, _, rfl, by simp, by simp, fun j hj => ⟨W.heap.size, rfl, by rw [World.size_alloc]; omega, ?_⟩⟩
  have h2 : j < 2 := hj
  match j, h2 with
  | 0, _ => show (W.alloc (.cells #[.string x, .string y] 9)).cell? ⟨W.heap.size, 0, none⟩ = some (.string x); simp
  | 1, _ => show (W.alloc (.cells #[.string x, .string y] 9)).cell? ⟨W.heap.size, 1, none⟩ = some (.string y); simp
/-- a book is left by a put into another one that has no map yet -/
theorem BookAt.other {la ba na lb bb nb : Nat} {ma : Option Nat} {C B : List EV} {W W' : World} (h : BookAt la W ba ma na C) (hB : BookAt lb W bb none nb B) (hne : ba ≠ bb) (hk : Kept W W' bb none) : BookAt la W' ba ma na C := by
  obtain ⟨D', hb, _⟩ := hB
  have hbb : W.heap[bb]? = some (.cells #[.map none] 90 (0, 0)) := hb.1
  have c0 : W.cell? ⟨bb, 0, none⟩ = some (.map none) := cell_of hbb
  obtain ⟨D, h1, h2, h3, h4⟩ := h
  refine ⟨D, ⟨(hk.block ba (Array.getElem?_eq_some_iff.1 h1.1).1 hne (by simp)).trans h1.1, ?_⟩, Nat.le_trans h2 hk.size, h3, h4.up, h4.tidy, h4.size, h4.has, fun E hE => ?_⟩
  · cases ma with
    | none => exact h1.2
    | some mb =>
      obtain ⟨q0, q⟩ := h1.2
      refine ⟨q0, q.kept (row := some bb) ⟨hk.os, hk.tape, hk.output, hk.size, fun k hkk hn => hk.block k hkk (fun e => hn (by rw [e])) (by simp)⟩ (fun e => ?_)⟩
      obtain ⟨es, clock, hm, _⟩ := q
      have e' : mb = bb := Option.some.inj e
      rw [e', hbb] at hm
      cases hm
  · obtain ⟨q, sl, skv, mvv, q1, q2⟩ := h4.at_ E hE
    have ne : ∀ {b j : Nat} {x : Int}, W.cell? ⟨b, j, none⟩ = some (.int .i64 x) → j = 0 → b ≠ bb := fun {b j x} hc hj e => by
      subst e hj
      rw [c0] at hc
      cases hc
    have hc2 : ∀ {b j : Nat} {v : Value}, b ≠ bb → W.cell? ⟨b, j, none⟩ = some v → W'.cell? ⟨b, j, none⟩ = some v := fun {b j v} hb hc => kept_cellM hk hc hb (by simp)
    have HI : ∀ {v : Value} {xs : List Int}, OffI (NotIn la ba ma) W v xs → OffI (NotIn la ba ma) W' v xs := fun {v xs} hO => by
      obtain ⟨a, c, r1, r2, r3, r4⟩ := hO
      refine ⟨a, c, r1, r2, r3, fun j hj => ?_⟩
      obtain ⟨b, e, hn, hl, hc⟩ := r4 j hj
      obtain ⟨b', e', _, _, hc'⟩ := r4 0 (by omega)
      have eb : b' = b := by rw [e] at e'; cases e'; rfl
      rw [eb] at hc'
      exact ⟨b, e, hn, Nat.lt_of_lt_of_le hl hk.size, hc2 (ne hc' rfl) hc⟩
    have HM : ∀ {v : Value} {xs : List (Int × Int)}, OffM (NotIn la ba ma) W v xs → OffM (NotIn la ba ma) W' v xs := fun {v xs} hO => by
      obtain ⟨a, c, r1, r2, r3, r4⟩ := hO
      refine ⟨a, c, r1, r2, r3, fun j hj => ?_⟩
      obtain ⟨b, e, hn, hl, hc, hd⟩ := r4 j hj
      obtain ⟨b', e', _, _, hc', _⟩ := r4 0 (by omega)
      have eb : b' = b := by rw [e] at e'; cases e'; rfl
      rw [eb] at hc'
      exact ⟨b, e, hn, Nat.lt_of_lt_of_le hl hk.size, hc2 (ne hc' (by omega)) hc, hc2 (ne hc' (by omega)) hd⟩
    exact ⟨q, sl, skv, mvv, q1, HI q2.d, HI q2.s, HM q2.m⟩
/-- Three of calendars of which one is the base, or the other one -/
theorem three_one (pb : Option Addr) (X : List EV) (l2 b2 n2 : Nat) (o2 : Option Nat) (Y : List EV) (l3 b3 n3 : Nat) (o3 : Option Nat) (Z T : List EV) (s : Nat → Addr) (w : World) (g : GlobM s w) (h1 : GetC w pb X) (hX : ∀ E ∈ X, EW E ∧ E.ds.length ≤ 20) (h2 : BookAt l2 w b2 o2 n2 Y) (h3 : BookAt l3 w b3 o3 n3 Z) (hn2 : n2 ≤ 70) (hn3 : n3 ≤ 70) (hy : Y.length ≤ 60) (hz : Z.length ≤ 60) (hT : thr X Y Z (idsU Y Z) = (T, [])) :
    Calls Tryz.prog 9 #[.pointer pb, .pointer (some ⟨b2, 0, none⟩), .pointer (some ⟨b3, 0, none⟩)] w fun r w' => ∃ lt bt mt nt, r = .returned (.tuple #[.pointer (some ⟨bt, 0, none⟩), .slice none 0 0]) ∧ BookAt lt w' bt mt nt T ∧ nt ≤ 1000 ∧ Below w.heap.size w w' := by
  refine (three_C pb X l2 b2 n2 o2 Y l3 b3 n3 o3 Z s w g.gk g.gr h1 hX h2 h3 (by omega) (by omega) hy hz).mono ?_
  rw [hT]
  rintro r w' ⟨hb, ⟨_, mo, n, rfl, hB, hn⟩ | ⟨q, _⟩⟩
  · exact ⟨_, _, mo, n, rfl, hB, hn, hb⟩
  · exact absurd rfl q
set_option maxHeartbeats 4000000 in
set_option maxRecDepth 100000 in
theorem merged_any (s : Nat → Addr) (w : World) (g : GlobM s w) : Calls Tryz.prog 6 #[] w fun r w' => r = .returned (.bool true) ∧ Below w.heap.size w w' := by
  have NW : Hid (∀ W, _) := fun W => bookAt_new W
  have S7 : Hid (∀ W, Calls Tryz.prog 19 #[.string ⟨#[97]⟩, .int .i64 7] W fun r w' => r = .returned (ev E7 (.slice none 0 0) (.slice none 0 0) (.slice none 0 0)) ∧ Below W.heap.size W w') := fun W => small_any _ _ _
  have S8 : Hid (∀ W, Calls Tryz.prog 19 #[.string ⟨#[98]⟩, .int .i64 8] W fun r w' => r = .returned (ev E8 (.slice none 0 0) (.slice none 0 0) (.slice none 0 0)) ∧ Below W.heap.size W w') := fun W => small_any _ _ _
  have HG : Hid (GlobM s w) := g
  clear g
  go_enter Tryz.func6, Tryz.ntmps6
  go_upto_region 2 with (go_at_call 17; refine Calls.mono (NW.out w) ?_; rintro r w1 ⟨rfl, hB1, hb1⟩)
  have BA : Hid (BookAt w.heap.size w1 w.heap.size none 0 []) := hB1
  have BW1 : Hid (Below w.heap.size w w1) := hb1
  have HL1 : Hid (w.heap.size < w1.heap.size) := hB1.lt.1
  clear hB1 hb1
  go_upto_region 3 with (go_at_call 17; refine Calls.mono (NW.out w1) ?_; rintro r w2 ⟨rfl, hB2, hb2⟩)
  have BB : Hid (BookAt w1.heap.size w2 w1.heap.size none 0 []) := hB2
  have BW2 : Hid (Below w1.heap.size w1 w2) := hb2
  have BA2 : Hid (BookAt w.heap.size w2 w.heap.size none 0 []) := BA.out.step hb2
  clear hB2 hb2 BA
  have hne : w.heap.size ≠ w1.heap.size := Nat.ne_of_lt HL1.out
  go_wp2_with fail
  go_at_call 19
  refine Calls.mono (S7.out _) ?_
  rintro r w3 ⟨rfl, hb3⟩
  have BW3 : Hid (Below w.heap.size w w3) := below_then (below_then BW1.out BW2.out) hb3
  have BA3 : Hid (BookAt w.heap.size w3 w.heap.size none 0 []) := BA2.out.step hb3
  have BB3 : Hid (BookAt w1.heap.size w3 w1.heap.size none 0 []) := BB.out.step hb3
  have P3 : Hid (Calls _ _ _ _ _) := puts_C E7 E7_k (by decide) (by decide) rfl rfl rfl w.heap.size w.heap.size s w3 (HG.out.step BW3.out).gk BA3.out
  clear hb3 BA2 BB BW2
  go_wp2_with fail
  go_at_call 18
  refine Calls.mono P3.out ?_
  rintro r w4 ⟨rfl, mo4, hB4, hK4, hm4⟩
  have BW4 : Hid (Below w.heap.size w w4) := hK4.below BW3.out (Nat.le_refl _) (fun m q => by cases q)
  have BA4 : Hid (BookAt w.heap.size w4 w.heap.size mo4 (0 + 1) [E7]) := hB4
  have BB4 : Hid (BookAt w1.heap.size w4 w1.heap.size none 0 []) := BB3.out.other BA3.out (Ne.symm hne) hK4
  clear hB4 hK4 hm4 BA3 BB3 BW3 P3
  go_wp2_with fail
  go_at_call 19
  refine Calls.mono (S8.out _) ?_
  rintro r w5 ⟨rfl, hb5⟩
  have BW5 : Hid (Below w.heap.size w w5) := below_then BW4.out hb5
  have BA5 : Hid (BookAt w.heap.size w5 w.heap.size mo4 (0 + 1) [E7]) := BA4.out.step hb5
  have BB5 : Hid (BookAt w1.heap.size w5 w1.heap.size none 0 []) := BB4.out.step hb5
  have P5 : Hid (Calls _ _ _ _ _) := puts_C E8 E8_k (by decide) (by decide) rfl rfl rfl w1.heap.size w1.heap.size s w5 (HG.out.step BW5.out).gk BB5.out
  clear hb5 BA4 BB4 BW4
  go_wp2_with fail
  go_at_call 18
  refine Calls.mono P5.out ?_
  rintro r w6 ⟨rfl, mo6, hB6, hK6, hm6⟩
  have BW6 : Hid (Below w.heap.size w w6) := hK6.below BW5.out (Nat.le_of_lt HL1.out) (fun m q => by cases q)
  have BB6 : Hid (BookAt w1.heap.size w6 w1.heap.size mo6 (0 + 1) [E8]) := hB6
  have BA6 : Hid (BookAt w.heap.size w6 w.heap.size mo4 (0 + 1) [E7]) := BA5.out.other BB5.out hne hK6
  clear hB6 hK6 hm6 BA5 BB5 BW5 P5
  go_upto_region 5 with (fail)
  have HTC : Hid (Calls _ _ _ _ _) := three_one none [] w.heap.size w.heap.size (0 + 1) mo4 [E7] w1.heap.size w1.heap.size (0 + 1) mo6 [E8] [E7, E8] s w6 (HG.out.step BW6.out) (getC_nil _) (fun E hE => absurd hE List.not_mem_nil) BA6.out BB6.out (by decide) (by decide) (by decide) (by decide) thr78
  clear BA6 BB6 S7 S8 NW
  generalize w1.heap.size = ab at *
  go_upto_region 6 with (go_at_call 9; refine Calls.mono HTC.out ?_; rintro r w7 ⟨lt, bt, mo7, n7, rfl, hB7, hn7, hb7⟩)
  have BW7 : Hid (Below w.heap.size w w7) := below_then BW6.out hb7
  have IT : Hid (Calls _ _ _ _ _) := ids_C _ _ _ _ _ w7 hB7 (Nat.le_trans hn7 (by decide))
  clear hb7 hB7 hn7 HTC
  go_wp2_with (first
    | (go_at_call 14; refine Calls.mono IT.out ?_; rintro r w8 ⟨v8, rfl, hr8, hb8⟩; have BW8 : Hid (Below w.heap.size w w8) := below_then BW7.out hb8; have T8 : Hid (Txs w8 v8 [E7.id, E8.id]) := hr8.txs (by decide); obtain ⟨y1, y2, rfl⟩ := rowV_form hr8; clear hr8 hb8)
    | (go_at_call 20; refine Calls.mono (sameTexts_eq (T8.out.step (below_alloc _ _)) (txs2 w8 ⟨#[97]⟩ ⟨#[98]⟩)) ?_; rintro r w9 ⟨rfl, hb9⟩))
  go_ret
  exact ⟨rfl, below_then BW8.out (below_then (below_alloc _ _) hb9)⟩
theorem BookAt.allw {lo bb n : Nat} {mo : Option Nat} {X : List EV} {w : World} (h : BookAt lo w bb mo n X) : AllW X := fun E hE => (book_ok h E hE).1
end Go.Proofs.YtmjojifhpglhoaaGreatDoor

/- The law MergeSame. -/
namespace Go.Proofs.YtmjojifhpglhoaaGreatDoor
open Go Go.RowKit Go.Maps Go.Sort Cal
attribute [local go_sem] Oper.semAt_some

set_option maxHeartbeats 4000000 in
set_option maxRecDepth 100000 in
theorem msame_all (E1 E2 E3 : List EV) (v1 v2 v3 : Value) (s : Nat → Addr) (w : World) (g : GlobM s w) (h1 : EvsL w v1 E1) (h2 : EvsL w v2 E2) (h3 : EvsL w v3 E3) :
    Calls Tryz.prog 4 #[v1, v2, v3] w fun r w' => r = .returned (.bool true) ∧ Below w.heap.size w w' := by
  have DF : Hid (Calls _ _ _ _ _) := merged_any s w g
  have HG : Hid (GlobM s w) := g
  have LE : Hid (∀ (v : Value) (E : List EV) W, EvsL w v E → Below w.heap.size w W → Calls Tryz.prog 7 #[v] W fun r w' => ∃ k : Int, r = .returned (.int .i64 k) ∧ (k = 1 ∨ (k = 0 ∧ E.length ≤ 70 ∧ ∀ F ∈ E, lngE F = 0)) ∧ Below W.heap.size W w') := fun v E W h hW => longEvents_any E v W (h.step hW)
  have HV1 : Hid (EvsL w v1 E1) := h1
  have HV2 : Hid (EvsL w v2 E2) := h2
  have HV3 : Hid (EvsL w v3 E3) := h3
  clear g h1 h2 h3
  go_enter Tryz.func4, Tryz.ntmps4
  go_upto_region 2 with (go_at_call 6; refine Calls.mono DF.out ?_; rintro r w1 ⟨rfl, hb1⟩)
  have B1 : Hid (Below w.heap.size w w1) := hb1
  clear hb1 DF
  go_upto_if 38 with (first
    | (go_at_call_of 7 v1; refine Calls.mono (LE.out v1 E1 _ HV1.out B1.out) ?_; rintro r w2 ⟨k1, rfl, hk1, hb2⟩; have B2 : Hid (Below w.heap.size w w2) := below_then B1.out hb2; have HK1 : Hid (k1 = 1 ∨ (k1 = 0 ∧ E1.length ≤ 70 ∧ ∀ F ∈ E1, lngE F = 0)) := hk1; have p1 : 0 ≤ k1 ∧ k1 ≤ 1 := (by rcases hk1 with rfl | ⟨rfl, _⟩ <;> decide); clear hk1 hb2)
    | (go_at_call_of 7 v2; refine Calls.mono (LE.out v2 E2 _ HV2.out B2.out) ?_; rintro r w3 ⟨k2, rfl, hk2, hb3⟩; have B3 : Hid (Below w.heap.size w w3) := below_then B2.out hb3; have HK2 : Hid (k2 = 1 ∨ (k2 = 0 ∧ E2.length ≤ 70 ∧ ∀ F ∈ E2, lngE F = 0)) := hk2; have p2 : 0 ≤ k2 ∧ k2 ≤ 1 := (by rcases hk2 with rfl | ⟨rfl, _⟩ <;> decide); clear hk2 hb3)
    | (go_at_call_of 7 v3; refine Calls.mono (LE.out v3 E3 _ HV3.out B3.out) ?_; rintro r w4 ⟨k3, rfl, hk3, hb4⟩; have B4 : Hid (Below w.heap.size w w4) := below_then B3.out hb4; have HK3 : Hid (k3 = 1 ∨ (k3 = 0 ∧ E3.length ≤ 70 ∧ ∀ F ∈ E3, lngE F = 0)) := hk3; have p3 : 0 ≤ k3 ∧ k3 ≤ 1 := (by rcases hk3 with rfl | ⟨rfl, _⟩ <;> decide); clear hk3 hb4))
  by_cases hz : 0 < k1 + k2 + k3
  · go_wp2
    go_ret
    exact ⟨rfl, B4.out⟩
  · obtain ⟨a1, b1⟩ : E1.length ≤ 70 ∧ ∀ F ∈ E1, lngE F = 0 := by
      rcases HK1.out with q | ⟨_, q⟩
      · omega
      · exact q
    obtain ⟨a2, b2⟩ : E2.length ≤ 70 ∧ ∀ F ∈ E2, lngE F = 0 := by
      rcases HK2.out with q | ⟨_, q⟩
      · omega
      · exact q
    obtain ⟨a3, b3⟩ : E3.length ≤ 70 ∧ ∀ F ∈ E3, lngE F = 0 := by
      rcases HK3.out with q | ⟨_, q⟩
      · omega
      · exact q
    have BO1 : Hid (∀ W, Below w.heap.size w W → _) := fun W hW => bookOf_C E1 v1 s W (HG.out.step hW).gk (HV1.out.step hW) a1 b1
    have BO2 : Hid (∀ W, Below w.heap.size w W → _) := fun W hW => bookOf_C E2 v2 s W (HG.out.step hW).gk (HV2.out.step hW) a2 b2
    have BO3 : Hid (∀ W, Below w.heap.size w W → _) := fun W hW => bookOf_C E3 v3 s W (HG.out.step hW).gk (HV3.out.step hW) a3 b3
    have HX60 : Hid ((calOf E1).length ≤ 60) := (calOf_ok E1).2
    have HY60 : Hid ((calOf E2).length ≤ 60) := (calOf_ok E2).2
    have HZ60 : Hid ((calOf E3).length ≤ 60) := (calOf_ok E3).2
    clear a1 b1 a2 b2 a3 b3 HK1 HK2 HK3 p1 p2 p3 LE HV1 HV2 HV3
    generalize calOf E1 = X at BO1 HX60
    generalize calOf E2 = Y at BO2 HY60
    generalize calOf E3 = Z at BO3 HZ60
    go_upto_region 7 with (first
      | (go_at_call_of 8 v1; refine Calls.mono (BO1.out _ B4.out) ?_; rintro r w5 ⟨lx, xb, xm, xn, xa, xl, xc, rfl, hX, hxn, hb5⟩; have B5 : Hid (Below w.heap.size w (w5.alloc (.cells #[.slice xa xl xc] 27))) := below_then (below_then B4.out hb5) (below_alloc _ _); have X5 : Hid (BookAt lx (w5.alloc (.cells #[.slice xa xl xc] 27)) xb xm xn X) := hX.step (below_alloc _ _); have NX : Hid (xn ≤ 70) := hxn; clear hX hxn hb5)
      | (go_at_call_of 8 v2; refine Calls.mono (BO2.out _ B5.out) ?_; rintro r w6 ⟨ly, yb, ym, yn, ya, yl, yc, rfl, hY, hyn, hb6⟩; have B6 : Hid (Below w.heap.size w (w6.alloc (.cells #[.slice ya yl yc] 27))) := below_then (below_then B5.out hb6) (below_alloc _ _); have X6 : Hid (BookAt lx (w6.alloc (.cells #[.slice ya yl yc] 27)) xb xm xn X) := X5.out.step (below_then hb6 (below_alloc _ _)); have Y6 : Hid (BookAt ly (w6.alloc (.cells #[.slice ya yl yc] 27)) yb ym yn Y) := hY.step (below_alloc _ _); have NY : Hid (yn ≤ 70) := hyn; clear hY hyn hb6)
      | (go_at_call_of 8 v3; refine Calls.mono (BO3.out _ B6.out) ?_; rintro r w7 ⟨lz, zb, zm, zn, za, zl, zc, rfl, hZ, hzn, hb7⟩; have B7 : Hid (Below w.heap.size w (w7.alloc (.cells #[.slice za zl zc] 27))) := below_then (below_then B6.out hb7) (below_alloc _ _); have X7 : Hid (BookAt lx (w7.alloc (.cells #[.slice za zl zc] 27)) xb xm xn X) := X6.out.step (below_then hb7 (below_alloc _ _)); have Y7 : Hid (BookAt ly (w7.alloc (.cells #[.slice za zl zc] 27)) yb ym yn Y) := Y6.out.step (below_then hb7 (below_alloc _ _)); have Z7 : Hid (BookAt lz (w7.alloc (.cells #[.slice za zl zc] 27)) zb zm zn Z) := hZ.step (below_alloc _ _); have NZ : Hid (zn ≤ 70) := hzn; clear hZ hzn hb7))
    generalize w7.alloc (.cells #[.slice za zl zc] 27) = w8 at *
    generalize w7.heap.size = c7 at *
    generalize w6.heap.size = c6 at *
    generalize w5.heap.size = c5 at *
    clear B1 B2 B3 B4 B5 B6 X5 X6 Y6 BO1 BO2 BO3
    have G8 : Hid (GlobM s w8) := HG.out.step B7.out
    have T1 : Hid (Calls _ _ _ _ _) := three_one (some ⟨xb, 0, none⟩) X ly yb yn ym Y ly yb yn ym Y Y s w8 G8.out (getC_book X7.out) (book_ok X7.out) Y7.out Y7.out NY.out NY.out HY60.out HY60.out (thr_same Y7.out.rises.1 HY60.out)
    have T2 : Hid (∀ W, Below w8.heap.size w8 W → Calls _ _ _ _ _) := fun W hW => three_one (some ⟨xb, 0, none⟩) X ly yb yn ym Y lx xb xn xm X Y s W (G8.out.step hW) (getC_book (X7.out.step hW)) (book_ok X7.out) (Y7.out.step hW) (X7.out.step hW) NY.out NX.out HY60.out HX60.out (thr_left Y7.out.rises.1 HY60.out)
    have T3 : Hid (∀ W, Below w8.heap.size w8 W → Calls _ _ _ _ _) := fun W hW => three_one (some ⟨xb, 0, none⟩) X lx xb xn xm X ly yb yn ym Y Y s W (G8.out.step hW) (getC_book (X7.out.step hW)) (book_ok X7.out) (X7.out.step hW) (Y7.out.step hW) NX.out NY.out HX60.out HY60.out (thr_right X7.out.allw Y7.out.allw Y7.out.rises.1 HY60.out)
    have T4 : Hid (∀ W, Below w8.heap.size w8 W → Calls Tryz.prog 9 #[.pointer (some ⟨xb, 0, none⟩), .pointer (some ⟨yb, 0, none⟩), .pointer (some ⟨zb, 0, none⟩)] W fun r w' => Below W.heap.size W w' ∧ ThrIs W.heap.size (thr X Y Z (idsU Y Z)) r w') := fun W hW => three_C (some ⟨xb, 0, none⟩) X ly yb yn ym Y lz zb zn zm Z s W (G8.out.step hW).gk (G8.out.step hW).gr (getC_book (X7.out.step hW)) (book_ok X7.out) (Y7.out.step hW) (Z7.out.step hW) (Nat.le_trans NY.out (by decide)) (Nat.le_trans NZ.out (by decide)) HY60.out HZ60.out
    have T5 : Hid (∀ W, Below w8.heap.size w8 W → Calls Tryz.prog 9 #[.pointer (some ⟨xb, 0, none⟩), .pointer (some ⟨zb, 0, none⟩), .pointer (some ⟨yb, 0, none⟩)] W fun r w' => Below W.heap.size W w' ∧ ThrIs W.heap.size (thr X Y Z (idsU Y Z)) r w') := fun W hW => by
      rw [thr_swap X7.out.allw Y7.out.allw Z7.out.allw]
      exact three_C (some ⟨xb, 0, none⟩) X lz zb zn zm Z ly yb yn ym Y s W (G8.out.step hW).gk (G8.out.step hW).gr (getC_book (X7.out.step hW)) (book_ok X7.out) (Z7.out.step hW) (Y7.out.step hW) (Nat.le_trans NZ.out (by decide)) (Nat.le_trans NY.out (by decide)) HZ60.out HY60.out
    have HTL : Hid ((thr X Y Z (idsU Y Z)).2.length ≤ 1000 ∧ (thr X Y Z (idsU Y Z)).1.length ≤ 60) := thr_len X Y Z _ (idsU_len Y Z HY60.out HZ60.out)
    clear HX60 HZ60 X7 Z7 NX NZ
    generalize thr X Y Z (idsU Y Z) = a at T4 T5 HTL
    obtain ⟨C, cl⟩ := a
    go_upto_region 8 with (go_at_call 9; refine Calls.mono T1.out ?_; rintro r w9 ⟨lp, pb, pm, pn, rfl, hP, hpn, hb9⟩)
    have B9 : Hid (Below w8.heap.size w8 w9) := hb9
    have P9 : Hid (BookAt lp w9 pb pm pn Y) := hP
    have NP : Hid (pn ≤ 1000) := hpn
    clear hP hb9 T1 hpn
    go_upto_region 9 with (go_at_call 9; refine Calls.mono (T2.out w9 B9.out) ?_; rintro r w10 ⟨lq, qb, qm, qn, rfl, hQ, hqn, hb10⟩)
    have B10 : Hid (Below w8.heap.size w8 w10) := below_then B9.out hb10
    have P10 : Hid (BookAt lp w10 pb pm pn Y) := P9.out.step hb10
    have Q10 : Hid (BookAt lq w10 qb qm qn Y) := hQ
    have NQ : Hid (qn ≤ 1000) := hqn
    clear hQ hb10 T2 P9 B9 hqn
    go_upto_region 10 with (go_at_call 9; refine Calls.mono (T3.out w10 B10.out) ?_; rintro r w11 ⟨lr, rb, rm, rn, rfl, hR, hrn, hb11⟩)
    have B11 : Hid (Below w8.heap.size w8 w11) := below_then B10.out hb11
    have P11 : Hid (BookAt lp w11 pb pm pn Y) := P10.out.step hb11
    have Q11 : Hid (BookAt lq w11 qb qm qn Y) := Q10.out.step hb11
    have R11 : Hid (BookAt lr w11 rb rm rn Y) := hR
    have NR : Hid (rn ≤ 1000) := hrn
    clear hR hb11 T3 P10 Q10 B10 hrn
    have SP : Hid (Calls _ _ _ _ _) := same_okM lp pb pn pm ly yb yn ym Y s w11 (G8.out.step B11.out) P11.out (Y7.out.step B11.out) (Nat.le_trans NP.out (by decide)) (Nat.le_trans NY.out (by decide)) HY60.out
    have SQ : Hid (∀ W, Below w11.heap.size w11 W → Calls _ _ _ _ _) := fun W hW => same_okM lq qb qn qm ly yb yn ym Y s W (G8.out.step (below_then B11.out hW)) (Q11.out.step hW) (Y7.out.step (below_then B11.out hW)) (Nat.le_trans NQ.out (by decide)) (Nat.le_trans NY.out (by decide)) HY60.out
    have SR : Hid (∀ W, Below w11.heap.size w11 W → Calls _ _ _ _ _) := fun W hW => same_okM lr rb rn rm ly yb yn ym Y s W (G8.out.step (below_then B11.out hW)) (R11.out.step hW) (Y7.out.step (below_then B11.out hW)) (Nat.le_trans NR.out (by decide)) (Nat.le_trans NY.out (by decide)) HY60.out
    clear P11 Q11 R11 NP NQ NR Y7 NY HY60
    go_upto_region 12 with (first
      | (go_at_call_of 13 (Value.pointer (some ⟨pb, 0, none⟩)); refine Calls.mono SP.out ?_; rintro r w12 ⟨rfl, hb12⟩; have B12 : Hid (Below w11.heap.size w11 w12) := hb12; clear hb12)
      | (go_at_call_of 13 (Value.pointer (some ⟨qb, 0, none⟩)); refine Calls.mono (SQ.out w12 B12.out) ?_; rintro r w13 ⟨rfl, hb13⟩; have B13 : Hid (Below w11.heap.size w11 w13) := below_then B12.out hb13; clear hb13)
      | (go_at_call_of 13 (Value.pointer (some ⟨rb, 0, none⟩)); refine Calls.mono (SR.out w13 B13.out) ?_; rintro r w14 ⟨rfl, hb14⟩; have B14 : Hid (Below w11.heap.size w11 w14) := below_then B13.out hb14; clear hb14))
    have B15 : Hid (Below w8.heap.size w8 w14) := below_then B11.out B14.out
    clear SP SQ SR B12 B13 B14 B11
    go_wp2_with fail
    go_at_call 9
    refine Calls.mono (T4.out w14 B15.out) ?_
    rintro r w15 ⟨hb15, ⟨hc0, mo5, n5, rfl, hS, hn5⟩ | ⟨hc0, vs, rfl, hS⟩⟩
    · have hcl : cl = [] := hc0
      subst hcl
      have B16 : Hid (Below w8.heap.size w8 w15) := below_then B15.out hb15
      have T5' : Hid (Calls _ _ _ _ _) := T5.out w15 B16.out
      have HS : Hid (BookAt w14.heap.size w15 w14.heap.size mo5 n5 C) := hS
      have N5 : Hid (n5 ≤ 1000) := hn5
      clear hc0 hb15 B15 T4 T5 hS hn5
      generalize w14.heap.size = sb at *
      go_wp2_with fail
      go_at_call 9
      refine Calls.mono T5'.out ?_
      rintro r w16 ⟨hb16, ⟨_, mo6, n6, rfl, hT, hn6⟩ | ⟨q, _⟩⟩
      · have SS : Hid (Calls _ _ _ _ _) := same_okM _ _ _ _ _ _ _ _ C s w16 (G8.out.step (below_then B16.out hb16)) (HS.out.step hb16) hT (Nat.le_trans N5.out (by decide)) (Nat.le_trans hn6 (by decide)) HTL.out.2
        have B17 : Hid (Below w.heap.size w w16) := below_then B7.out (below_then B16.out hb16)
        clear hb16 hT hn6 HS N5 T5' B16
        generalize w15.heap.size = tb at *
        go_wp2
        go_loopw [24] (fun i wr => i = .int .i64 0 ∧ wr = w16) (fun _ _ => 0)
        case atStart => exact ⟨rfl, rfl⟩
        case round =>
          obtain ⟨rfl, rfl⟩ := hrel
          go_wp2_with (go_at_call 13; refine Calls.mono SS.out ?_; rintro r w17 ⟨rfl, hb17⟩)
          go_ret
          exact ⟨rfl, below_then B17.out hb17⟩
      · exact absurd rfl q
    · have B16 : Hid (Below w8.heap.size w8 w15) := below_then B15.out hb15
      have T5' : Hid (Calls _ _ _ _ _) := T5.out w15 B16.out
      have HS : Hid (ClR w14.heap.size w15 vs cl) := hS
      have hcl : cl ≠ [] := hc0
      obtain ⟨sa, sc, rfl, hsc, _⟩ := hS.cells
      clear hc0 hb15 B15 T4 T5
      go_wp2_with fail
      go_at_call 9
      refine Calls.mono T5'.out ?_
      rintro r w16 ⟨hb16, ⟨q, _⟩ | ⟨_, vt, rfl, hT⟩⟩
      · exact absurd q hcl
      · obtain ⟨ta, tc, rfl, htc, hct⟩ := hT.cells
        have HA : Hid (∀ (j : Nat) (hj : j < cl.length), ∃ b : Nat, sa = some ⟨b, 0, none⟩ ∧ b < w16.heap.size ∧ w16.cell? ⟨b, j * 2, none⟩ = some (.string cl[j].1) ∧ w16.cell? ⟨b, j * 2 + 1, none⟩ = some (.string cl[j].2)) := by
          obtain ⟨sa', sc', q, _, hcs⟩ := (HS.out.step hb16).cells
          injection q with q1 q2 q3
          rw [q1]
          exact hcs
        have HB : Hid (∀ (j : Nat) (hj : j < cl.length), ∃ b : Nat, ta = some ⟨b, 0, none⟩ ∧ b < w16.heap.size ∧ w16.cell? ⟨b, j * 2, none⟩ = some (.string cl[j].1) ∧ w16.cell? ⟨b, j * 2 + 1, none⟩ = some (.string cl[j].2)) := hct
        have B17 : Hid (Below w.heap.size w w16) := below_then B7.out (below_then B16.out hb16)
        have hcp : 0 < cl.length := List.length_pos_iff.2 hcl
        have h1000 : cl.length ≤ 1000 := HTL.out.1
        obtain ⟨L, hL⟩ : ∃ L, cl.length = L := ⟨_, rfl⟩
        rw [hL] at hcp hsc htc h1000 ⊢
        have HL : Hid (cl.length = L) := hL
        clear hL hb16 hT HS T5' B16 hct HTL hS hcl
        have hcpi : (0 : Int) < (L : Int) := by omega
        go_wp2
        go_loopw [24] (fun i wr => ∃ k q : Nat, k ≤ L ∧ i = .int .i64 k ∧ wr = w16.drewN q) (fun i _ => L - (intOf i).toNat)
        case atStart => exact ⟨0, 0, Nat.zero_le _, rfl, rfl⟩
        case round =>
          obtain ⟨k, q, hk, rfl, rfl⟩ := hrel
          by_cases hlt : k < L
          · have hkl : k < cl.length := by rw [HL.out]; exact hlt
            obtain ⟨x, rfl, _, p0, p1⟩ := HA.out k hkl
            obtain ⟨y, rfl, _, q0, q1⟩ := HB.out k hkl
            have hlt' : (k : Int) < (L : Int) := by omega
            generalize cl[k].1 = ci at p0 q0
            generalize cl[k].2 = cf at p1 q1
            clear HA HB
            go_wp2
            go_quiet (fail)
            go_wp2
            go_roundw
            case rel => exact ⟨k + 1, _, by omega, by go_num, rfl⟩
            case measure => simp [intOf]; omega
          · clear HA HB
            go_wp2
            go_ret
            exact ⟨rfl, below_then B17.out (drewN_below _ _)⟩
end Go.Proofs.YtmjojifhpglhoaaGreatDoor

/- The closed facts of the law MergeSame's row, one by one. -/
namespace Go.Proofs.YtmjojifhpglhoaaGreatDoor

theorem msm_z1 : Rows.mergeSameRow.wf (OpenSpec.ofChange Rows.mergeSameSpec) = true := by kernel_rfl
theorem msm_z2 : laidOutB Tryz.prog = true := by kernel_rfl
theorem msm_z3 : mapsRowed Tryz.prog = true := by kernel_rfl
theorem msm_z4 : Tryz.f4.params.all (Tryz.prog.readableRec ·) = true := by kernel_rfl
theorem msm_z5 : namedTie Tryz.prog Rows.mergeSameRow.named Rows.mergeSameSpec.vars = true := by kernel_rfl
theorem msm_z6 : (Rows.mergeSameRow.inPlace == Tryz.prog.inPlace 4) = true := by kernel_rfl
theorem msm_z7 : (Rows.mergeSameRow.unfollowed == Tryz.prog.unfollowed 4) = true := by kernel_rfl
theorem msm_z8 : (Rows.mergeSameRow.recurses == Tryz.prog.recurses 4) = true := by kernel_rfl
theorem msm_z9 : (Rows.mergeSameRow.named == Tryz.prog.varsNamed 4) = true := by kernel_rfl
theorem msm_z10 : (Rows.mergeSameRow.plainKeys == Tryz.prog.plainKeys) = true := by kernel_rfl
theorem msm_z11 : Tryz.prog.stopsHeard = true := by kernel_rfl
theorem msm_z12 : Tryz.prog.mayEnter = true := by kernel_rfl
theorem msm_z13 : (Rows.mergeSameRow.lifted == Tryz.prog.liftsFinal) = true := by kernel_rfl
theorem msm_z14 : (Tryz.prog.make == some Rows.mergeSameRow.make) = true := by kernel_rfl
theorem msm_closed : joinedFacts Tryz.prog 4 Tryz.f4 Rows.mergeSameSpec Rows.mergeSameRow = true := by
  unfold joinedFacts
  rw [msm_z1, msm_z2, msm_z3, msm_z4, msm_z5, msm_z6, msm_z7, msm_z8, msm_z9, msm_z10, msm_z11, msm_z12, msm_z13, msm_z14]
  kernel_rfl
end Go.Proofs.YtmjojifhpglhoaaGreatDoor
