/- The law DiffChain. -/
import Derived.Test.YtekminpoiokgfaaGreatDoorYbD
import Derived.Test.YtekminpoiokgfaaGreatDoorYaL
import Derived.Laws.AppendOwnNone
namespace Go.Proofs.YtekminpoiokgfaaGreatDoor
open Go Go.RowKit Go.Shelf Cal
attribute [local go_sem] Oper.semAt_some

theorem bookOf_C (Es : List EV) (v : Value) (s : Nat → Addr) (w : World) (g : GlobK s w) (hE : EvsL w v Es) (h70 : Es.length ≤ 70) (hl : ∀ E ∈ Es, lngE E = 0) :
    Calls Tryz.prog 7 #[v] w fun r w' => ∃ lo bb mo n va vn vc, r = .returned (.tuple #[.pointer (some ⟨bb, 0, none⟩), .agg #[.slice va vn vc]]) ∧ BookAt lo w' bb mo n (calOf Es) ∧ n ≤ 70 ∧ Below w.heap.size w w' := by
  refine Calls.mono (bookOf_any Es v s w g hE h70 hl) ?_
  rintro r w' ⟨bb, mo, n, vm, Xs, rfl, _, h1, h2, hmr, _, _, h3⟩
  obtain ⟨oa, oc, rfl, _, _⟩ := hmr.form
  exact ⟨_, bb, mo, n, _, _, _, rfl, h1, h2, h3⟩
theorem below_two {b : Nat} {w w1 w2 : World} (h1 : Below b w w1) (h2 : Below b w1 w2) : Below b w w2 :=
  ⟨h2.os.trans h1.os, h2.tape.trans h1.tape, h2.output.trans h1.output, Nat.le_trans h1.size h2.size, fun k hk => (h2.block k hk).trans (h1.block k hk)⟩
end Go.Proofs.YtekminpoiokgfaaGreatDoor

/- What the merge laws use: the closed fact of two events; Same; Three of calendars one of which is the base, or the other one. -/
namespace Go.Proofs.YtekminpoiokgfaaGreatDoor
open Go Go.RowKit Go.Maps Go.Sort Cal
attribute [local go_sem] Oper.semAt_some

/-- the listed variables -/
structure GlobM (s : Nat → Addr) (w : World) : Prop where
  gk : GlobK s w
  gr : GlobR w
theorem GlobM.step {s : Nat → Addr} {w w' : World} (g : GlobM s w) (hb : Below w.heap.size w w') : GlobM s w' := ⟨g.gk.step hb, g.gr.step hb⟩
theorem same_okM (la ba na : Nat) (ma : Option Nat) (lb bb nb : Nat) (mb : Option Nat) (C : List EV) (s : Nat → Addr) (w : World) (g : GlobM s w) (hX : BookAt la w ba ma na C) (hY : BookAt lb w bb mb nb C) (hn1 : na ≤ 100000) (hn2 : nb ≤ 100000) (hC : C.length ≤ 60) :
    Calls Tryz.prog 9 #[.pointer (some ⟨ba, 0, none⟩), .pointer (some ⟨bb, 0, none⟩)] w fun r w' => r = .returned (.bool true) ∧ Below w.heap.size w w' := by
  refine Calls.mono (same_C _ _ _ _ w (btext_C la ba na ma C s w g.gk g.gr hX hn1 hC) (fun W hW => btext_C lb bb nb mb C s W (g.step hW).gk (g.step hW).gr (hY.step hW) hn2 hC)) ?_
  rintro r w' ⟨rfl, hb⟩
  exact ⟨by rw [beq_self_eq_true], hb⟩
def E8 : EV := ⟨⟨#[98]⟩, ⟨#[]⟩, 8, 1, ⟨#[111, 110, 99, 101]⟩, 1, [], 0, -1, [], []⟩
theorem E8_well : EW E8 := by
  refine ⟨⟨fun j h => ?_, by decide, by decide⟩, E7_well.ti, ⟨by decide, by decide⟩, E7_well.rl, by decide⟩
  have h' : j < 1 := h
  match j, h' with
  | 0, _ => show okc 98; left; decide
theorem E8_k : EvK E8 0 := by
  obtain ⟨k, hk⟩ := evK_ex E8
  have := (evK_0 hk).2 E8_well
  rwa [this] at hk
theorem puts_C (E : EV) (hk : EvK E 0) (hi : E.id.size ≤ 60) (ht : E.ti.size ≤ 60) (hd : E.ds = []) (hs : E.sk = []) (hm : E.mv = []) (lo bb : Nat) (s : Nat → Addr) (w : World) (g : GlobK s w) (h : BookAt lo w bb none 0 []) : Calls Tryz.prog 14 #[.pointer (some ⟨bb, 0, none⟩), ev E (.slice none 0 0) (.slice none 0 0) (.slice none 0 0)] w fun r w' => r = .returned .nilIface ∧ PutTo lo w w' bb none 0 [E] := by
  refine Calls.mono (put_C lo bb 0 none [] E _ _ _ 0 s w g h (by decide) hi ht ⟨by rw [hd]; exact Days.nil _ _, by rw [hs]; exact Ints.nil _ _, by rw [hm]; exact Movs.nil _ _⟩ hk) ?_
  rintro r w' (⟨h, _⟩ | ⟨_, ⟨_, h⟩, _⟩ | ⟨_, _, rfl, hP⟩)
  · exact absurd rfl h
  · exact absurd h (by decide)
  · exact ⟨rfl, hP⟩
theorem thr78 : thr [] [E7] [E8] (idsU [E7] [E8]) = ([E7, E8], []) := by
  have hR : Rises [E7, E8] := List.pairwise_cons.2 ⟨fun F hF => by rw [List.mem_singleton.1 hF]; decide, List.pairwise_singleton _ _⟩
  have e7 : lkC [E7, E8] E7.id = some E7 := evOf_of hR (by simp)
  have e8 : lkC [E7, E8] E8.id = some E8 := evOf_of hR (by simp)
  have a7 : lkC [E7] E7.id = some E7 := evOf_of (List.pairwise_singleton _ _) (by simp)
  have a8 : lkC [E7] E8.id = none := evOf_none.2 (by rintro ⟨E, hE, e⟩; rw [List.mem_singleton.1 hE] at e; exact absurd e (by decide))
  have b8 : lkC [E8] E8.id = some E8 := evOf_of (List.pairwise_singleton _ _) (by simp)
  have b7 : lkC [E8] E7.id = none := evOf_none.2 (by rintro ⟨E, hE, e⟩; rw [List.mem_singleton.1 hE] at e; exact absurd e (by decide))
  have n0 : ∀ id, lkC [] id = none := fun id => rfl
  refine thr_of hR (by decide) (idsU_nodup _ _) (fun E hE => (idsU_mem _ _ _).2 ?_) (fun id hid => ?_)
  · rcases List.mem_cons.1 hE with rfl | hE
    · exact .inl ⟨E7, by simp, rfl⟩
    · rw [List.mem_singleton.1 hE]; exact .inr ⟨E8, by simp, rfl⟩
  · rcases (idsU_mem _ _ _).1 hid with ⟨E, hE, rfl⟩ | ⟨E, hE, rfl⟩
    · rw [List.mem_singleton.1 hE, e7, a7, b7, n0]
      exact jR_left _ _
    · rw [List.mem_singleton.1 hE, e8, a8, b8, n0]
      exact jR_right (fun E q => by cases q) (fun E q => by cases q; exact E8_well)
theorem txs2 (W : World) (x y : ByteArray) : Txs (W.alloc (.cells #[.string x, .string y] 9)) (.slice (some ⟨W.heap.size, 0, none⟩) 2 2) [x, y] := by
  refine ⟨_, _, rfl, by simp, by simp, fun j hj => ⟨W.heap.size, rfl, by rw [World.size_alloc]; omega, ?_⟩⟩
  have h2 : j < 2 := hj
  match j, h2 with
  | 0, _ => show (W.alloc (.cells #[.string x, .string y] 9)).cell? ⟨W.heap.size, 0, none⟩ = some (.string x); simp
  | 1, _ => show (W.alloc (.cells #[.string x, .string y] 9)).cell? ⟨W.heap.size, 1, none⟩ = some (.string y); simp
/-- a book is left by a put into another one that has no map yet -/
theorem BookAt.other {la ba na lb bb nb : Nat} {ma : Option Nat} {C B : List EV} {W W' : World} (h : BookAt la W ba ma na C) (hB : BookAt lb W bb none nb B) (hne : ba ≠ bb) (hk : Kept W W' bb none) : BookAt la W' ba ma na C := by
  obtain ⟨D', hb, _⟩ := hB
  have hbb : W.heap[bb]? = some (.cells #[.map none] 74 (0, 0)) := hb.1
  have c0 : W.cell? ⟨bb, 0, none⟩ = some (.map none) := cell_of hbb
  obtain ⟨D, h1, h2, h3, h4⟩ := h
  refine ⟨D, ⟨(hk.block ba (Array.getElem?_eq_some_iff.1 h1.1).1 hne (by simp)).trans h1.1, ?_⟩, Nat.le_trans h2 hk.size, h3, h4.up, h4.tidy, h4.size, h4.has, fun E hE => ?_⟩
  · cases ma with
    | none => exact h1.2
    | some mb =>
      obtain ⟨q0, q⟩ := h1.2
      refine ⟨q0, q.kept (row := some bb) ⟨hk.os, hk.tape, hk.output, hk.size, fun k hkk hn => hk.block k hkk (fun e => hn (by rw [e])) (by simp)⟩ (fun e => ?_)⟩
      obtain ⟨es, clock, hm, _⟩ := q
      have e' : mb = bb := Option.some.inj e
      rw [e', hbb] at hm
      cases hm
  · obtain ⟨q, sl, skv, mvv, q1, q2⟩ := h4.at_ E hE
    have ne : ∀ {b j : Nat} {x : Int}, W.cell? ⟨b, j, none⟩ = some (.int .i64 x) → j = 0 → b ≠ bb := fun {b j x} hc hj e => by
      subst e hj
      rw [c0] at hc
      cases hc
    have hc2 : ∀ {b j : Nat} {v : Value}, b ≠ bb → W.cell? ⟨b, j, none⟩ = some v → W'.cell? ⟨b, j, none⟩ = some v := fun {b j v} hb hc => kept_cellM hk hc hb (by simp)
    have HI : ∀ {v : Value} {xs : List Int}, OffI (NotIn la ba ma) W v xs → OffI (NotIn la ba ma) W' v xs := fun {v xs} hO => by
      obtain ⟨a, c, r1, r2, r3, r4⟩ := hO
      refine ⟨a, c, r1, r2, r3, fun j hj => ?_⟩
      obtain ⟨b, e, hn, hl, hc⟩ := r4 j hj
      obtain ⟨b', e', _, _, hc'⟩ := r4 0 (by omega)
      have eb : b' = b := by rw [e] at e'; cases e'; rfl
      rw [eb] at hc'
      exact ⟨b, e, hn, Nat.lt_of_lt_of_le hl hk.size, hc2 (ne hc' rfl) hc⟩
    have HM : ∀ {v : Value} {xs : List (Int × Int)}, OffM (NotIn la ba ma) W v xs → OffM (NotIn la ba ma) W' v xs := fun {v xs} hO => by
      obtain ⟨a, c, r1, r2, r3, r4⟩ := hO
      refine ⟨a, c, r1, r2, r3, fun j hj => ?_⟩
      obtain ⟨b, e, hn, hl, hc, hd⟩ := r4 j hj
      obtain ⟨b', e', _, _, hc', _⟩ := r4 0 (by omega)
      have eb : b' = b := by rw [e] at e'; cases e'; rfl
      rw [eb] at hc'
      exact ⟨b, e, hn, Nat.lt_of_lt_of_le hl hk.size, hc2 (ne hc' (by omega)) hc, hc2 (ne hc' (by omega)) hd⟩
    exact ⟨q, sl, skv, mvv, q1, HI q2.d, HI q2.s, HM q2.m⟩
/-- Three of calendars of which one is the base, or the other one -/
theorem three_one (pb : Option Addr) (X : List EV) (l2 b2 n2 : Nat) (o2 : Option Nat) (Y : List EV) (l3 b3 n3 : Nat) (o3 : Option Nat) (Z T : List EV) (s : Nat → Addr) (w : World) (g : GlobM s w) (h1 : GetC w pb X) (hX : ∀ E ∈ X, EW E ∧ E.ds.length ≤ 20) (h2 : BookAt l2 w b2 o2 n2 Y) (h3 : BookAt l3 w b3 o3 n3 Z) (hn2 : n2 ≤ 70) (hn3 : n3 ≤ 70) (hy : Y.length ≤ 60) (hz : Z.length ≤ 60) (hT : thr X Y Z (idsU Y Z) = (T, [])) :
    Calls Tryz.prog 8 #[.pointer pb, .pointer (some ⟨b2, 0, none⟩), .pointer (some ⟨b3, 0, none⟩)] w fun r w' => ∃ lt bt mt nt, r = .returned (.tuple #[.pointer (some ⟨bt, 0, none⟩), .slice none 0 0]) ∧ BookAt lt w' bt mt nt T ∧ nt ≤ 1000 ∧ Below w.heap.size w w' := by
  refine (three_C pb X l2 b2 n2 o2 Y l3 b3 n3 o3 Z s w g.gk g.gr h1 hX h2 h3 (by omega) (by omega) hy hz).mono ?_
  rw [hT]
  rintro r w' ⟨hb, ⟨_, mo, n, rfl, hB, hn⟩ | ⟨q, _⟩⟩
  · exact ⟨_, _, mo, n, rfl, hB, hn, hb⟩
  · exact absurd rfl q
set_option maxHeartbeats 4000000 in
set_option maxRecDepth 100000 in
theorem merged_any (s : Nat → Addr) (w : World) (g : GlobM s w) : Calls Tryz.prog 5 #[] w fun r w' => r = .returned (.bool true) ∧ Below w.heap.size w w' := by
  have NW : Hid (∀ W, _) := fun W => bookAt_new W
  have S7 : Hid (∀ W, Calls Tryz.prog 15 #[.string ⟨#[97]⟩, .int .i64 7] W fun r w' => r = .returned (ev E7 (.slice none 0 0) (.slice none 0 0) (.slice none 0 0)) ∧ Below W.heap.size W w') := fun W => small_any _ _ _
  have S8 : Hid (∀ W, Calls Tryz.prog 15 #[.string ⟨#[98]⟩, .int .i64 8] W fun r w' => r = .returned (ev E8 (.slice none 0 0) (.slice none 0 0) (.slice none 0 0)) ∧ Below W.heap.size W w') := fun W => small_any _ _ _
  have HG : Hid (GlobM s w) := g
  clear g
  go_enter Tryz.func5, Tryz.ntmps5
  go_upto_region 2 with (go_at_call 13; refine Calls.mono (NW.out w) ?_; rintro r w1 ⟨rfl, hB1, hb1⟩)
  have BA : Hid (BookAt w.heap.size w1 w.heap.size none 0 []) := hB1
  have BW1 : Hid (Below w.heap.size w w1) := hb1
  have HL1 : Hid (w.heap.size < w1.heap.size) := hB1.lt.1
  clear hB1 hb1
  go_upto_region 3 with (go_at_call 13; refine Calls.mono (NW.out w1) ?_; rintro r w2 ⟨rfl, hB2, hb2⟩)
  have BB : Hid (BookAt w1.heap.size w2 w1.heap.size none 0 []) := hB2
  have BW2 : Hid (Below w1.heap.size w1 w2) := hb2
  have BA2 : Hid (BookAt w.heap.size w2 w.heap.size none 0 []) := BA.out.step hb2
  clear hB2 hb2 BA
  have hne : w.heap.size ≠ w1.heap.size := Nat.ne_of_lt HL1.out
  go_wp2_with fail
  go_at_call 15
  refine Calls.mono (S7.out _) ?_
  rintro r w3 ⟨rfl, hb3⟩
  have BW3 : Hid (Below w.heap.size w w3) := below_then (below_then BW1.out BW2.out) hb3
  have BA3 : Hid (BookAt w.heap.size w3 w.heap.size none 0 []) := BA2.out.step hb3
  have BB3 : Hid (BookAt w1.heap.size w3 w1.heap.size none 0 []) := BB.out.step hb3
  have P3 : Hid (Calls _ _ _ _ _) := puts_C E7 E7_k (by decide) (by decide) rfl rfl rfl w.heap.size w.heap.size s w3 (HG.out.step BW3.out).gk BA3.out
  clear hb3 BA2 BB BW2
  go_wp2_with fail
  go_at_call 14
  refine Calls.mono P3.out ?_
  rintro r w4 ⟨rfl, mo4, hB4, hK4, hm4⟩
  have BW4 : Hid (Below w.heap.size w w4) := hK4.below BW3.out (Nat.le_refl _) (fun m q => by cases q)
  have BA4 : Hid (BookAt w.heap.size w4 w.heap.size mo4 (0 + 1) [E7]) := hB4
  have BB4 : Hid (BookAt w1.heap.size w4 w1.heap.size none 0 []) := BB3.out.other BA3.out (Ne.symm hne) hK4
  clear hB4 hK4 hm4 BA3 BB3 BW3 P3
  go_wp2_with fail
  go_at_call 15
  refine Calls.mono (S8.out _) ?_
  rintro r w5 ⟨rfl, hb5⟩
  have BW5 : Hid (Below w.heap.size w w5) := below_then BW4.out hb5
  have BA5 : Hid (BookAt w.heap.size w5 w.heap.size mo4 (0 + 1) [E7]) := BA4.out.step hb5
  have BB5 : Hid (BookAt w1.heap.size w5 w1.heap.size none 0 []) := BB4.out.step hb5
  have P5 : Hid (Calls _ _ _ _ _) := puts_C E8 E8_k (by decide) (by decide) rfl rfl rfl w1.heap.size w1.heap.size s w5 (HG.out.step BW5.out).gk BB5.out
  clear hb5 BA4 BB4 BW4
  go_wp2_with fail
  go_at_call 14
  refine Calls.mono P5.out ?_
  rintro r w6 ⟨rfl, mo6, hB6, hK6, hm6⟩
  have BW6 : Hid (Below w.heap.size w w6) := hK6.below BW5.out (Nat.le_of_lt HL1.out) (fun m q => by cases q)
  have BB6 : Hid (BookAt w1.heap.size w6 w1.heap.size mo6 (0 + 1) [E8]) := hB6
  have BA6 : Hid (BookAt w.heap.size w6 w.heap.size mo4 (0 + 1) [E7]) := BA5.out.other BB5.out hne hK6
  clear hB6 hK6 hm6 BA5 BB5 BW5 P5
  go_upto_region 5 with (fail)
  have HTC : Hid (Calls _ _ _ _ _) := three_one none [] w.heap.size w.heap.size (0 + 1) mo4 [E7] w1.heap.size w1.heap.size (0 + 1) mo6 [E8] [E7, E8] s w6 (HG.out.step BW6.out) (getC_nil _) (fun E hE => absurd hE List.not_mem_nil) BA6.out BB6.out (by decide) (by decide) (by decide) (by decide) thr78
  clear BA6 BB6 S7 S8 NW
  generalize w1.heap.size = ab at *
  go_upto_region 6 with (go_at_call 8; refine Calls.mono HTC.out ?_; rintro r w7 ⟨lt, bt, mo7, n7, rfl, hB7, hn7, hb7⟩)
  have BW7 : Hid (Below w.heap.size w w7) := below_then BW6.out hb7
  have IT : Hid (Calls _ _ _ _ _) := ids_C _ _ _ _ _ w7 hB7 (Nat.le_trans hn7 (by decide))
  clear hb7 hB7 hn7 HTC
  go_wp2_with (first
    | (go_at_call 10; refine Calls.mono IT.out ?_; rintro r w8 ⟨v8, rfl, hr8, hb8⟩; have BW8 : Hid (Below w.heap.size w w8) := below_then BW7.out hb8; have T8 : Hid (Txs w8 v8 [E7.id, E8.id]) := hr8.txs (by decide); obtain ⟨y1, y2, rfl⟩ := rowV_form hr8; clear hr8 hb8)
    | (go_at_call 16; refine Calls.mono (sameTexts_eq (T8.out.step (below_alloc _ _)) (txs2 w8 ⟨#[97]⟩ ⟨#[98]⟩)) ?_; rintro r w9 ⟨rfl, hb9⟩))
  go_ret
  exact ⟨rfl, below_then BW8.out (below_then (below_alloc _ _) hb9)⟩
theorem BookAt.allw {lo bb n : Nat} {mo : Option Nat} {X : List EV} {w : World} (h : BookAt lo w bb mo n X) : AllW X := fun E hE => (book_ok h E hE).1
end Go.Proofs.YtekminpoiokgfaaGreatDoor
