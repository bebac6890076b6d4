/- Package expand's In: the days of a span, or the error full. -/
import Derived.Test.YtfnajhpcbajhfabDoorExpE2
import Derived.Test.YtfnajhpcbajhfabDoorExpA2
import Derived.Test.YtfnajhpcbajhfabDoorExpN
import Derived.Test.YtfnajhpcbajhfabDoorRF2
import Derived.Maps.AppendAt
namespace Go.Proofs.YtfnajhpcbajhfabDoor
open Go Go.RowKit Go.Shelf Cal
attribute [local go_sem] Oper.semAt_some

/-- those of a span -/
def span (a b : Int) (l : List Int) : List Int := l.filter (fun x => decide (a ≤ x ∧ x ≤ b))
theorem span_nil (a b : Int) : span a b [] = [] := rfl
theorem span_low {a b x : Int} {r : List Int} (h : x < a) : span a b (x :: r) = span a b r := by
  unfold span; rw [List.filter_cons_of_neg (by simp; omega)]
theorem span_in {a b x : Int} {r : List Int} (h : a ≤ x) (h' : x ≤ b) : span a b (x :: r) = x :: span a b r := by
  unfold span; rw [List.filter_cons_of_pos (by simp; omega)]
theorem span_over {a b x : Int} {r : List Int} (hr : (x :: r).Pairwise (· < ·)) (h : b < x) : span a b (x :: r) = [] := by
  unfold span
  rw [List.filter_eq_nil_iff]
  intro y hy
  have : x ≤ y := by
    rcases List.mem_cons.1 hy with rfl | hy
    · exact Int.le_refl _
    · have := (List.pairwise_cons.1 hr).1 y hy; omega
  simp; omega

/-- its first boxes -/
def PW (w : World) (f : ByteArray) (e : Int) (sl : Value) (c u fr0 to0 : Int) : World :=
  ((((w.alloc (.cells #[.string f, .int .i64 e, sl, .int .i64 c, .int .i64 u] 24)).alloc (.cells #[.int .i64 fr0] 3)).alloc (.cells #[.int .i64 to0] 3)).alloc (.cells #[.slice none 0 0] 22)).alloc (.cells #[.nilIface] 29)
theorem pw_all (w : World) (f : ByteArray) (e : Int) (sl : Value) (c u fr0 to0 : Int) :
    (PW w f e sl c u fr0 to0).heap.size = w.heap.size + 5 ∧ Below w.heap.size w (PW w f e sl c u fr0 to0) ∧ RB (PW w f e sl c u fr0 to0) w.heap.size f e sl c u ∧ Boxed (PW w f e sl c u fr0 to0) (w.heap.size + 1) 3 (.int .i64 fr0) ∧
      Boxed (PW w f e sl c u fr0 to0) (w.heap.size + 2) 3 (.int .i64 to0) ∧ Boxed (PW w f e sl c u fr0 to0) (w.heap.size + 3) 22 (.slice none 0 0) ∧ Boxed (PW w f e sl c u fr0 to0) (w.heap.size + 4) 29 .nilIface := by
  unfold PW
  refine ⟨by simp, ?_, ?_, ?_, ?_, ?_, ?_⟩
  · exact below_then (below_alloc _ _) (below_then (below_alloc _ _) (below_then (below_alloc _ _) (below_then (below_alloc _ _) (below_alloc _ _))))
  · exact block_alloc _ (block_alloc _ (block_alloc _ (block_alloc _ (block_at _ rfl))))
  · exact block_alloc _ (block_alloc _ (block_alloc _ (block_at _ (by simp))))
  · exact block_alloc _ (block_alloc _ (block_at _ (by simp)))
  · exact block_alloc _ (block_at _ (by simp))
  · exact block_at _ (by simp)

set_option maxHeartbeats 4000000 in
theorem in_ok (f : ByteArray) (e : Int) (sl : Value) (c u : Int) (ds : List Int) (st fr0 to0 : Int) (s : Nat → Addr) (w : World) (g : Sents s w) (hd : Days w sl ds) (hw : Well (rd f e ds c u)) (hs0 : 0 ≤ st) (hs1 : st ≤ 73048) :
    Calls Tryd.prog 9 #[.int .i64 st, rv f e sl c u, .int .i64 fr0, .int .i64 to0] w fun r w' => Below w.heap.size w w' ∧
      (((span fr0 to0 (cut c u (cds f.toList st e ds))).length ≤ 1000 ∧ ∃ v, r = .returned (.tuple #[v, .nilIface]) ∧ Ow w.heap.size w' v (span fr0 to0 (cut c u (cds f.toList st e ds)))) ∨
       (1000 < (span fr0 to0 (cut c u (cds f.toList st e ds))).length ∧ r = .returned (.tuple #[.slice none 0 0, .iface 103 (.pointer (some (s 6)))]))) := by
  have hx : IsDays f e ds c u st (cut c u (cds f.toList st e ds)) := .inl ⟨hw, hs0, hs1, rfl⟩
  have HRI : Hid (_) := hx.rise
  have HX : Hid (IsDays f e ds c u st (cut c u (cds f.toList st e ds))) := hx
  have G : Hid (Sents s w) := g
  have D : Hid (Days w sl ds) := hd
  obtain ⟨hpz, hpb, hpr, hp1, hp2, hp3, hp4⟩ := pw_all w f e sl c u fr0 to0
  have CK : Hid (_) := echeck_ok f e sl c u ds st _ (hd.step hpb) hw hs0 hs1
  obtain ⟨ad, cap, rfl, _, _, _⟩ := id hd
  have P5 : Hid (_) := hpz
  have PB : Hid (_) := hpb
  have PR : Hid (_) := hpr
  have P1 : Hid (_) := hp1
  have P2 : Hid (_) := hp2
  have P3 : Hid (_) := hp3
  have P4 : Hid (_) := hp4
  obtain ⟨x0, x1, x2, x3, x4⟩ := blk5 hpr
  clear hx g hd hw hpz hpb hpr hp1 hp2 hp3 hp4
  generalize cut c u (cds f.toList st e ds) = xs at HX HRI ⊢
  generalize hY : span fr0 to0 xs = Y
  have HYX : Hid (Y = [] ++ span fr0 to0 xs) := by show _ = _; rw [hY]; rfl
  clear hY
  unfold PW at CK x0 x1 x2 x3 x4
  unfold rv at CK ⊢
  refine (callsIn_wide (n := 40)).1 ?_
  refine callsIn_of_wp_marks Tryd.func9 rfl trivial ?_ rfl
  simp only [Tryd.ntmps9, List.size_toArray, List.length_cons, List.length_nil, Nat.reduceAdd, Nat.reduceSub, Array.replicate_succ, Array.replicate_zero, List.push_toArray, List.append_toArray, List.nil_append, List.cons_append]
  gi_wp2_with (first
    | (refine ⟨trivial, ?_⟩; gi_at_call 20; refine (callsIn_wide.2 CK.out).mono ?_; rintro r z ⟨rfl, hbz⟩; change Below (PW w f e (.slice ad ds.length cap) c u fr0 to0).heap.size (PW w f e (.slice ad ds.length cap) c u fr0 to0) z at hbz; clear x0 x1 x2 x3 x4; obtain ⟨x0, x1, x2, x3, x4⟩ := blk5 (block_alloc (.cells #[.slice none 0 0] 22) ((hbz.block _ (Array.getElem?_eq_some_iff.1 PR.out).1).trans PR.out)))
    | (refine ⟨trivial, ?_⟩; gi_at_call 21; refine (callsIn_wide.2 (days_any f e _ ds c u st _ (D.out.step (below_then PB.out (below_then hbz (below_alloc _ _)))))).mono ?_; rintro r W7 ⟨rfl, hb7, hs7, sl', hmk⟩))
  have hzs : w.heap.size + 5 ≤ z.heap.size := by have := hbz.size; have := P5.out; omega
  rw [World.size_alloc] at hb7 hs7 hmk
  have hqb : Below z.heap.size z W7 := (below_alloc z _).trans (hb7.mono (by omega))
  have qL : Boxed W7 z.heap.size 22 (.slice none 0 0) := (hb7.block _ (by omega)).trans (block_at _ rfl)
  have hlow : ∀ k, k < w.heap.size + 5 → W7.heap[k]? = (PW w f e (.slice ad ds.length cap) c u fr0 to0).heap[k]? := fun k hk => (hqb.block k (by omega)).trans (hbz.block k (by rw [P5.out]; exact hk))
  have HB : Hid (Below w.heap.size w W7) := below_then PB.out (below_then hbz hqb)
  have Q1 : Hid (Boxed W7 (w.heap.size + 1) 3 (.int .i64 fr0)) := (hlow _ (by omega)).trans P1.out
  have Q2 : Hid (Boxed W7 (w.heap.size + 2) 3 (.int .i64 to0)) := (hlow _ (by omega)).trans P2.out
  have Q3 : Hid (Boxed W7 (w.heap.size + 3) 22 (.slice none 0 0)) := (hlow _ (by omega)).trans P3.out
  have Q4 : Hid (Boxed W7 (w.heap.size + 4) 29 .nilIface) := (hlow _ (by omega)).trans P4.out
  have QL : Hid (_) := qL
  have HR7 : Hid (DaysIn (z.heap.size + 1 + 2) W7.heap.size W7 sl' ds) := hmk.row
  have MK : Hid (Made f e ds c u st (z.heap.size + 1) W7 sl') := hmk
  clear hlow qL hqb P1 P2 P3 P4 P5 PR PB hbz CK x0 x1 x2 x3 x4 hmk hb7
  generalize z.heap.size = Z at hzs hs7 QL HR7 MK
  refine range_gives (aa := 30) (bb := 20) (O := fun k => Z + 1 ≤ k ∧ k < Z + 3) (Rd := RdC sl' ds) (xs := xs) (by omega) rfl (enters_of Tryd.func33 (by kernel_rfl) rfl) rfl
    (fun W hW => (MK.out.step hW).gives (by omega) HX.out _ ⟨by omega, by omega⟩) (fun k hk => by omega)
    (fun h r W => ∃ (v : Value) (o : List Int), Hid (Boxed W Z 22 v) ∧ Hid (Ow h W v o) ∧ o.length ≤ 1000 ∧ Hid (Y = o ++ span fr0 to0 r ∧ r.Pairwise (· < ·)) ∧ Hid (Boxed W (w.heap.size + 1) 3 (.int .i64 fr0)) ∧ Hid (Boxed W (w.heap.size + 2) 3 (.int .i64 to0)) ∧ Hid (Boxed W (w.heap.size + 3) 22 (.slice none 0 0)) ∧ Hid (Boxed W (w.heap.size + 4) 29 .nilIface) ∧ Hid (Below w.heap.size w W) ∧ Hid (DaysIn (Z + 1 + 2) W7.heap.size W sl' ds))
    (fun cd h W => (cd = .exit 0 ∧ ∃ (v : Value), Hid (Boxed W Z 22 v) ∧ Hid (Ow h W v Y) ∧ Y.length ≤ 1000 ∧ Hid (Boxed W (w.heap.size + 3) 22 (.slice none 0 0)) ∧ Hid (Boxed W (w.heap.size + 4) 29 .nilIface) ∧ Hid (Below w.heap.size w W)) ∨
      (cd = .ret ∧ 1000 < Y.length ∧ Hid (Boxed W (w.heap.size + 3) 22 (.slice none 0 0)) ∧ Hid (Boxed W (w.heap.size + 4) 29 (.iface 103 (.pointer (some (s 6))))) ∧ Hid (Below w.heap.size w W)))
    ?i0 ?i ?ix ?r0 ?r
    (fun x => { tmps := #[.int .i64 st, .agg #[.string f, .int .i64 e, .slice ad ds.length cap, .int .i64 c, .int .i64 u], .int .i64 fr0, .int .i64 to0, undef, .pointer (some ⟨w.heap.size, 0, none⟩), .pointer (some ⟨w.heap.size + 1, 0, none⟩), .pointer (some ⟨w.heap.size + 1 + 1, 0, none⟩), .pointer (some ⟨w.heap.size + 1 + 1 + 1, 0, none⟩), .pointer (some ⟨w.heap.size + 1 + 1 + 1 + 1, 0, none⟩), .nilIface, .pointer (some ⟨Z, 0, none⟩), .int .i64 x, .int .i64 st, .agg #[.string f, .int .i64 e, .slice ad ds.length cap, .int .i64 c, .int .i64 u], .nilIface, .nilIface, .bool false, undef, .int .i64 st, .agg #[.string f, .int .i64 e, .slice ad ds.length cap, .int .i64 c, .int .i64 u],
      .func (.func 33) #[] #[.pointer (some ⟨Z + 1, 0, none⟩), .pointer (some ⟨Z + 1 + 1, 0, none⟩)], .int .i64 x, undef, undef, undef, undef, undef, undef, undef, undef, undef, undef, undef, undef, undef, undef, undef], defers := [] })
    ?assign ?body ?done ?stop
  case i0 =>
    intro W hS hs
    exact ⟨.slice none 0 0, [], hS.box QL.out ⟨fun q => by omega, by omega⟩, Ow.nil _ _, by simp, ⟨HYX.out, HRI.out⟩, hS.box Q1.out ⟨fun q => by omega, by omega⟩, hS.box Q2.out ⟨fun q => by omega, by omega⟩, hS.box Q3.out ⟨fun q => by omega, by omega⟩, hS.box Q4.out ⟨fun q => by omega, by omega⟩, HB.out.trans (hS.toBelow (by omega) (fun k hk => ⟨fun q => by omega, by omega⟩)), HR7.out.steps (fun k h1 h2 h3 => hS.block k ⟨fun q => by omega, by omega⟩ h3)⟩
  case i =>
    rintro h r W W' hh ⟨v, o, a1, a2, a3, a4, a5, a6, a7, a8, a9, a10⟩ hS
    exact ⟨v, o, hS.box a1.out ⟨fun q => by omega, .inl (by omega)⟩, Ow.steps a2.out (fun k hk hl => hS.block k ⟨fun q => by omega, .inr hk⟩ hl), a3, a4, hS.box a5.out ⟨fun q => by omega, .inl (by omega)⟩, hS.box a6.out ⟨fun q => by omega, .inl (by omega)⟩, hS.box a7.out ⟨fun q => by omega, .inl (by omega)⟩, hS.box a8.out ⟨fun q => by omega, .inl (by omega)⟩, a9.out.trans (hS.toBelow a9.out.size (fun k hk => ⟨fun q => by omega, .inl (by omega)⟩)), a10.out.steps (fun k h1 h2 h3 => hS.block k ⟨fun q => by omega, .inl h2⟩ h3)⟩
  case ix =>
    rintro cd h W W' hh (⟨rfl, v, a1, a2, a3, a7, a8, a9⟩ | ⟨rfl, a3, a7, a8, a9⟩) hS
    · exact .inl ⟨rfl, v, hS.box a1.out ⟨fun q => by omega, .inl (by omega)⟩, Ow.steps a2.out (fun k hk hl => hS.block k ⟨fun q => by omega, .inr hk⟩ hl), a3, hS.box a7.out ⟨fun q => by omega, .inl (by omega)⟩, hS.box a8.out ⟨fun q => by omega, .inl (by omega)⟩, a9.out.trans (hS.toBelow a9.out.size (fun k hk => ⟨fun q => by omega, .inl (by omega)⟩))⟩
    · exact .inr ⟨rfl, a3, hS.box a7.out ⟨fun q => by omega, .inl (by omega)⟩, hS.box a8.out ⟨fun q => by omega, .inl (by omega)⟩, a9.out.trans (hS.toBelow a9.out.size (fun k hk => ⟨fun q => by omega, .inl (by omega)⟩))⟩
  case r0 =>
    intro W hS
    have hb := HB.out.trans (hS.toBelow (n := w.heap.size) (by omega) (fun k hk => ⟨fun q => by omega, by omega⟩))
    exact ⟨(G.out.step hb).glob, (HR7.out.steps (fun k h1 h2 h3 => hS.block k ⟨fun q => by omega, by omega⟩ h3)).days⟩
  case r =>
    rintro h r W ⟨_, _, _, _, _, _, _, _, _, _, a9, a10⟩
    exact ⟨(G.out.step a9.out).glob, a10.out.days⟩
  case assign =>
    intro l' m x W K hK
    gi_wp2
    exact hK
  case body =>
    rintro l' m h x r W hm hh hhW ⟨v, o, a1, a2, a3, a4, a5, a6, a7, a8, a9, a10⟩
    have h1m : 1 ≤ m := by omega
    obtain ⟨oa, oc, rfl⟩ := ow_form a2.out
    have cL := Boxed.cell a1.out
    have fL := Boxed.frozen a1.out
    have cF := Boxed.cell a5.out
    have cT := Boxed.cell a6.out
    have A4 : Hid (_) := a4.out.2
    by_cases g1 : to0 < x
    · have E : Hid (Y = o) := by
        have := a4.out.1
        rw [span_over a4.out.2 g1, List.append_nil] at this
        exact this
      clear a4 A4
      gi_wp2
      refine ⟨Steps.refl _ _, .inl ⟨rfl, _, a1.out, ?_, ?_, a7.out, a8.out, a9.out⟩⟩
      · show Ow h W _ Y
        rw [E.out]; exact a2.out
      · rw [E.out]; exact a3
    · by_cases g2 : x < fr0
      · have E : Hid (Y = o ++ span fr0 to0 r ∧ r.Pairwise (· < ·)) := by
          have := a4.out.1
          rw [span_low g2] at this
          exact ⟨this, (List.pairwise_cons.1 a4.out.2).2⟩
        clear a4 A4
        gi_wp2
        refine ⟨Steps.refl _ _, ?_⟩
        first
          | exact ⟨_, a1.out, o, a2.out, a3, E.out, a5.out, a6.out, a7.out, a8.out, a9.out, a10.out⟩
          | exact ⟨_, o, a1.out, a2.out, a3, E.out, a5.out, a6.out, a7.out, a8.out, a9.out, a10.out⟩
          | (trace_state; fail)
      · have E : Hid (Y = o ++ (x :: span fr0 to0 r)) := by
          have := a4.out.1
          rw [span_in (by omega) (by omega)] at this
          exact this
        by_cases g3 : o.length = 1000
        · have g3' : ((o.length : Int) == 1000) = true := by rw [g3]; rfl
          have HL : Hid (1000 < Y.length) := by
            show 1000 < Y.length
            rw [E.out, List.length_append, List.length_cons]
            omega
          have cE := (G.out.step a9.out).c6
          have c3 := Boxed.cell a7.out
          have f3 := Boxed.frozen a7.out
          have c4 := Boxed.cell a8.out
          have f4 := Boxed.frozen a8.out
          have hmix : Tryd.prog.follows .mixedOrders = true := by kernel_rfl
          clear g3 E a4 A4
          have b7 : Boxed W.drew (w.heap.size + 3) 22 (.slice none 0 0) := a7.out
          have b8 : Boxed W.drew (w.heap.size + 4) 29 .nilIface := a8.out
          have b9 : Below w.heap.size w W.drew := a9.out.drew
          have c8 := Boxed.cell (Boxed.other b8 (show w.heap.size + 4 ≠ w.heap.size + 3 by omega) (.slice none 0 0))
          have f8 := Boxed.frozen (Boxed.other b8 (show w.heap.size + 4 ≠ w.heap.size + 3 by omega) (.slice none 0 0))
          have F3 : Hid (Boxed ((W.drew.setCell ⟨w.heap.size + 3, 0, none⟩ (.slice none 0 0)).setCell ⟨w.heap.size + 4, 0, none⟩ (.iface 103 (.pointer (some (s 6))))) (w.heap.size + 3) 22 (.slice none 0 0)) := Boxed.other (Boxed.set _ b7) (by omega) _
          have F4 : Hid (Boxed ((W.drew.setCell ⟨w.heap.size + 3, 0, none⟩ (.slice none 0 0)).setCell ⟨w.heap.size + 4, 0, none⟩ (.iface 103 (.pointer (some (s 6))))) (w.heap.size + 4) 29 (.iface 103 (.pointer (some (s 6))))) := Boxed.set _ (Boxed.other b8 (by omega) _)
          have FB : Hid (Below w.heap.size w ((W.drew.setCell ⟨w.heap.size + 3, 0, none⟩ (.slice none 0 0)).setCell ⟨w.heap.size + 4, 0, none⟩ (.iface 103 (.pointer (some (s 6)))))) := (b9.setCell (p := ⟨w.heap.size + 3, 0, none⟩) (by show _ ≤ w.heap.size + 3; omega) _).setCell (p := ⟨w.heap.size + 4, 0, none⟩) (by show _ ≤ w.heap.size + 4; omega) _
          have FS : Hid (Steps (roK (fun k => Z + 1 ≤ k ∧ k < Z + 3) W7.heap.size h) W ((W.drew.setCell ⟨w.heap.size + 3, 0, none⟩ (.slice none 0 0)).setCell ⟨w.heap.size + 4, 0, none⟩ (.iface 103 (.pointer (some (s 6)))))) := by
            refine Steps.trans (B := W.drew) ⟨rfl, rfl, rfl, Nat.le_refl _, fun _ _ _ => rfl⟩ ((Steps.set _ _ _ (fun q => ?_)).trans (Steps.set _ _ _ (fun q => ?_)))
            · have q' : (Z + 1 ≤ w.heap.size + 3 ∧ w.heap.size + 3 < Z + 3) ∨ (W7.heap.size ≤ w.heap.size + 3 ∧ w.heap.size + 3 < h) := q
              omega
            · have q' : (Z + 1 ≤ w.heap.size + 4 ∧ w.heap.size + 4 < Z + 3) ∨ (W7.heap.size ≤ w.heap.size + 4 ∧ w.heap.size + 4 < h) := q
              omega
          clear b9
          gi_wp2
          refine region_round hmix (no_defer (by kernel_rfl)) (by rintro ⟨_, _, hx⟩; exact hx) ?_
          refine wpAny_ready (rs := [0, 1]) (by kernel_rfl) (by simp) (AllReady.cons rfl (fun K hK => ?_) (AllReady.cons rfl (fun K hK => ?_) AllReady.nil))
          · go_simp
            refine hK _ _ ?_
            clear hK K
            refine wpAny_ready (rs := [1]) (by kernel_rfl) (by simp) (AllReady.cons rfl (fun K hK => ?_) AllReady.nil)
            go_simp
            refine hK _ _ ?_
            clear hK K
            refine wpAny_ready (rs := [2]) (by kernel_rfl) (by simp) (AllReady.cons rfl (fun K hK => ?_) AllReady.nil)
            go_simp
            refine hK _ _ ?_
            clear hK K
            refine wpAny_done (by kernel_rfl) ?_ _
            gi_wp2
            exact ⟨FS.out, .inr ⟨rfl, HL.out, F3.out, F4.out, FB.out⟩⟩
          · go_simp
            refine hK _ _ ?_
            clear hK K
            refine wpAny_ready (rs := [0]) (by kernel_rfl) (by simp) (AllReady.cons rfl (fun K hK => ?_) AllReady.nil)
            go_simp
            refine hK _ _ ?_
            clear hK K
            refine wpAny_ready (rs := [2]) (by kernel_rfl) (by simp) (AllReady.cons rfl (fun K hK => ?_) AllReady.nil)
            go_simp
            refine hK _ _ ?_
            clear hK K
            refine wpAny_done (by kernel_rfl) ?_ _
            gi_wp2
            exact ⟨FS.out, .inr ⟨rfl, HL.out, F3.out, F4.out, FB.out⟩⟩
        · have g3' : ((o.length : Int) == 1000) = false := by rw [beq_eq_false_iff_ne]; omega
          obtain ⟨i0, hi, hz0, hz1, hz2⟩ := info_parts info_int
          have OWA : Hid (Ow h (W.alloc (.cells #[.int .i64 x] 3)) (.slice oa o.length oc) o) := Ow.step a2.out (below_alloc _ _)
          have NC : Hid (∀ j v, [Value.int .i64 x][j]? = some v → (W.alloc (.cells #[.int .i64 x] 3)).cell? ((⟨W.heap.size, 0, none⟩ : Addr).add j) = some v) := fun j v hv => by
            obtain ⟨hj, he⟩ := List.getElem?_eq_some_iff.1 hv
            have hj0 : j = 0 := by simpa using hj
            subst hj0
            have he' : Value.int .i64 x = v := by simpa using he
            rw [← he']
            exact (Boxed.new W 3 (.int .i64 x)).cell
          have hzw := hhW
          gi_wp2_with (first
            | (gi_at_builtin; refine wpListIn_append_own _ rfl _ _ 22 rfl h 3 i0 (.int .i64 0) 1 8 Tryd.underlying22 hi hz0 hz1 hz2 rfl (by decide) _ _ _ rfl OWA.out ⟨W.heap.size, 0, none⟩ 1 1 [.int .i64 x] rfl rfl NC.out (fun v hv => by rw [List.mem_singleton.1 hv]; rfl) (by unfold maxLen; omega) (by omega) (by rw [World.size_alloc]; omega) ?_; intro v' w1 hown' hgrow _; obtain ⟨g', cap', rfl⟩ := ownsRow_succ hown'; have hgr : (W.alloc (.cells #[.int .i64 x] 3)).grownBy w1 (Value.slice oa o.length oc).ownBlock := hgrow; have hlow : ∀ k, k < h → w1.heap[k]? = W.heap[k]? := (fun k hk => (hgr.block k (by rw [World.size_alloc]; omega) (fun q => by have := (World.ownsRow.lt OWA.out k q.symm).1; omega)).trans ((below_alloc W _).block k (by omega))); have cL1 := Boxed.cell (show Boxed w1 Z 22 (.slice oa o.length oc) from (hlow Z (by omega)).trans a1.out); have fL1 := Boxed.frozen (show Boxed w1 Z 22 (.slice oa o.length oc) from (hlow Z (by omega)).trans a1.out))
            | gi_in)
          have hz1 : W.heap.size ≤ w1.heap.size := by have := hgr.size; rw [World.size_alloc] at this; omega
          have hset : ∀ k, k < h → k ≠ Z → (w1.setCell ⟨Z, 0, none⟩ (.slice (some ⟨g', 0, none⟩) (o.length + 1) cap')).heap[k]? = W.heap[k]? := fun k hk hne => (Below.heap_setCell _ _ _ k (fun q => hne q)).trans (hlow k hk)
          have E2 : Y = (o ++ [x]) ++ span fr0 to0 r := by rw [E.out, List.append_assoc]; rfl
          have OW1 : Ow h w1 (.slice (some ⟨g', 0, none⟩) (o.length + 1) cap') (o ++ [x]) := by
            show World.ownsRow _ _ _ _ _ _ _
            rw [List.length_append, List.map_append]
            exact hown'
          refine ⟨⟨hgr.os, hgr.tape, hgr.output, by rw [set_size]; exact hz1, fun k hk hl => hset k (by rcases hk with q | q <;> omega) (by rcases hk with q | q <;> omega)⟩, ?_⟩
          have R : ∃ v, Hid (Boxed (w1.setCell ⟨Z, 0, none⟩ (.slice (some ⟨g', 0, none⟩) (o.length + 1) cap')) Z 22 v) ∧ ∃ o', Hid (Ow h (w1.setCell ⟨Z, 0, none⟩ (.slice (some ⟨g', 0, none⟩) (o.length + 1) cap')) v o') ∧ o'.length ≤ 1000 ∧ Hid (Y = o' ++ span fr0 to0 r ∧ r.Pairwise (· < ·)) ∧ Hid (Boxed (w1.setCell ⟨Z, 0, none⟩ (.slice (some ⟨g', 0, none⟩) (o.length + 1) cap')) (w.heap.size + 1) 3 (.int .i64 fr0)) ∧ Hid (Boxed (w1.setCell ⟨Z, 0, none⟩ (.slice (some ⟨g', 0, none⟩) (o.length + 1) cap')) (w.heap.size + 2) 3 (.int .i64 to0)) ∧ Hid (Boxed (w1.setCell ⟨Z, 0, none⟩ (.slice (some ⟨g', 0, none⟩) (o.length + 1) cap')) (w.heap.size + 3) 22 (.slice none 0 0)) ∧ Hid (Boxed (w1.setCell ⟨Z, 0, none⟩ (.slice (some ⟨g', 0, none⟩) (o.length + 1) cap')) (w.heap.size + 4) 29 .nilIface) ∧ Hid (Below w.heap.size w (w1.setCell ⟨Z, 0, none⟩ (.slice (some ⟨g', 0, none⟩) (o.length + 1) cap'))) ∧ Hid (DaysIn (Z + 1 + 2) W7.heap.size (w1.setCell ⟨Z, 0, none⟩ (.slice (some ⟨g', 0, none⟩) (o.length + 1) cap')) sl' ds) :=
            ⟨_, Boxed.set _ (show Boxed w1 Z 22 (.slice oa o.length oc) from (hlow Z (by omega)).trans a1.out), o ++ [x], Ow.steps OW1 (fun k hk hl => Below.heap_setCell _ _ _ k (fun q => by have q' : k = Z := q; omega)), by rw [List.length_append]; show o.length + 1 ≤ 1000; omega, ⟨E2, (List.pairwise_cons.1 A4.out).2⟩,
              (hset _ (by omega) (by omega)).trans a5.out, (hset _ (by omega) (by omega)).trans a6.out, (hset _ (by omega) (by omega)).trans a7.out, (hset _ (by omega) (by omega)).trans a8.out,
              a9.out.trans ⟨hgr.os, hgr.tape, hgr.output, by rw [set_size]; exact hz1, fun k hk => hset k (by omega) (by omega)⟩, a10.out.steps (fun k h1 h2 h3 => hset k (by omega) (by omega))⟩
          exact R
  case done =>
    rintro h W hh hhW ⟨v, o, a1, a2, a3, a4, a5, a6, a7, a8, a9, a10⟩ hK
    have E : Hid (Y = o) := by
      have := a4.out.1
      rw [span_nil, List.append_nil] at this
      exact this
    obtain ⟨oa, oc, rfl⟩ := ow_form a2.out
    have OY : Hid (Ow h W (.slice oa o.length oc) Y) := by
      show Ow _ _ _ Y
      rw [E.out]; exact a2.out
    have HLE : Hid (Y.length ≤ 1000) := by
      show Y.length ≤ _
      rw [E.out]; exact a3
    clear a4 E
    have cL := Boxed.cell a1.out
    have c3 := Boxed.cell a7.out
    have f3 := Boxed.frozen a7.out
    have HK : Hid (_) := hK
    clear hK
    have z4 := Boxed.cell (Boxed.other a8.out (show w.heap.size + 4 ≠ w.heap.size + 3 by omega) (.slice oa o.length oc))
    have y4 := Boxed.frozen (Boxed.other a8.out (show w.heap.size + 4 ≠ w.heap.size + 3 by omega) (.slice oa o.length oc))
    have D2 : Hid (((W.setCell ⟨w.heap.size + 3, 0, none⟩ (.slice oa o.length oc)).setCell ⟨w.heap.size + 4, 0, none⟩ .nilIface).heap[W7.heap.size]? = some (.deferred (some []))) := (Below.heap_setCell _ _ _ _ (fun e => by have e' : W7.heap.size = w.heap.size + 4 := e; omega)).trans ((Below.heap_setCell _ _ _ _ (fun e => by have e' : W7.heap.size = w.heap.size + 3 := e; omega)).trans HK.out)
    have K3 : Hid (Boxed ((W.setCell ⟨w.heap.size + 3, 0, none⟩ (.slice oa o.length oc)).setCell ⟨w.heap.size + 4, 0, none⟩ .nilIface) (w.heap.size + 3) 22 (.slice oa o.length oc)) := Boxed.other (Boxed.set _ a7.out) (by omega) _
    have K4 : Hid (Boxed ((W.setCell ⟨w.heap.size + 3, 0, none⟩ (.slice oa o.length oc)).setCell ⟨w.heap.size + 4, 0, none⟩ .nilIface) (w.heap.size + 4) 29 .nilIface) := Boxed.set _ (Boxed.other a8.out (by omega) _)
    have HB3 : Hid (Below w.heap.size w ((W.setCell ⟨w.heap.size + 3, 0, none⟩ (.slice oa o.length oc)).setCell ⟨w.heap.size + 4, 0, none⟩ .nilIface)) := (a9.out.setCell (p := ⟨w.heap.size + 3, 0, none⟩) (by show _ ≤ w.heap.size + 3; omega) _).setCell (p := ⟨w.heap.size + 4, 0, none⟩) (by show _ ≤ w.heap.size + 4; omega) _
    have OW3 : Hid (Ow h ((W.setCell ⟨w.heap.size + 3, 0, none⟩ (.slice oa o.length oc)).setCell ⟨w.heap.size + 4, 0, none⟩ .nilIface) (.slice oa o.length oc) Y) := Ow.steps OY.out (fun k hk hl => (Below.heap_setCell _ _ _ _ (fun e => by have e' : k = w.heap.size + 4 := e; omega)).trans (Below.heap_setCell _ _ _ _ (fun e => by have e' : k = w.heap.size + 3 := e; omega)))
    gi_wp2
    generalize ((W.setCell ⟨w.heap.size + 3, 0, none⟩ (.slice oa o.length oc)).setCell ⟨w.heap.size + 4, 0, none⟩ .nilIface) = W4 at D2 K3 K4 HB3 OW3 ⊢
    refine ⟨by simp, .inl ⟨_, _, rfl, run_takeDeferred D2.out, ?_⟩⟩
    have j3 := Boxed.cell (show Boxed (W4.putObj W7.heap.size (.deferred none)) (w.heap.size + 3) 22 (.slice oa o.length oc) from (World.putObj_heap_other (by omega)).trans K3.out)
    have j4 := Boxed.cell (show Boxed (W4.putObj W7.heap.size (.deferred none)) (w.heap.size + 4) 29 .nilIface from (World.putObj_heap_other (by omega)).trans K4.out)
    refine ⟨.tuple #[.slice oa o.length oc, .nilIface], ?_, HB3.out.trans ((Steps.put W4 W7.heap.size _ (by omega : ¬ W7.heap.size < w.heap.size)).toBelow HB3.out.size (fun k hk => hk)), .inl ⟨HLE.out, _, rfl, own_base (Ow.steps OW3.out (fun k hk hl => World.putObj_heap_other (by omega))) (by omega)⟩⟩
    simp [results, Tryd.f9, go_sem, j3, j4]
  case stop =>
    rintro cd h W hh hhW (⟨rfl, v, a1, a2, a3, a7, a8, a9⟩ | ⟨rfl, a3, a7, a8, a9⟩) hK
    · obtain ⟨oa, oc, rfl⟩ := ow_form a2.out
      have OY : Hid (Ow h W (.slice oa Y.length oc) Y) := a2.out
      have HLE : Hid (Y.length ≤ 1000) := a3
      have cL := Boxed.cell a1.out
      have c3 := Boxed.cell a7.out
      have f3 := Boxed.frozen a7.out
      have HK : Hid (_) := hK
      clear hK
      have z4 := Boxed.cell (Boxed.other a8.out (show w.heap.size + 4 ≠ w.heap.size + 3 by omega) (.slice oa Y.length oc))
      have y4 := Boxed.frozen (Boxed.other a8.out (show w.heap.size + 4 ≠ w.heap.size + 3 by omega) (.slice oa Y.length oc))
      have D2 : Hid (((W.setCell ⟨w.heap.size + 3, 0, none⟩ (.slice oa Y.length oc)).setCell ⟨w.heap.size + 4, 0, none⟩ .nilIface).heap[W7.heap.size]? = some (.deferred (some []))) := (Below.heap_setCell _ _ _ _ (fun e => by have e' : W7.heap.size = w.heap.size + 4 := e; omega)).trans ((Below.heap_setCell _ _ _ _ (fun e => by have e' : W7.heap.size = w.heap.size + 3 := e; omega)).trans HK.out)
      have K3 : Hid (Boxed ((W.setCell ⟨w.heap.size + 3, 0, none⟩ (.slice oa Y.length oc)).setCell ⟨w.heap.size + 4, 0, none⟩ .nilIface) (w.heap.size + 3) 22 (.slice oa Y.length oc)) := Boxed.other (Boxed.set _ a7.out) (by omega) _
      have K4 : Hid (Boxed ((W.setCell ⟨w.heap.size + 3, 0, none⟩ (.slice oa Y.length oc)).setCell ⟨w.heap.size + 4, 0, none⟩ .nilIface) (w.heap.size + 4) 29 .nilIface) := Boxed.set _ (Boxed.other a8.out (by omega) _)
      have HB3 : Hid (Below w.heap.size w ((W.setCell ⟨w.heap.size + 3, 0, none⟩ (.slice oa Y.length oc)).setCell ⟨w.heap.size + 4, 0, none⟩ .nilIface)) := (a9.out.setCell (p := ⟨w.heap.size + 3, 0, none⟩) (by show _ ≤ w.heap.size + 3; omega) _).setCell (p := ⟨w.heap.size + 4, 0, none⟩) (by show _ ≤ w.heap.size + 4; omega) _
      have OW3 : Hid (Ow h ((W.setCell ⟨w.heap.size + 3, 0, none⟩ (.slice oa Y.length oc)).setCell ⟨w.heap.size + 4, 0, none⟩ .nilIface) (.slice oa Y.length oc) Y) := Ow.steps OY.out (fun k hk hl => (Below.heap_setCell _ _ _ _ (fun e => by have e' : k = w.heap.size + 4 := e; omega)).trans (Below.heap_setCell _ _ _ _ (fun e => by have e' : k = w.heap.size + 3 := e; omega)))
      gi_wp2
      generalize ((W.setCell ⟨w.heap.size + 3, 0, none⟩ (.slice oa Y.length oc)).setCell ⟨w.heap.size + 4, 0, none⟩ .nilIface) = W4 at D2 K3 K4 HB3 OW3 ⊢
      refine ⟨by simp, .inl ⟨_, _, rfl, run_takeDeferred D2.out, ?_⟩⟩
      have j3 := Boxed.cell (show Boxed (W4.putObj W7.heap.size (.deferred none)) (w.heap.size + 3) 22 (.slice oa Y.length oc) from (World.putObj_heap_other (by omega)).trans K3.out)
      have j4 := Boxed.cell (show Boxed (W4.putObj W7.heap.size (.deferred none)) (w.heap.size + 4) 29 .nilIface from (World.putObj_heap_other (by omega)).trans K4.out)
      refine ⟨.tuple #[.slice oa Y.length oc, .nilIface], ?_, HB3.out.trans ((Steps.put W4 W7.heap.size _ (by omega : ¬ W7.heap.size < w.heap.size)).toBelow HB3.out.size (fun k hk => hk)), .inl ⟨HLE.out, _, rfl, own_base (Ow.steps OW3.out (fun k hk hl => World.putObj_heap_other (by omega))) (by omega)⟩⟩
      simp [results, Tryd.f9, go_sem, j3, j4]
    · have HK : Hid (_) := hK
      have HL : Hid (1000 < Y.length) := a3
      clear hK a3
      gi_wp2
      refine ⟨by simp, .inl ⟨_, _, rfl, run_takeDeferred HK.out, ?_⟩⟩
      have j3 := Boxed.cell (show Boxed (W.putObj W7.heap.size (.deferred none)) (w.heap.size + 3) 22 (.slice none 0 0) from (World.putObj_heap_other (by omega)).trans a7.out)
      have j4 := Boxed.cell (show Boxed (W.putObj W7.heap.size (.deferred none)) (w.heap.size + 4) 29 (.iface 103 (.pointer (some (s 6)))) from (World.putObj_heap_other (by omega)).trans a8.out)
      refine ⟨.tuple #[.slice none 0 0, .iface 103 (.pointer (some (s 6)))], ?_, a9.out.trans ((Steps.put W W7.heap.size _ (by omega : ¬ W7.heap.size < w.heap.size)).toBelow a9.out.size (fun k hk => hk)), .inr ⟨HL.out, rfl⟩⟩
      simp [results, Tryd.f9, go_sem, j3, j4]
end Go.Proofs.YtfnajhpcbajhfabDoor
