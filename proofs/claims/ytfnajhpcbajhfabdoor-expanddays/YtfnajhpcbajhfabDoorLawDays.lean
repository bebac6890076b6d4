/- The law ExpandDays, walked: days of any start and rule in any span, the n-th one; is one one? -/
import Derived.Test.YtfnajhpcbajhfabDoorLawCounts
import Derived.Test.YtfnajhpcbajhfabDoorExpN2
import Derived.Test.YtfnajhpcbajhfabDoorExpE2
import Derived.Test.YtfnajhpcbajhfabDoorExpS
namespace Go.Proofs.YtfnajhpcbajhfabDoor
open Go.RowKit Cal

theorem isDayR_any (n : Int) (w : World) : Calls Tryd.prog 11 #[.int .i64 n] w fun r w' => r = .returned (.bool (decide (0 ≤ n ∧ n ≤ 73048))) ∧ w' = w := by
  by_cases h : 0 ≤ n ∧ n ≤ 73048
  · rw [decide_eq_true h]; exact isDayR_yes n w h.1 h.2
  · rw [decide_eq_false h]; exact isDayR_no n w (by omega)
theorem nth_nil (n : Int) : nthB [] n = false ∧ nthD [] n = 0 := nth_no (by simp; omega)

theorem ow_cell {base : Nat} {W : World} {a : Option Addr} {cap : Nat} {o : List Int} (h : Ow base W (.slice a o.length cap) o) (k : Nat) (hk : k < o.length) : ∃ g, a = some ⟨g, 0, none⟩ ∧ W.cell? ⟨g, k, none⟩ = some (.int .i64 o[k]) := by
  rcases h.2 with ⟨_, q⟩ | ⟨g, cap', cur, hv, _⟩
  · omega
  · cases hv
    refine ⟨g, rfl, ?_⟩
    have := World.ownsRow.cellAt h k (by omega)
    rw [this, List.getElem?_map, List.getElem?_eq_getElem hk]; rfl

/-- a law's walk where the rule or the start is not well: what its parts answer -/
structure Bad (f : ByteArray) (e : Int) (ds : List Int) (c u st : Int) (s : Nat → Addr) (ke : Int) (isd : Bool) (K : Int) (j : Nat) : Prop where
  err : ErrK f e ds c u ke
  day : isd = decide (0 ≤ st ∧ st ≤ 73048)
  num : (K : Int) = j + 1
  lt : j < 11
  pos : 0 < K
  no : ¬ (Well (rd f e ds c u) ∧ 0 ≤ st ∧ st ≤ 73048)
  chk : ∀ (W : World) (sl : Value), Sents s W → Days W sl ds → Calls Tryd.prog 20 #[.int .i64 st, rv f e sl c u] W fun r w' => r = .returned (.iface 103 (.pointer (some (s j)))) ∧ Below W.heap.size W w'
  law : (0 < ke ∧ ke = K) ∨ (ke = 0 ∧ isd = false ∧ K = 2)

theorem bad_of {f : ByteArray} {e : Int} {ds : List Int} {c u st : Int} (s : Nat → Addr) (h : ¬ (Well (rd f e ds c u) ∧ 0 ≤ st ∧ st ≤ 73048)) : ∃ ke isd K j, Bad f e ds c u st s ke isd K j := by
  obtain ⟨k, hk⟩ := errK_ex f e ds c u
  by_cases hw : Well (rd f e ds c u)
  · have hk0 := (errK_0 hk).2 hw
    have hd : ¬ (0 ≤ st ∧ st ≤ 73048) := fun q => h ⟨hw, q⟩
    refine ⟨k, _, 2, 1, hk, rfl, rfl, by omega, by omega, h, fun W sl g hD => ?_, .inr ⟨hk0, decide_eq_false hd, rfl⟩⟩
    exact echeck_b f e sl c u ds st s W g hD hw (by omega)
  · have hk0 : k ≠ 0 := fun q => hw ((errK_0 hk).1 q)
    have hb := errK_bd hk
    refine ⟨k, _, k, (k - 1).toNat, hk, rfl, by omega, by omega, by omega, h, fun W sl g hD => ?_, .inl ⟨by omega, rfl⟩⟩
    have := echeck_k f e sl c u ds k st s W g hD hk hw
    have ev : errV s k = .iface 103 (.pointer (some (s (k - 1).toNat))) := by unfold errV; rw [if_neg hk0]
    rw [ev] at this
    exact this

set_option maxHeartbeats 4000000 in
set_option maxRecDepth 100000 in
theorem days_all (f : ByteArray) (e : Int) (sl : Value) (c u : Int) (ds : List Int) (st fr0 to0 n d : Int) (s : Nat → Addr) (w : World) (gs : Sents s w) (hd : Got w sl ds) :
    Calls Tryd.prog 3 #[.int .i64 st, rv f e sl c u, .int .i64 fr0, .int .i64 to0, .int .i64 n, .int .i64 d] w fun r w' => r = .returned (.bool true) ∧ Below w.heap.size w w' := by
  have D : Hid (Got w sl ds) := hd
  have D0 : Hid (Got w sl ds) := hd
  have GS : Hid (Sents s w) := gs
  have g := gs.glob
  have G : Hid (Glob w) := g
  obtain ⟨a, cap, rfl, _, _⟩ := hd
  obtain ⟨hl0, hl1⟩ := lng_01 f ds.length
  have EX : Hid (_) := expanded_any _ (g.step (below_alloc w (.cells #[.string f, .int .i64 e, .slice a ds.length cap, .int .i64 c, .int .i64 u] 24)))
  have LR : Hid (∀ w, Calls Tryd.prog 7 #[.agg #[.string f, .int .i64 e, .slice a ds.length cap, .int .i64 c, .int .i64 u]] w fun r w' => r = .returned (.int .i64 (lng f ds.length)) ∧ Below w.heap.size w w') := fun w => longRule_any f e a ds.length cap c u w _ rfl
  have H1 : Hid (lng f ds.length = 0 → ds.length ≤ 20) := lng_0
  generalize lng f ds.length = k at hl0 hl1 LR H1
  have hcases : 0 < k ∨ k = 0 := by omega
  unfold rv
  clear g gs
  rcases hcases with h | rfl
  case inr =>
    have h20 : ds.length ≤ 20 := H1.out rfl
    clear H1 hl0 hl1
    go_enter Tryd.func3, Tryd.ntmps3
    go_upto_region 4 with (first
      | (go_at_call 6; refine Calls.mono EX.out ?_; rintro r w1 ⟨rfl, hb1⟩; have k0 : RB w1 w.heap.size f e (.slice a ds.length cap) c u := (hb1.block _ (by simp)).trans (block_at _ rfl); obtain ⟨x0, x1, x2, x3, x4⟩ := blk5 k0)
      | (go_at_call 7; refine (LR.out _).mono ?_; rintro r w2 ⟨rfl, hb2⟩))
    have BW2 : Hid (Below w.heap.size w w2) := below_then (below_alloc _ _) (below_then hb1 hb2)
    obtain ⟨y0, y1, y2, y3, y4⟩ := blk5 (k0.step hb2)
    have O1 : Hid (_) := ownRule_any f e _ c u ds w2 (D.out.step BW2.out) h20
    have RR2 : Hid (RB w2 w.heap.size f e (.slice a ds.length cap) c u) := k0.step hb2
    clear x0 x1 x2 x3 x4 k0 hb1 hb2 D EX LR
    go_upto_region 5 with (go_at_call 8; refine Calls.mono O1.out ?_; rintro r w3 ⟨sx, rfl, hdx, hgx, hb3⟩; obtain ⟨sa, sc, rfl, hx1, hx2, hx3⟩ := id hdx; clear hx1 hx2 hx3; dsimp only [rv])
    have hR : RB (w3.alloc (.cells #[.string f, .int .i64 e, .slice sa ds.length sc, .int .i64 c, .int .i64 u] 24)) w3.heap.size f e (.slice sa ds.length sc) c u := block_at _ rfl
    have h34 : Below w3.heap.size w3 (w3.alloc (.cells #[.string f, .int .i64 e, .slice sa ds.length sc, .int .i64 c, .int .i64 u] 24)) := below_alloc _ _
    have L3 : Hid (∀ W, Below w3.heap.size w3 W → Days W (.slice sa ds.length sc) ds ∧ Got W (.slice sa ds.length sc) ds) := fun W h => ⟨hdx.step h, hgx.step h⟩
    have BW4 : Hid (Below w.heap.size w (w3.alloc (.cells #[.string f, .int .i64 e, .slice sa ds.length sc, .int .i64 c, .int .i64 u] 24))) := below_then BW2.out (below_then hb3 (below_alloc _ _))
    have hws : w.heap.size ≤ w3.heap.size := Nat.le_trans BW2.out.size hb3.size
    have RR4 : Hid (RB (w3.alloc (.cells #[.string f, .int .i64 e, .slice sa ds.length sc, .int .i64 c, .int .i64 u] 24)) w.heap.size f e (.slice a ds.length cap) c u) := RR2.out.step (below_then hb3 (below_alloc _ _))
    clear hdx hgx hb3 y0 y1 y2 y3 y4 O1 BW2 RR2
    generalize w3.alloc (.cells #[.string f, .int .i64 e, .slice sa ds.length sc, .int .i64 c, .int .i64 u] 24) = w4 at hR h34 BW4 RR4
    generalize hbx : w3.heap.size = bx at hR h34 L3 hws
    have H34 : Hid (_) := h34
    have HR : Hid (RB w4 bx f e (.slice sa ds.length sc) c u) := hR
    have D4 : Hid (Days w4 (.slice sa ds.length sc) ds) := (L3.out w4 h34).1
    have G4 : Hid (Sents s w4) := GS.out.step BW4.out
    have GT4 : Hid (Got w4 (.slice a ds.length cap) ds) := D0.out.step BW4.out
    obtain ⟨y0, y1, y2, y3, y4⟩ := blk5 hR
    clear h34 hR hbx L3 H34 G GS D0 hws
    by_cases hwd : Well (rd f e ds c u) ∧ 0 ≤ st ∧ st ≤ 73048
    case neg =>
      obtain ⟨ke, isd, K, j, hbad⟩ := bad_of s hwd
      obtain ⟨b1, b2, b3, b4, b5, b6, b7, b8⟩ := hbad
      have hx : IsDays f e ds c u st [] := .inr ⟨b6, rfl⟩
      have IN : Hid (Calls Tryd.prog 9 #[.int .i64 st, .agg #[.string f, .int .i64 e, .slice sa ds.length sc, .int .i64 c, .int .i64 u], .int .i64 fr0, .int .i64 to0] w4 fun r w' => r = .returned (.tuple #[.slice none 0 0, .iface 103 (.pointer (some (s j)))]) ∧ Below w4.heap.size w4 w') :=
        in_bad f e _ c u ds st fr0 to0 (s j) w4 D4.out (fun W h => b7 W _ (G4.out.step h) (D4.out.step h))
      have RE : Hid (∀ W, Below w4.heap.size w4 W → Calls Tryd.prog 10 #[.agg #[.string f, .int .i64 e, .slice a ds.length cap, .int .i64 c, .int .i64 u]] W fun r w' => r = .returned (.int .i64 ke) ∧ Below W.heap.size W w') := fun W h => ruleError_k f e _ c u ds ke W (GT4.out.step h) h20 b1
      have ID : Hid (∀ W, Calls Tryd.prog 11 #[.int .i64 st] W fun r w' => r = .returned (.bool isd) ∧ w' = W) := fun W => by rw [b2]; exact isDayR_any st W
      have NT : Hid (∀ W, Below w4.heap.size w4 W → Calls Tryd.prog 12 #[.int .i64 st, .agg #[.string f, .int .i64 e, .slice sa ds.length sc, .int .i64 c, .int .i64 u], .int .i64 n] W fun r w' => r = .returned (.tuple #[.int .i64 0, .bool false]) ∧ Below W.heap.size W w') := fun W h => by
        have := nth_any f e _ c u ds st n [] W (G4.out.step h).glob (D4.out.step h) hx
        rw [(nth_nil n).1, (nth_nil n).2] at this
        exact this
      have IS : Hid (∀ W, Below w4.heap.size w4 W → Calls Tryd.prog 13 #[.int .i64 st, .agg #[.string f, .int .i64 e, .slice sa ds.length sc, .int .i64 c, .int .i64 u], .int .i64 d] W fun r w' => r = .returned (.bool false) ∧ Below W.heap.size W w') := fun W h => is_any f e _ c u ds st d [] W (G4.out.step h).glob (D4.out.step h) hx
      have MA : Hid (∀ W, Below w4.heap.size w4 W → Calls Tryd.prog 15 #[.int .i64 st, .agg #[.string f, .int .i64 e, .slice sa ds.length sc, .int .i64 c, .int .i64 u]] W fun r w' => r = .returned (.int .i64 0) ∧ Below W.heap.size W w') := fun W h => many_any f e _ c u ds st [] W (G4.out.step h).glob (D4.out.step h) hx
      have CD : Hid (∀ W, Below w4.heap.size w4 W → Calls Tryd.prog 14 #[.iface 103 (.pointer (some (s j))), .int .i64 K] W fun r w' => r = .returned (.bool true) ∧ Below W.heap.size W w') := fun W h => by
        rw [b3]; exact coded_err s j W (G4.out.step h) b4
      clear hwd b1 b2 b3 b4 b6 b7 hx
      rcases b8 with ⟨q1, rfl⟩ | ⟨rfl, rfl, rfl⟩
      case' inl => have q0 : (ke == 0) = false := by rw [beq_eq_false_iff_ne]; omega
      all_goals
        go_upto_region 12 with (first
          | (go_at_call 9; refine Calls.mono IN.out ?_; rintro r w5 ⟨rfl, hb5⟩; obtain ⟨v0, v1, v2, v3, v4⟩ := blk5 (RR4.out.step hb5))
          | (go_at_call 10; refine (RE.out _ hb5).mono ?_; rintro r w6 ⟨rfl, hb6⟩; have hb6' := below_then hb5 hb6; clear v0 v1 v2 v3 v4; obtain ⟨v0, v1, v2, v3, v4⟩ := blk5 (HR.out.step hb6'))
          | (go_at_call 11; refine (ID.out _).mono ?_; rintro r w7 ⟨rfl, rfl⟩)
          | (go_at_call 12; refine (NT.out _ hb6').mono ?_; rintro r w8 ⟨rfl, hb8⟩; have hb8' := below_then hb6' hb8; clear v0 v1 v2 v3 v4; obtain ⟨v0, v1, v2, v3, v4⟩ := blk5 (HR.out.step hb8')))
        go_wp2_with (first
          | (go_at_call 13; refine (IS.out _ hb8').mono ?_; rintro r w9 ⟨rfl, hb9⟩; have hb9' := below_then hb8' hb9)
          | (go_at_call 14; refine (CD.out _ hb9').mono ?_; rintro r wa ⟨rfl, hba⟩; have hba' := below_then hb9' hba; clear v0 v1 v2 v3 v4; obtain ⟨v0, v1, v2, v3, v4⟩ := blk5 (HR.out.step hba'))
          | (go_at_call 15; refine (MA.out _ hba').mono ?_; rintro r wb ⟨rfl, hbb⟩))
        go_ret
        exact ⟨rfl, below_then BW4.out (below_then hba' hbb)⟩
    case pos =>
      obtain ⟨wx, hs0, hs1⟩ := hwd
      have hx : IsDays f e ds c u st (cut c u (cds f.toList st e ds)) := .inl ⟨wx, hs0, hs1, rfl⟩
      have hlen := hx.len
      have k0 : ErrK f e ds c u 0 := by
        obtain ⟨kk, hkk⟩ := errK_ex f e ds c u
        have := (errK_0 hkk).2 wx
        subst this
        exact hkk
      have IN : Hid (Calls Tryd.prog 9 #[.int .i64 st, .agg #[.string f, .int .i64 e, .slice sa ds.length sc, .int .i64 c, .int .i64 u], .int .i64 fr0, .int .i64 to0] w4 fun r w' => ∃ v er, r = .returned (.tuple #[v, er]) ∧ Below w4.heap.size w4 w' ∧
          (((span fr0 to0 (cut c u (cds f.toList st e ds))).length ≤ 1000 ∧ er = .nilIface ∧ Ow w4.heap.size w' v (span fr0 to0 (cut c u (cds f.toList st e ds)))) ∨ (1000 < (span fr0 to0 (cut c u (cds f.toList st e ds))).length ∧ v = .slice none 0 0 ∧ er = .iface 103 (.pointer (some (s 6)))))) := by
        refine Calls.mono (in_ok f e _ c u ds st fr0 to0 s w4 G4.out D4.out wx hs0 hs1) ?_
        rintro r w' ⟨hb, (⟨h1, v, rfl, h2⟩ | ⟨h1, rfl⟩)⟩
        · exact ⟨v, _, rfl, hb, .inl ⟨h1, rfl, h2⟩⟩
        · exact ⟨_, _, rfl, hb, .inr ⟨h1, rfl, rfl⟩⟩
      have RE : Hid (∀ W, Below w4.heap.size w4 W → Calls Tryd.prog 10 #[.agg #[.string f, .int .i64 e, .slice a ds.length cap, .int .i64 c, .int .i64 u]] W fun r w' => r = .returned (.int .i64 0) ∧ Below W.heap.size W w') := fun W h => ruleError_k f e _ c u ds 0 W (GT4.out.step h) h20 k0
      have ID : Hid (∀ W, Calls Tryd.prog 11 #[.int .i64 st] W fun r w' => r = .returned (.bool true) ∧ w' = W) := fun W => isDayR_yes st W hs0 hs1
      have NT : Hid (∀ W, Below w4.heap.size w4 W → Calls Tryd.prog 12 #[.int .i64 st, .agg #[.string f, .int .i64 e, .slice sa ds.length sc, .int .i64 c, .int .i64 u], .int .i64 n] W fun r w' => r = .returned (.tuple #[.int .i64 (nthD (cut c u (cds f.toList st e ds)) n), .bool (nthB (cut c u (cds f.toList st e ds)) n)]) ∧ Below W.heap.size W w') := fun W h => nth_any f e _ c u ds st n _ W (G4.out.step h).glob (D4.out.step h) hx
      have IS : Hid (∀ W, Below w4.heap.size w4 W → Calls Tryd.prog 13 #[.int .i64 st, .agg #[.string f, .int .i64 e, .slice sa ds.length sc, .int .i64 c, .int .i64 u], .int .i64 d] W fun r w' => r = .returned (.bool (isB (cut c u (cds f.toList st e ds)) d)) ∧ Below W.heap.size W w') := fun W h => is_any f e _ c u ds st d _ W (G4.out.step h).glob (D4.out.step h) hx
      have MA : Hid (∀ W, Below w4.heap.size w4 W → Calls Tryd.prog 15 #[.int .i64 st, .agg #[.string f, .int .i64 e, .slice sa ds.length sc, .int .i64 c, .int .i64 u]] W fun r w' => r = .returned (.int .i64 (cut c u (cds f.toList st e ds)).length) ∧ Below W.heap.size W w') := fun W h => many_any f e _ c u ds st _ W (G4.out.step h).glob (D4.out.step h) hx
      have CD : Hid (∀ W, Below w4.heap.size w4 W → Calls Tryd.prog 14 #[.iface 103 (.pointer (some (s 6))), .int .i64 7] W fun r w' => r = .returned (.bool true) ∧ Below W.heap.size W w') := fun W h => coded_err s 6 W (G4.out.step h) (by omega)
      have AD : Hid (∀ W, Below w4.heap.size w4 W → Calls Tryd.prog 16 #[.int .i64 st, .agg #[.string f, .int .i64 e, .slice a ds.length cap, .int .i64 c, .int .i64 u], .int .i64 73048] W fun r w' => ∃ v, r = .returned v ∧ Ow W.heap.size w' v (cut c u (cds f.toList st e ds)) ∧ Below W.heap.size W w') := fun W h => by
        have := allDays_any f e _ c u ds st 73048 W (GT4.out.step h) wx h20 hs0 hs1 (by omega)
        rw [upTo_last] at this
        exact this
      have IO : Hid (∀ W, Below w4.heap.size w4 W → Calls Tryd.prog 18 #[.int .i64 st, .agg #[.string f, .int .i64 e, .slice a ds.length cap, .int .i64 c, .int .i64 u], .int .i64 d] W fun r w' => r = .returned (.bool (isB (cut c u (cds f.toList st e ds)) d)) ∧ Below W.heap.size W w') := fun W h => isOne_any f e _ c u ds st d W (GT4.out.step h) wx h20 hs0 hs1
      clear hx wx k0 hs0 hs1
      generalize cut c u (cds f.toList st e ds) = X at IN NT IS MA AD IO hlen
      generalize hY : span fr0 to0 X = Y at IN
      have HY : Hid (Y = [] ++ span fr0 to0 (X.drop 0)) := by show _ = _; rw [← hY]; rfl
      clear hY
      go_upto_region 11 with (first
        | (go_at_call 9; refine Calls.mono IN.out ?_; rintro r w5 ⟨lv, er, rfl, hb5, hor⟩; have HOR : Hid (_) := hor; clear hor; obtain ⟨v0, v1, v2, v3, v4⟩ := blk5 (RR4.out.step hb5))
        | (go_at_call 10; refine (RE.out _ hb5).mono ?_; rintro r w6 ⟨rfl, hb6⟩; have hb6' := below_then hb5 hb6; clear v0 v1 v2 v3 v4; obtain ⟨v0, v1, v2, v3, v4⟩ := blk5 (HR.out.step hb6'))
        | (go_at_call 11; refine (ID.out _).mono ?_; rintro r w7 ⟨rfl, rfl⟩)
        | (go_at_call 12; refine (NT.out _ hb6').mono ?_; rintro r w8 ⟨rfl, hb8⟩; have hb8' := below_then hb6' hb8; clear v0 v1 v2 v3 v4; obtain ⟨v0, v1, v2, v3, v4⟩ := blk5 (RR4.out.step hb8')))
      go_upto_region 15 with (go_at_call 16; refine (AD.out _ hb8').mono ?_; rintro r w9 ⟨av, rfl, hav, hb9⟩; have HAV : Hid (_) := hav; obtain ⟨xa, xc, rfl⟩ := ow_form hav; clear hav)
      have HB59 : Hid (Below w5.heap.size w5 w9) := below_then hb6 (below_then hb8 hb9)
      have HB49 : Hid (Below w4.heap.size w4 w9) := below_then hb8' hb9
      clear v0 v1 v2 v3 v4 hb6 hb8 hb9 hb6' hb8' IN RE ID NT AD
      obtain ⟨i0, hi, hz0, hz1, hz2⟩ := info_parts info_int
      go_wp2
      go_loopw [23, 24] (fun wv i wr => ∃ (k : Nat) (o : List Int), i = .int .i64 k ∧ k ≤ X.length ∧ o.length ≤ k ∧ Hid (Ow w9.heap.size wr wv o) ∧ Hid (Y = o ++ span fr0 to0 (X.drop k)) ∧ Hid (Below w9.heap.size w9 wr)) (fun _ i _ => X.length - (intOf i).toNat)
      case atStart => exact ⟨0, [], rfl, Nat.zero_le _, by simp, Ow.nil _ _, HY.out, Below.refl _ _⟩
      case round =>
        obtain ⟨k, o, rfl, hk, hok, how, hYk, hbw⟩ := hrel
        obtain ⟨oa, oc, rfl⟩ := ow_form how.out
        by_cases hlt : k < X.length
        · obtain ⟨xg, rfl, hcell⟩ := ow_cell (Ow.step HAV.out hbw.out) k hlt
          have HD : Hid (X.drop k = X[k] :: X.drop (k + 1)) := List.drop_eq_getElem_cons hlt
          have HYx : Hid (Y = o ++ span fr0 to0 (X[k] :: X.drop (k + 1))) := by show _ = _; rw [← HD.out]; exact hYk.out
          clear HD hYk
          generalize X[k] = x at hcell HYx
          have hk1 : k + 1 ≤ X.length := hlt
          have hx3 : x < fr0 ∨ (fr0 ≤ x ∧ to0 < x) ∨ (fr0 ≤ x ∧ x ≤ to0) := by omega
          rcases hx3 with g1 | ⟨g1, g2⟩ | ⟨g1, g2⟩
          · have HN : Hid (Y = o ++ span fr0 to0 (X.drop (k + 1))) := by show _ = _; rw [HYx.out, span_low g1]
            clear HYx
            go_wp2
            go_roundw
            case rel => exact ⟨k + 1, o, by go_num, hk1, by omega, how.out, HN.out, hbw.out⟩
            case measure => simp [intOf]; omega
          · have HN : Hid (Y = o ++ span fr0 to0 (X.drop (k + 1))) := by
              show _ = _
              rw [HYx.out]
              unfold span
              rw [List.filter_cons_of_neg (by simp; omega)]
            clear HYx
            go_wp2
            go_roundw
            case rel => exact ⟨k + 1, o, by go_num, hk1, by omega, how.out, HN.out, hbw.out⟩
            case measure => simp [intOf]; omega
          · have HN : Hid (Y = (o ++ [x]) ++ span fr0 to0 (X.drop (k + 1))) := by
              show _ = _
              rw [HYx.out, span_in g1 g2, List.append_assoc]; rfl
            have hzr : w9.heap.size ≤ wr.heap.size := hbw.out.size
            have OWI : Hid (Ow w9.heap.size (wr.alloc (.cells #[.int .i64 x] 3)) (.slice oa o.length oc) o) := Ow.step how.out (below_alloc _ _)
            have NC : Hid (∀ j v, [Value.int .i64 x][j]? = some v → (wr.alloc (.cells #[.int .i64 x] 3)).cell? ((⟨wr.heap.size, 0, none⟩ : Addr).add j) = some v) := fun j v hv => by
              obtain ⟨hj, he⟩ := List.getElem?_eq_some_iff.1 hv
              have hj0 : j = 0 := by simpa using hj
              subst hj0
              have he' : Value.int .i64 x = v := by simpa using he
              rw [← he']
              exact (Boxed.new wr 3 (.int .i64 x)).cell
            clear HYx
            go_wp2_with (first
              | (at_builtin; refine wpList_append_own _ rfl _ _ 22 rfl w9.heap.size 3 i0 (.int .i64 0) 1 8 Tryd.underlying22 hi hz0 hz1 hz2 rfl (by decide) _ _ _ rfl OWI.out ⟨wr.heap.size, 0, none⟩ 1 1 [.int .i64 x] rfl rfl NC.out (fun v hv => by rw [List.mem_singleton.1 hv]; rfl) (by unfold maxLen; omega) (by omega) (by rw [World.size_alloc]; omega) ?_; intro v' w1 hown' hgrow _; obtain ⟨g', cap', rfl⟩ := ownsRow_succ hown')
              | go_in)
            have OW1 : Ow w9.heap.size w1 (.slice (some ⟨g', 0, none⟩) (o.length + 1) cap') (o ++ [x]) := by
              show World.ownsRow _ _ _ _ _ _ _
              rw [List.length_append, List.map_append]
              exact hown'
            have HB1 : Below w9.heap.size w9 w1 := (hbw.out.trans ((below_alloc wr _).mono hzr)).grown (show (wr.alloc (.cells #[.int .i64 x] 3)).grownBy w1 (Value.slice oa o.length oc).ownBlock from hgrow) (by rw [World.size_alloc]; omega) (fun k q => (World.ownsRow.lt OWI.out k q).1)
            go_roundw
            case rel => exact ⟨k + 1, o ++ [x], by go_num, hk1, by rw [List.length_append]; show o.length + 1 ≤ k + 1; omega, OW1, HN.out, HB1⟩
            case measure => simp [intOf]; omega
        · have E : Y = o := by
            have := hYk.out
            rw [List.drop_eq_nil_of_le (by omega), span_nil, List.append_nil] at this
            exact this
          subst E
          clear hYk HY hi hz0 hz1 hz2
          have HB5 : Hid (Below w5.heap.size w5 wr) := below_then HB59.out hbw.out
          have HB4 : Hid (Below w4.heap.size w4 wr) := below_then HB49.out hbw.out
          have HAW : Hid (_) := Ow.step HAV.out hbw.out
          have hol : Y.length ≤ 100000 := by omega
          have hn3 : n < 0 ∨ (0 ≤ n ∧ n < X.length) ∨ (0 ≤ n ∧ (X.length : Int) ≤ n) := by omega
          have TAIL : True := trivial
          rcases HOR.out with ⟨hle, rfl, hov⟩ | ⟨hgt, rfl, rfl⟩
          case' inl =>
            have SI : Hid (_) := same_ow (Ow.step hov HB5.out) how.out hol
            obtain ⟨la, lc, rfl⟩ := ow_form hov
            clear hov HOR
            go_upto_region 26 with (go_at_call 17; refine Calls.mono SI.out ?_; rintro r wS ⟨rfl, hbS⟩)
            clear SI
          case' inr =>
            clear HOR
            go_upto_region 26 with (go_at_call 14; refine (CD.out _ HB4.out).mono ?_; rintro r wS ⟨rfl, hbS⟩)
          all_goals
            have HB4S : Hid (Below w4.heap.size w4 wS) := below_then HB4.out hbS
            have HAS : Hid (Ow w8.heap.size wS (.slice xa X.length xc) X) := Ow.step HAW.out hbS
            obtain ⟨v0, v1, v2, v3, v4⟩ := blk5 (HR.out.step HB4S.out)
            have hXn : ((X.length : Int) != X.length) = false := by simp
            rcases hn3 with g1 | ⟨g1, g2⟩ | ⟨g1, g2⟩
            · obtain ⟨e1, e2⟩ := nth_no (xs := X) (n := n) (.inl g1)
              go_upto_region 28 with (go_at_call 15; refine (MA.out _ HB4S.out).mono ?_; rintro r wM ⟨rfl, hbM⟩)
              have HB4M : Hid (Below w4.heap.size w4 wM) := below_then HB4S.out hbM
              clear v0 v1 v2 v3 v4
              obtain ⟨v0, v1, v2, v3, v4⟩ := blk5 (HR.out.step HB4M.out)
              go_upto_region 32 with (go_at_call 13; refine (IS.out _ HB4M.out).mono ?_; rintro r wI ⟨rfl, hbI⟩)
              have HB4I : Hid (Below w4.heap.size w4 wI) := below_then HB4M.out hbI
              clear v0 v1 v2 v3 v4
              obtain ⟨v0, v1, v2, v3, v4⟩ := blk5 (RR4.out.step HB4I.out)
              go_wp2_with (go_at_call 18; refine (IO.out _ HB4I.out).mono ?_; rintro r wO ⟨rfl, hbO⟩)
              go_ret
              exact ⟨ret_bool (by simp), below_then BW4.out (below_then HB4I.out hbO)⟩
            · obtain ⟨m, rfl⟩ : ∃ m : Nat, n = m := ⟨n.toNat, by omega⟩
              have hm : m < X.length := by omega
              obtain ⟨xg, rfl, hcell⟩ := ow_cell HAS.out m hm
              obtain ⟨e1, e2⟩ := nth_get (List.getElem?_eq_getElem hm)
              have HCE : Hid (_) := hcell
              clear hcell
              generalize X[m] = x at HCE e2
              go_upto_region 28 with (go_at_call 15; refine (MA.out _ HB4S.out).mono ?_; rintro r wM ⟨rfl, hbM⟩)
              have HB4M : Hid (Below w4.heap.size w4 wM) := below_then HB4S.out hbM
              clear v0 v1 v2 v3 v4
              have hcm := cell_step HCE.out hbM
              obtain ⟨v0, v1, v2, v3, v4⟩ := blk5 (HR.out.step HB4M.out)
              go_upto_region 32 with (go_at_call 13; refine (IS.out _ HB4M.out).mono ?_; rintro r wI ⟨rfl, hbI⟩)
              have HB4I : Hid (Below w4.heap.size w4 wI) := below_then HB4M.out hbI
              clear v0 v1 v2 v3 v4
              obtain ⟨v0, v1, v2, v3, v4⟩ := blk5 (RR4.out.step HB4I.out)
              go_wp2_with (go_at_call 18; refine (IO.out _ HB4I.out).mono ?_; rintro r wO ⟨rfl, hbO⟩)
              go_ret
              exact ⟨ret_bool (by simp), below_then BW4.out (below_then HB4I.out hbO)⟩
            · obtain ⟨e1, e2⟩ := nth_no (xs := X) (n := n) (.inr g2)
              go_upto_region 28 with (go_at_call 15; refine (MA.out _ HB4S.out).mono ?_; rintro r wM ⟨rfl, hbM⟩)
              have HB4M : Hid (Below w4.heap.size w4 wM) := below_then HB4S.out hbM
              clear v0 v1 v2 v3 v4
              obtain ⟨v0, v1, v2, v3, v4⟩ := blk5 (HR.out.step HB4M.out)
              go_upto_region 32 with (go_at_call 13; refine (IS.out _ HB4M.out).mono ?_; rintro r wI ⟨rfl, hbI⟩)
              have HB4I : Hid (Below w4.heap.size w4 wI) := below_then HB4M.out hbI
              clear v0 v1 v2 v3 v4
              obtain ⟨v0, v1, v2, v3, v4⟩ := blk5 (RR4.out.step HB4I.out)
              go_wp2_with (go_at_call 18; refine (IO.out _ HB4I.out).mono ?_; rintro r wO ⟨rfl, hbO⟩)
              go_ret
              exact ⟨ret_bool (by simp), below_then BW4.out (below_then HB4I.out hbO)⟩
  all_goals
    go_enter Tryd.func3, Tryd.ntmps3
    go_wp2_with (first
      | (go_at_call 6; refine Calls.mono EX.out ?_; rintro r w1 ⟨rfl, hb1⟩; have k0 : RB w1 w.heap.size f e (.slice a ds.length cap) c u := (hb1.block _ (by simp)).trans (block_at _ rfl); obtain ⟨x0, x1, x2, x3, x4⟩ := blk5 k0)
      | (go_at_call 7; refine (LR.out _).mono ?_; rintro r w2 ⟨rfl, hb2⟩))
    go_ret
    exact ⟨rfl, below_then (below_alloc _ _) (below_then hb1 hb2)⟩
end Go.Proofs.YtfnajhpcbajhfabDoor
