/- The iterator of package expand that goes by weeks. -/
import Derived.Test.YtfnajhpcbajhfabDoorExpI2
import Derived.Test.YtfnajhpcbajhfabDoorExpO
namespace Go.Proofs.YtfnajhpcbajhfabDoor
open Go Go.RowKit Go.Shelf Cal
attribute [local go_sem] Oper.semAt_some

/-- the cells of a list of days -/
def Cls (w : World) (a : Option Addr) (ds : List Int) : Prop := ∀ (j : Nat) (h : j < ds.length), ∃ b : Nat, a = some ⟨b, 0, none⟩ ∧ b < w.heap.size ∧ w.cell? ⟨b, j, none⟩ = some (.int .i64 ds[j])
theorem Cls.step {w w' : World} {a : Option Addr} {ds : List Int} (h : Cls w a ds) (hb : Below w.heap.size w w') : Cls w' a ds := fun j hj => by
  obtain ⟨b, e, hl, hc⟩ := h j hj
  exact ⟨b, e, Nat.lt_of_lt_of_le hl hb.size, cell_step hc hb⟩

theorem wds_in {s : Int} {ds : List Int} (h : ∀ d ∈ ds, 0 ≤ d ∧ d ≤ 6) : ∀ d ∈ wds s ds, 0 ≤ d ∧ d ≤ 6 := by
  intro d hd
  unfold wds at hd
  split at hd
  · have : d = (s + 5) % 7 := by simpa using hd
    omega
  · exact h d hd
theorem wds_rise {s : Int} {ds : List Int} (h : Rise ds) : Rise (wds s ds) := by
  unfold wds
  split
  · intro i hi
    simp at hi
  · exact h

set_option maxHeartbeats 4000000 in
theorem byWeeks_iter {a b : Nat} (hab : b + 2 ≤ a) (s e : Int) (ds : List Int) (sl : Value) (hs0 : 0 ≤ s) (hs1 : s ≤ 73048) (he0 : 1 ≤ e) (he1 : e ≤ 100) (hD : bD ds) (hR : Rise ds) (Bs Bw Be : Nat) (hne1 : Bs ≠ Bw) (hne2 : Be ≠ Bw) (O : Nat → Prop) (Rd : World → Prop)
    (hRD : ∀ W, Rd W → Days W sl ds) (hO1 : O Bs) (hO2 : O Bw) (hO3 : O Be) (W0 : World)
    (b1 : Boxed W0 Bs 3 (.int .i64 s)) (bw : Boxed W0 Bw 22 sl) (b2 : Boxed W0 Be 3 (.int .i64 e)) :
    Gives a b 51 #[.pointer (some ⟨Bs, 0, none⟩), .pointer (some ⟨Bw, 0, none⟩), .pointer (some ⟨Be, 0, none⟩)] O Rd (From (pW s e (wds s ds)) s) W0 := by
  intro n l J0 J Jx hna hJ0 h01 hJ hJx hRd0 hRd hY h00
  have h1 : 1 ≤ n := by omega
  have hD' := wds_in (s := s) hD
  have hR' := wds_rise (s := s) hR
  have hdays := hRD _ (hRd0 _ h00)
  rw [week_start] at h01
  have LOW : Hid (∀ (c : Int) (q : Nat) (hq : q < (wds s ds).length), _) := fun c q hq => week_low (s := s) (e := e) (c := c) hD' hR' q hq
  have OVER : Hid (∀ (c : Int) (q : Nat) (hq : q < (wds s ds).length), _) := fun c q hq => week_over (s := s) (e := e) (c := c) hD' hR' q hq
  have HIT : Hid (∀ (c : Int) (hc : c % e = 0) (q : Nat) (hq : q < (wds s ds).length), _) := fun c hc q hq => week_hit (s := s) (e := e) (c := c) hD' hR' hc q hq
  have NEXT : Hid (∀ (c : Int) (hc : c % e = 0), _) := fun c hc => week_next (s := s) (e := e) (c := c) hD' hR' he0 hc
  have IN : Hid (∀ (q : Nat) (hq : q < (wds s ds).length), 0 ≤ (wds s ds)[q] ∧ (wds s ds)[q] ≤ 6) := fun q hq => hD' _ (List.getElem_mem hq)
  have WK : Hid (∀ w, _) := fun w => week_ok s w hs0 hs1
  have HY : Hid (_) := hY
  have HJ : Hid (_) := hJ
  have HRD : Hid (∀ h r W, J h r W → Days W sl ds) := fun h r W q => hRD W (hRd h r W q)
  have H0 : Hid (_) := h00
  have H1 : Hid (_) := h01
  have HJ0 : Hid (_) := hJ0
  have c1 := b1.cell
  have cw := bw.cell
  have fw := bw.frozen
  have B1 : Hid (Boxed W0 Bs 3 (.int .i64 s)) := b1
  have B2 : Hid (Boxed W0 Be 3 (.int .i64 e)) := b2
  obtain ⟨ad, cap, rfl, h20, hcap, hc⟩ := hdays
  have HC : Hid (Cls W0 ad ds) := hc
  have BW : Hid (Boxed W0 Bw 22 (.slice ad ds.length cap)) := bw
  clear hY hJ hJx hRd b1 bw b2 h00 h01 hJ0 hRd0 hR hD hR' hD' hRD hc
  refine callsIn_of_wp Tryd.func51 rfl trivial ?_ rfl
  simp only [Tryd.ntmps51, List.size_toArray, List.length_cons, List.length_nil, Nat.reduceAdd, Nat.reduceSub, Array.replicate_succ, Array.replicate_zero, List.push_toArray, List.append_toArray, List.nil_append, List.cons_append]
  by_cases hl : ds.length = 0
  case' pos =>
    have hw : wds s ds = [(s + 5) % 7] := by unfold wds; rw [if_pos hl]
    have x1 : Boxed ((W0.alloc (.cells #[.int .i64 ((s + 5) % 7)] 3)).setCell ⟨Bw, 0, none⟩ (.slice (some ⟨W0.heap.size, 0, none⟩) 1 1)) Bs 3 (.int .i64 s) := Boxed.other (Boxed.alloc B1.out _) hne1 _
    have xw : Boxed ((W0.alloc (.cells #[.int .i64 ((s + 5) % 7)] 3)).setCell ⟨Bw, 0, none⟩ (.slice (some ⟨W0.heap.size, 0, none⟩) 1 1)) Bw 22 (.slice (some ⟨W0.heap.size, 0, none⟩) 1 1) := Boxed.set _ (Boxed.alloc BW.out _)
    have x2 : Boxed ((W0.alloc (.cells #[.int .i64 ((s + 5) % 7)] 3)).setCell ⟨Bw, 0, none⟩ (.slice (some ⟨W0.heap.size, 0, none⟩) 1 1)) Be 3 (.int .i64 e) := Boxed.other (Boxed.alloc B2.out _) hne2 _
    have xn : Boxed ((W0.alloc (.cells #[.int .i64 ((s + 5) % 7)] 3)).setCell ⟨Bw, 0, none⟩ (.slice (some ⟨W0.heap.size, 0, none⟩) 1 1)) W0.heap.size 3 (.int .i64 ((s + 5) % 7)) := Boxed.other (boxed_at _ _ rfl) (fun e => by have := Boxed.lt BW.out; omega) _
    have xc : Cls ((W0.alloc (.cells #[.int .i64 ((s + 5) % 7)] 3)).setCell ⟨Bw, 0, none⟩ (.slice (some ⟨W0.heap.size, 0, none⟩) 1 1)) (some ⟨W0.heap.size, 0, none⟩) (wds s ds) := by
      rw [hw]
      intro j hj
      have hj0 : j = 0 := by simpa using hj
      subst hj0
      exact ⟨W0.heap.size, rfl, by rw [set_size, World.size_alloc]; omega, xn.cell⟩
    have KD : Hid (∀ W W' r, Cls W (some ⟨W0.heap.size, 0, none⟩) (wds s ds) → Steps (roK O W0.heap.size ((W0.alloc (.cells #[.int .i64 ((s + 5) % 7)] 3)).setCell ⟨Bw, 0, none⟩ (.slice (some ⟨W0.heap.size, 0, none⟩) 1 1)).heap.size) W W' → J ((W0.alloc (.cells #[.int .i64 ((s + 5) % 7)] 3)).setCell ⟨Bw, 0, none⟩ (.slice (some ⟨W0.heap.size, 0, none⟩) 1 1)).heap.size r W' → Cls W' (some ⟨W0.heap.size, 0, none⟩) (wds s ds)) := by
      intro W W' r hC hS _ j hj
      obtain ⟨q, e1, e2, e3⟩ := hC j hj
      cases e1
      exact ⟨_, rfl, Nat.lt_of_lt_of_le e2 hS.size, (World.cell?_of_block (a := ⟨W0.heap.size, j, none⟩) (hS.block _ (.inr ⟨Nat.le_refl _, Boxed.lt xn⟩) e2)).trans e3⟩
    have HJ1 : Hid (J ((W0.alloc (.cells #[.int .i64 ((s + 5) % 7)] 3)).setCell ⟨Bw, 0, none⟩ (.slice (some ⟨W0.heap.size, 0, none⟩) 1 1)).heap.size (From (pW s e (wds s ds)) (wpos (s - (s + 5) % 7 + 7 * 0) (wds s ds) 0)) ((W0.alloc (.cells #[.int .i64 ((s + 5) % 7)] 3)).setCell ⟨Bw, 0, none⟩ (.slice (some ⟨W0.heap.size, 0, none⟩) 1 1))) :=
      H1.out _ (HJ0.out _ _ H0.out ((Steps.alloc _ _ _).trans (Steps.set _ _ _ (fun h => h.1 hO2)))) (by rw [set_size, World.size_alloc]; omega)
    have hlen : (wds s ds).length = 1 := by rw [hw]; rfl
    have y1 := (Boxed.alloc B1.out (.cells #[.int .i64 ((s + 5) % 7)] 3)).cell
    have y0 := (Boxed.alloc BW.out (.cells #[.int .i64 ((s + 5) % 7)] 3)).cell
    have z0 := (Boxed.alloc BW.out (.cells #[.int .i64 ((s + 5) % 7)] 3)).frozen
    have X1 : Hid (Boxed ((W0.alloc (.cells #[.int .i64 ((s + 5) % 7)] 3)).setCell ⟨Bw, 0, none⟩ (.slice (some ⟨W0.heap.size, 0, none⟩) 1 1)) Bs 3 (.int .i64 s)) := x1
    have X2 : Hid (Boxed ((W0.alloc (.cells #[.int .i64 ((s + 5) % 7)] 3)).setCell ⟨Bw, 0, none⟩ (.slice (some ⟨W0.heap.size, 0, none⟩) 1 1)) Be 3 (.int .i64 e)) := x2
    have HS0 : Hid (W0.heap.size ≤ ((W0.alloc (.cells #[.int .i64 ((s + 5) % 7)] 3)).setCell ⟨Bw, 0, none⟩ (.slice (some ⟨W0.heap.size, 0, none⟩) 1 1)).heap.size) := by show _ ≤ _; rw [set_size, World.size_alloc]; omega
    obtain ⟨A, C, hw20, hC, XW, XC, KD2⟩ : ∃ (A : Option Addr) (C : Nat), (wds s ds).length ≤ 20 ∧ (wds s ds).length ≤ C ∧ Hid (Boxed ((W0.alloc (.cells #[.int .i64 ((s + 5) % 7)] 3)).setCell ⟨Bw, 0, none⟩ (.slice (some ⟨W0.heap.size, 0, none⟩) 1 1)) Bw 22 (.slice A (wds s ds).length C)) ∧ Hid (Cls ((W0.alloc (.cells #[.int .i64 ((s + 5) % 7)] 3)).setCell ⟨Bw, 0, none⟩ (.slice (some ⟨W0.heap.size, 0, none⟩) 1 1)) A (wds s ds)) ∧ Hid (∀ W W' r, Cls W A (wds s ds) → Steps (roK O W0.heap.size ((W0.alloc (.cells #[.int .i64 ((s + 5) % 7)] 3)).setCell ⟨Bw, 0, none⟩ (.slice (some ⟨W0.heap.size, 0, none⟩) 1 1)).heap.size) W W' → J ((W0.alloc (.cells #[.int .i64 ((s + 5) % 7)] 3)).setCell ⟨Bw, 0, none⟩ (.slice (some ⟨W0.heap.size, 0, none⟩) 1 1)).heap.size r W' → Cls W' A (wds s ds)) :=
      ⟨_, 1, by omega, by omega, by show Boxed _ _ _ _; rw [hlen]; exact xw, xc, KD⟩
    clear x1 xw x2 xn xc hw hlen KD
    gi_wp2_with (refine ⟨trivial, ?_⟩; gi_at_call 31; refine (callsIn_wide.2 (WK.out _)).mono ?_; rintro r w' ⟨rfl, rfl⟩)
    clear y0 y1 z0 c1 cw fw BW B1 B2 H0 H1 HJ0
    obtain ⟨hz, hz1, hz2, HJ2, KD3⟩ : ∃ hz, w'.heap.size ≤ hz ∧ hz ≤ ((w'.alloc (.cells #[.int .i64 ((s + 5) % 7)] 3)).setCell ⟨Bw, 0, none⟩ (.slice (some ⟨w'.heap.size, 0, none⟩) 1 1)).heap.size ∧ Hid (J hz (From (pW s e (wds s ds)) (wpos (s - (s + 5) % 7 + 7 * 0) (wds s ds) 0)) ((w'.alloc (.cells #[.int .i64 ((s + 5) % 7)] 3)).setCell ⟨Bw, 0, none⟩ (.slice (some ⟨w'.heap.size, 0, none⟩) 1 1))) ∧ Hid (∀ W W' r, Cls W A (wds s ds) → Steps (roK O w'.heap.size hz) W W' → J hz r W' → Cls W' A (wds s ds)) := ⟨_, HS0.out, Nat.le_refl _, HJ1, KD2⟩
    clear HJ1 KD2 HS0
    generalize ((w'.alloc (.cells #[.int .i64 ((s + 5) % 7)] 3)).setCell ⟨Bw, 0, none⟩ (.slice (some ⟨w'.heap.size, 0, none⟩) 1 1)) = W1 at X1 XW X2 XC HJ2 hz2 ⊢
  case' neg =>
    have hw : wds s ds = ds := by unfold wds; rw [if_neg hl]
    have HJ1 : Hid (_) := H1.out _ H0.out (Nat.le_refl _)
    have X1 := B1
    have X2 := B2
    have HS0 : Hid (W0.heap.size ≤ W0.heap.size) := Nat.le_refl _
    obtain ⟨A, C, hw20, hC, XW, XC, KD2⟩ : ∃ (A : Option Addr) (C : Nat), (wds s ds).length ≤ 20 ∧ (wds s ds).length ≤ C ∧ Hid (Boxed W0 Bw 22 (.slice A (wds s ds).length C)) ∧ Hid (Cls W0 A (wds s ds)) ∧ Hid (∀ W W' r, Cls W A (wds s ds) → Steps (roK O W0.heap.size W0.heap.size) W W' → J W0.heap.size r W' → Cls W' A (wds s ds)) := by
      rw [hw]
      refine ⟨ad, cap, h20, hcap, BW.out, HC.out, ?_⟩
      intro W W' r _ _ hj
      obtain ⟨a2, c2, e2, _, _, h2⟩ := HRD.out _ r W' hj
      cases e2
      exact h2
    have hl2 : ((ds.length : Int) == 0) = false := by rw [beq_eq_false_iff_ne]; omega
    clear hw
    gi_wp2_with (refine ⟨trivial, ?_⟩; gi_at_call 31; refine (callsIn_wide.2 (WK.out _)).mono ?_; rintro r w' ⟨rfl, rfl⟩)
    clear c1 cw fw BW B1 B2 H0 H1 HJ0 hl2
    obtain ⟨hz, hz1, hz2, HJ2, KD3⟩ : ∃ hz, w'.heap.size ≤ hz ∧ hz ≤ w'.heap.size ∧ Hid (J hz (From (pW s e (wds s ds)) (wpos (s - (s + 5) % 7 + 7 * 0) (wds s ds) 0)) w') ∧ Hid (∀ W W' r, Cls W A (wds s ds) → Steps (roK O w'.heap.size hz) W W' → J hz r W' → Cls W' A (wds s ds)) := ⟨_, HS0.out, Nat.le_refl _, HJ1, KD2⟩
    clear HJ1 KD2 HS0
  all_goals
    have hj1 := HJ2.out
    rw [show s - (s + 5) % 7 + 7 * 0 = s - (s + 5) % 7 by omega] at hj1
    clear HJ2
    have HJ1 : Hid (_) := hj1
    clear hj1 hl h20 hcap HC HRD WK
    generalize wds s ds = D at LOW OVER HIT NEXT IN XW XC KD3 HJ1 hw20 hC
    gi_loopw [7] (fun mo wr => ∃ v c : Int, mo = .int .i64 v ∧ -6 ≤ v ∧ v ≤ 74000 ∧ Hid (v = s - (s + 5) % 7 + 7 * c) ∧ Hid (c % e = 0) ∧ Hid (J hz (From (pW s e D) (wpos v D 0)) wr) ∧ Hid (Boxed wr Bs 3 (.int .i64 s)) ∧ Hid (Boxed wr Bw 22 (.slice A D.length C)) ∧ Hid (Boxed wr Be 3 (.int .i64 e)) ∧ Hid (Cls wr A D) ∧ hz ≤ wr.heap.size) (fun mo _ => (74001 - intOf mo).toNat)
    case atStart => exact ⟨s - (s + 5) % 7, 0, rfl, by omega, by omega, by show _ = _; omega, show (0 : Int) % e = 0 by simp, HJ1.out, X1, XW, X2, XC, hz2⟩
    case round =>
      obtain ⟨v, c, rfl, hv0, hv1, hvc, hc, hJ, hb1, hbw, hb2, hcl, hsz⟩ := hrel
      by_cases hv : v ≤ 73048
      · have kw := Boxed.cell hbw.out
        gi_wp2
        clear kw
        gi_loopw [32] (fun i wr => ∃ q : Nat, i = .int .i64 q ∧ q ≤ D.length ∧ Hid (J hz (From (pW s e D) (wpos v D q)) wr) ∧ Hid (Boxed wr Bs 3 (.int .i64 s)) ∧ Hid (Boxed wr Bw 22 (.slice A D.length C)) ∧ Hid (Boxed wr Be 3 (.int .i64 e)) ∧ Hid (Cls wr A D) ∧ hz ≤ wr.heap.size) (fun i _ => D.length - (intOf i).toNat)
        case atStart => exact ⟨0, rfl, Nat.zero_le _, hJ, hb1, hbw, hb2, hcl, hsz⟩
        case round =>
          clear hJ hb1 hbw hb2 hcl hsz
          obtain ⟨q, rfl, hq, hJ, hb1, hbw, hb2, hcl, hsz⟩ := hrel
          by_cases hlt : q < D.length
          · obtain ⟨blk, rfl, hblk, hcell⟩ := hcl.out q hlt
            have k1 := Boxed.cell hb1.out
            have t0 := IN.out q hlt
            have LO : Hid (v + D[q] < s → J hz (From (pW s e D) (wpos v D (q + 1))) wr) := fun h => by
              have h2 := LOW.out c q hlt (by rw [← hvc.out]; exact h)
              rw [← hvc.out] at h2
              rw [← h2]; exact hJ.out
            have OV : Hid (73048 < v + D[q] → J hz [] wr) := fun h => by
              have h2 := OVER.out c q hlt (by rw [← hvc.out]; exact h)
              rw [← hvc.out] at h2
              rw [← h2]; exact hJ.out
            have HI : Hid (s ≤ v + D[q] → v + D[q] ≤ 73048 → J hz ((v + D[q]) :: From (pW s e D) (wpos v D (q + 1))) wr) := fun h h' => by
              have h2 := HIT.out c hc.out q hlt (by rw [← hvc.out]; exact h) (by rw [← hvc.out]; exact h')
              rw [← hvc.out] at h2
              rw [← h2]; exact hJ.out
            obtain ⟨t1, t2⟩ := t0
            generalize D[q] = t at hcell LO OV HI t1 t2
            by_cases g1 : v + t < s
            · have HJ2 : Hid (_) := LO.out g1
              clear LO OV HI
              gi_wp2
              go_roundw
              case rel => exact ⟨q + 1, by go_num, by omega, HJ2.out, hb1, hbw, hb2, hcl, hsz⟩
              case measure => simp [intOf]; omega
            · by_cases g2 : 73048 < v + t
              · have HJ2 : Hid (_) := OV.out g2
                clear LO OV HI
                gi_wp2
                refine ⟨fun _ h => (by cases h), ?_⟩
                gi_wp2
                refine bodyPost_ret (results_none rfl _ _ _) rfl ?_
                exact ⟨⟨_, rfl⟩, hz, hz1, hsz, .inl HJ2.out⟩
              · have hJ2 := HI.out (by omega) (by omega)
                obtain ⟨fn, tmps, assign, body, hy, hR⟩ := HY.out (n - 1) hz (v + t) _ wr (by omega) hz1 hsz hJ2
                clear LO OV HI hJ2
                gi_wp2
                refine hR.mono ?_
                rintro r W3 ⟨hS, (⟨rfl, hJ3⟩ | ⟨rfl, hJx3⟩)⟩
                · have q1 : Hid (Boxed W3 Bs 3 (.int .i64 s)) := hS.box hb1.out (.inl hO1)
                  have q2 : Hid (Boxed W3 Bw 22 (.slice (some ⟨blk, 0, none⟩) D.length C)) := hS.box hbw.out (.inl hO2)
                  have q3 : Hid (Boxed W3 Be 3 (.int .i64 e)) := hS.box hb2.out (.inl hO3)
                  have q4 : Hid (Cls W3 (some ⟨blk, 0, none⟩) D) := KD3.out _ _ _ hcl.out hS hJ3
                  have hsz3 := Nat.le_trans hsz hS.size
                  have HJ3 : Hid (_) := hJ3
                  clear hJ3 hS
                  gi_wp2
                  go_roundw
                  case rel => exact ⟨q + 1, by go_num, by omega, HJ3.out, q1, q2, q3, q4, hsz3⟩
                  case measure => simp [intOf]; omega
                · gi_wp2
                  refine bodyPost_ret (results_none rfl _ _ _) rfl ?_
                  exact ⟨⟨_, rfl⟩, hz, hz1, Nat.le_trans hsz hS.size, .inr hJx3⟩
          · have hq' : q = D.length := by omega
            have hJ2 := hJ.out
            rw [hq', hvc.out, NEXT.out c hc.out] at hJ2
            have k3 := Boxed.cell hb2.out
            have HJ2 : Hid (_) := hJ2
            have HV : Hid (v + e * 7 = s - (s + 5) % 7 + 7 * (c + e)) := by show _ = _; rw [hvc.out]; omega
            clear hJ2 hq'
            gi_wp2
            go_roundw
            case rel =>
              refine ⟨v + e * 7, c + e, by go_num, by omega, by omega, HV, mod_on hc.out, ?_, hb1, hbw, hb2, hcl, hsz⟩
              rw [HV.out]
              exact HJ2.out
            case measure => simp [intOf]; omega
      · have hJ2 := hJ.out
        unfold wpos at hJ2
        rw [if_pos rfl, From_end (by omega)] at hJ2
        have HJ2 : Hid (_) := hJ2
        clear hJ2
        gi_wp2
        go_end0
        exact ⟨⟨_, rfl⟩, hz, hz1, hsz, .inl HJ2.out⟩
end Go.Proofs.YtfnajhpcbajhfabDoor
