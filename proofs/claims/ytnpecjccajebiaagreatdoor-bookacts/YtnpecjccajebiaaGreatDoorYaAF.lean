/- The iterator of package expand that goes by weeks. -/
import Derived.Test.YtnpecjccajebiaaGreatDoorYaAE
import Derived.Test.YtnpecjccajebiaaGreatDoorYaAC
namespace Go.Proofs.YtnpecjccajebiaaGreatDoor
open Go Go.RowKit Go.Shelf Cal
attribute [local go_sem] Oper.semAt_some

/-- the cells of a list of days -/
def Cls (w : World) (a : Option Addr) (ds : List Int) : Prop := ∀ (j : Nat) (h : j < ds.length), ∃ b : Nat, a = some ⟨b, 0, none⟩ ∧ b < w.heap.size ∧ w.cell? ⟨b, j, none⟩ = some (.int .i64 ds[j])
theorem Cls.step {w w' : World} {a : Option Addr} {ds : List Int} (h : Cls w a ds) (hb : Below w.heap.size w w') : Cls w' a ds := fun j hj => by
  obtain ⟨b, e, hl, hc⟩ := h j hj
  exact ⟨b, e, Nat.lt_of_lt_of_le hl hb.size, cell_step hc hb⟩

theorem wds_in {s : Int} {ds : List Int} (h : ∀ d ∈ ds, 0 ≤ d ∧ d ≤ 6) : ∀ d ∈ wds s ds, 0 ≤ d ∧ d ≤ 6 := by
  intro d hd
  unfold wds at hd
  split at hd
  · have : d = (s + 5) % 7 := by simpa using hd
    omega
  · exact h d hd
theorem wds_rise {s : Int} {ds : List Int} (h : Rise ds) : Rise (wds s ds) := by
  unfold wds
  split
  · intro i hi
    simp at hi
  · exact h

set_option maxHeartbeats 4000000 in
theorem byWeeks_iter {a b : Nat} (hab : b + 2 ≤ a) (s e : Int) (ds : List Int) (sl : Value) (hs0 : 0 ≤ s) (hs1 : s ≤ 73048) (he0 : 1 ≤ e) (he1 : e ≤ 100) (hD : bD ds) (hR : Rise ds) (Bs Bw Be : Nat) (hne1 : Bs ≠ Bw) (hne2 : Be ≠ Bw) (O : Nat → Prop) (Rd : World → Prop)
    (hRD : ∀ W, Rd W → Days W sl ds) (hO1 : O Bs) (hO2 : O Bw) (hO3 : O Be) (W0 : World)
    (b1 : Boxed W0 Bs 3 (.int .i64 s)) (bw : Boxed W0 Bw 39 sl) (b2 : Boxed W0 Be 3 (.int .i64 e)) :
    Gives a b 240 #[.pointer (some ⟨Bs, 0, none⟩), .pointer (some ⟨Bw, 0, none⟩), .pointer (some ⟨Be, 0, none⟩)] O Rd (From (pW s e (wds s ds)) s) W0 := by
  intro n l J0 J Jx hna hJ0 h01 hJ hJx hRd0 hRd hY h00
  have h1 : 1 ≤ n := by omega
  have hD' := wds_in (s := s) hD
  have hR' := wds_rise (s := s) hR
  have hdays := hRD _ (hRd0 _ h00)
  rw [week_start] at h01
  have LOW : Hid (∀ (c : Int) (q : Nat) (hq : q < (wds s ds).length), _) := fun c q hq => week_low (s := s) (e := e) (c := c) hD' hR' q hq
  have OVER : Hid (∀ (c : Int) (q : Nat) (hq : q < (wds s ds).length), _) := fun c q hq => week_over (s := s) (e := e) (c := c) hD' hR' q hq
  have HIT : Hid (∀ (c : Int) (hc : c % e = 0) (q : Nat) (hq : q < (wds s ds).length), _) := fun c hc q hq => week_hit (s := s) (e := e) (c := c) hD' hR' hc q hq
  have NEXT : Hid (∀ (c : Int) (hc : c % e = 0), _) := fun c hc => week_next (s := s) (e := e) (c := c) hD' hR' he0 hc
  have IN : Hid (∀ (q : Nat) (hq : q < (wds s ds).length), 0 ≤ (wds s ds)[q] ∧ (wds s ds)[q] ≤ 6) := fun q hq => hD' _ (List.getElem_mem hq)
  have WK : Hid (∀ w, _) := fun w => week_ok s w hs0 hs1
  have HY : Hid (_) := hY
  have HJ : Hid (_) := hJ
  have HRD : Hid (∀ h r W, J h r W → Days W sl ds) := fun h r W q => hRD W (hRd h r W q)
  have H0 : Hid (_) := h00
  have H1 : Hid (_) := h01
  have HJ0 : Hid (_) := hJ0
  have c1 := b1.cell
  have cw := bw.cell
  have fw := bw.frozen
  have B1 : Hid (Boxed W0 Bs 3 (.int .i64 s)) := b1
  have B2 : Hid (Boxed W0 Be 3 (.int .i64 e)) := b2
  obtain ⟨ad, cap, rfl, h20, hcap, hc⟩ := hdays
  have HC : Hid (Cls W0 ad ds) := hc
  have BW : Hid (Boxed W0 Bw 39 (.slice ad ds.length cap)) := bw
  clear hY hJ hJx hRd b1 bw b2 h00 h01 hJ0 hRd0 hR hD hR' hD' hRD hc
  refine callsIn_of_wp Tryz.func240 rfl trivial ?_ rfl
  simp only [Tryz.ntmps240, List.size_toArray, List.length_cons, List.length_nil, Nat.reduceAdd, Nat.reduceSub, Array.replicate_succ, Array.replicate_zero, List.push_toArray, List.append_toArray, List.nil_append, List.cons_append]
  by_cases hl : ds.length = 0
  case' pos =>
    have hw : wds s ds = [(s + 5) % 7] := by unfold wds; rw [if_pos hl]
    have x1 : Boxed ((W0.alloc (.cells #[.int .i64 ((s + 5) % 7)] 3)).setCell ⟨Bw, 0, none⟩ (.slice (some ⟨W0.heap.size, 0, none⟩) 1 1)) Bs 3 (.int .i64 s) := Boxed.other (Boxed.alloc B1.out _) hne1 _
    have xw : Boxed ((W0.alloc (.cells #[.int .i64 ((s + 5) % 7)] 3)).setCell ⟨Bw, 0, none⟩ (.slice (some ⟨W0.heap.size, 0, none⟩) 1 1)) Bw 39 (.slice (some ⟨W0.heap.size, 0, none⟩) 1 1) := Boxed.set _ (Boxed.alloc BW.out _)
    have x2 : Boxed ((W0.alloc (.cells #[.int .i64 ((s + 5) % 7)] 3)).setCell ⟨Bw, 0, none⟩ (.slice (some ⟨W0.heap.size, 0, none⟩) 1 1)) Be 3 (.int .i64 e) := Boxed.other (Boxed.alloc B2.out _) hne2 _
    have xn : Boxed ((W0.alloc (.cells #[.int .i64 ((s + 5) % 7)] 3)).setCell ⟨Bw, 0, none⟩ (.slice (some ⟨W0.heap.size, 0, none⟩) 1 1)) W0.heap.size 3 (.int .i64 ((s + 5) % 7)) := Boxed.other (boxed_at _ _ rfl) (fun e => by have := Boxed.lt BW.out; omega) _
    have xc : Cls ((W0.alloc (.cells #[.int .i64 ((s + 5) % 7)] 3)).setCell ⟨Bw, 0, none⟩ (.slice (some ⟨W0.heap.size, 0, none⟩) 1 1)) (some ⟨W0.heap.size, 0, none⟩) (wds s ds) := by
      rw [hw]
      intro j hj
      have hj0 : j = 0 := by simpa using hj
      subst hj0
      exact ⟨W0.heap.size, rfl, by rw [set_size, World.size_alloc]; omega, xn.cell⟩
    have KD : Hid (∀ W W' r, Cls W (some ⟨W0.heap.size, 0, none⟩) (wds s ds) → Steps (roK O W0.heap.size ((W0.alloc (.cells #[.int .i64 ((s + 5) % 7)] 3)).setCell ⟨Bw, 0, none⟩ (.slice (some ⟨W0.heap.size, 0, none⟩) 1 1)).heap.size) W W' → J ((W0.alloc (.cells #[.int .i64 ((s + 5) % 7)] 3)).setCell ⟨Bw, 0, none⟩ (.slice (some ⟨W0.heap.size, 0, none⟩) 1 1)).heap.size r W' → Cls W' (some ⟨W0.heap.size, 0, none⟩) (wds s ds)) := by
      intro W W' r hC hS _ j hj
      obtain ⟨q, e1, e2, e3⟩ := hC j hj
      cases e1
      exact ⟨_, rfl, Nat.lt_of_lt_of_le e2 hS.size, (World.cell?_of_block (a := ⟨W0.heap.size, j, none⟩) (hS.block _ (.inr ⟨Nat.le_refl _, Boxed.lt xn⟩) e2)).trans e3⟩
    have HJ1 : Hid (J ((W0.alloc (.cells #[.int .i64 ((s + 5) % 7)] 3)).setCell ⟨Bw, 0, none⟩ (.slice (some ⟨W0.heap.size, 0, none⟩) 1 1)).heap.size (From (pW s e (wds s ds)) (wpos (s - (s + 5) % 7 + 7 * 0) (wds s ds) 0)) ((W0.alloc (.cells #[.int .i64 ((s + 5) % 7)] 3)).setCell ⟨Bw, 0, none⟩ (.slice (some ⟨W0.heap.size, 0, none⟩) 1 1))) :=
      H1.out _ (HJ0.out _ _ H0.out ((Steps.alloc _ _ _).trans (Steps.set _ _ _ (fun h => h.1 hO2)))) (by rw [set_size, World.size_alloc]; omega)
    have hlen : (wds s ds).length = 1 := by rw [hw]; rfl
    have y1 := (Boxed.alloc B1.out (.cells #[.int .i64 ((s + 5) % 7)] 3)).cell
    have y0 := (Boxed.alloc BW.out (.cells #[.int .i64 ((s + 5) % 7)] 3)).cell
    have z0 := (Boxed.alloc BW.out (.cells #[.int .i64 ((s + 5) % 7)] 3)).frozen
    have X1 : Hid (Boxed ((W0.alloc (.cells #[.int .i64 ((s + 5) % 7)] 3)).setCell ⟨Bw, 0, none⟩ (.slice (some ⟨W0.heap.size, 0, none⟩) 1 1)) Bs 3 (.int .i64 s)) := x1
    have X2 : Hid (Boxed ((W0.alloc (.cells #[.int .i64 ((s + 5) % 7)] 3)).setCell ⟨Bw, 0, none⟩ (.slice (some ⟨W0.heap.size, 0, none⟩) 1 1)) Be 3 (.int .i64 e)) := x2
    have HS0 : Hid (W0.heap.size ≤ ((W0.alloc (.cells #[.int .i64 ((s + 5) % 7)] 3)).setCell ⟨Bw, 0, none⟩ (.slice (some ⟨W0.heap.size, 0, none⟩) 1 1)).heap.size) := by show _ ≤ _; rw [set_size, World.size_alloc]; omega
    obtain ⟨A, C, hw20, hC, XW, XC, KD2⟩ : ∃ (A : Option Addr) (C : Nat), (wds s ds).length ≤ 20 ∧ (wds s ds).length ≤ C ∧ Hid (Boxed ((W0.alloc (.cells #[.int .i64 ((s + 5) % 7)] 3)).setCell ⟨Bw, 0, none⟩ (.slice (some ⟨W0.heap.size, 0, none⟩) 1 1)) Bw 39 (.slice A (wds s ds).length C)) ∧ Hid (Cls ((W0.alloc (.cells #[.int .i64 ((s + 5) % 7)] 3)).setCell ⟨Bw, 0, none⟩ (.slice (some ⟨W0.heap.size, 0, none⟩) 1 1)) A (wds s ds)) ∧ Hid (∀ W W' r, Cls W A (wds s ds) → Steps (roK O W0.heap.size ((W0.alloc (.cells #[.int .i64 ((s + 5) % 7)] 3)).setCell ⟨Bw, 0, none⟩ (.slice (some ⟨W0.heap.size, 0, none⟩) 1 1)).heap.size) W W' → J ((W0.alloc (.cells #[.int .i64 ((s + 5) % 7)] 3)).setCell ⟨Bw, 0, none⟩ (.slice (some ⟨W0.heap.size, 0, none⟩) 1 1)).heap.size r W' → Cls W' A (wds s ds)) :=
      ⟨_, 1, by omega, by omega, by show Boxed _ _ _ _; rw [hlen]; exact xw, xc, KD⟩
    clear x1 xw x2 xn xc hw hlen KD
    gi_wp2_with (refine ⟨trivial, ?_⟩; gi_at_call 207; refine (callsIn_wide.2 (WK.out _)).mono ?_; rintro r w' ⟨rfl, rfl⟩)
    clear y0 y1 z0 c1 cw fw BW B1 B2 H0 H1 HJ0
    obtain ⟨hz, hz1, hz2, HJ2, KD3⟩ : ∃ hz, w'.heap.size ≤ hz ∧ hz ≤ ((w'.alloc (.cells #[.int .i64 ((s + 5) % 7)] 3)).setCell ⟨Bw, 0, none⟩ (.slice (some ⟨w'.heap.size, 0, none⟩) 1 1)).heap.size ∧ Hid (J hz (From (pW s e (wds s ds)) (wpos (s - (s + 5) % 7 + 7 * 0) (wds s ds) 0)) ((w'.alloc (.cells #[.int .i64 ((s + 5) % 7)] 3)).setCell ⟨Bw, 0, none⟩ (.slice (some ⟨w'.heap.size, 0, none⟩) 1 1))) ∧ Hid (∀ W W' r, Cls W A (wds s ds) → Steps (roK O w'.heap.size hz) W W' → J hz r W' → Cls W' A (wds s ds)) := ⟨_, HS0.out, Nat.le_refl _, HJ1, KD2⟩
    clear HJ1 KD2 HS0
    generalize ((w'.alloc (.cells #[.int .i64 ((s + 5) % 7)] 3)).setCell ⟨Bw, 0, none⟩ (.slice (some ⟨w'.heap.size, 0, none⟩) 1 1)) = W1 at X1 XW X2 XC HJ2 hz2 ⊢
  case' neg =>
    have hw : wds s ds = ds := by unfold wds; rw [if_neg hl]
    have HJ1 : Hid (_) := H1.out _ H0.out (Nat.le_refl _)
    have X1 := B1
    have X2 := B2
    have HS0 : Hid (W0.heap.size ≤ W0.heap.size) := Nat.le_refl _
    obtain ⟨A, C, hw20, hC, XW, XC, KD2⟩ : ∃ (A : Option Addr) (C : Nat), (wds s ds).length ≤ 20 ∧ (wds s ds).length ≤ C ∧ Hid (Boxed W0 Bw 39 (.slice A (wds s ds).length C)) ∧ Hid (Cls W0 A (wds s ds)) ∧ Hid (∀ W W' r, Cls W A (wds s ds) → Steps (roK O W0.heap.size W0.heap.size) W W' → J W0.heap.size r W' → Cls W' A (wds s ds)) := by
      rw [hw]
      refine ⟨ad, cap, h20, hcap, BW.out, HC.out, ?_⟩
      intro W W' r _ _ hj
      obtain ⟨a2, c2, e2, _, _, h2⟩ := HRD.out _ r W' hj
      cases e2
      exact h2
    have hl2 : ((ds.length : Int) == 0) = false := by rw [beq_eq_false_iff_ne]; omega
    clear hw
    gi_wp2_with (refine ⟨trivial, ?_⟩; gi_at_call 207; refine (callsIn_wide.2 (WK.out _)).mono ?_; rintro r w' ⟨rfl, rfl⟩)
    clear c1 cw fw BW B1 B2 H0 H1 HJ0 hl2
    obtain ⟨hz, hz1, hz2, HJ2, KD3⟩ : ∃ hz, w'.heap.size ≤ hz ∧ hz ≤ w'.heap.size ∧ Hid (J hz (From (pW s e (wds s ds)) (wpos (s - (s + 5) % 7 + 7 * 0) (wds s ds) 0)) w') ∧ Hid (∀ W W' r, Cls W A (wds s ds) → Steps (roK O w'.heap.size hz) W W' → J hz r W' → Cls W' A (wds s ds)) := ⟨_, HS0.out, Nat.le_refl _, HJ1, KD2⟩
    clear HJ1 KD2 HS0
  all_goals
    have hj1 := HJ2.out
    rw [show s - (s + 5) % 7 + 7 * 0 = s - (s + 5) % 7 by omega] at hj1
    clear HJ2
    have HJ1 : Hid (_) := hj1
    clear hj1 hl h20 hcap HC HRD WK
    generalize wds s ds = D at LOW OVER HIT NEXT IN XW XC KD3 HJ1 hw20 hC
    gi_loopw [7] (fun mo wr => ∃ v c : Int, mo = .int .i64 v ∧ -6 ≤ v ∧ v ≤ 74000 ∧ Hid (v = s - (s + 5) % 7 + 7 * c) ∧ Hid (c % e = 0) ∧ Hid (J hz (From (pW s e D) (wpos v D 0)) wr) ∧ Hid (Boxed wr Bs 3 (.int .i64 s)) ∧ Hid (Boxed wr Bw 39 (.slice A D.length C)) ∧ Hid (Boxed wr Be 3 (.int .i64 e)) ∧ Hid (Cls wr A D) ∧ hz ≤ wr.heap.size) (fun mo _ => (74001 - intOf mo).toNat)
    case atStart => exact ⟨s - (s + 5) % 7, 0, rfl, by omega, by omega, by show _ = _; omega, show (0 : Int) % e = 0 by simp, HJ1.out, X1, XW, X2, XC, hz2⟩
    case round =>
      obtain ⟨v, c, rfl, hv0, hv1, hvc, hc, hJ, hb1, hbw, hb2, hcl, hsz⟩ := hrel
      by_cases hv : v ≤ 73048
      · have kw := Boxed.cell hbw.out
        gi_wp2
        clear kw
        gi_loopw [32] (fun i wr => ∃ q : Nat, i = .int .i64 q ∧ q ≤ D.length ∧ Hid (J hz (From (pW s e D) (wpos v D q)) wr) ∧ Hid (Boxed wr Bs 3 (.int .i64 s)) ∧ Hid (Boxed wr Bw 39 (.slice A D.length C)) ∧ Hid (Boxed wr Be 3 (.int .i64 e)) ∧ Hid (Cls wr A D) ∧ hz ≤ wr.heap.size) (fun i _ => D.length - (intOf i).toNat)
        case atStart => exact ⟨0, rfl, Nat.zero_le _, hJ, hb1, hbw, hb2, hcl, hsz⟩
        case round =>
          clear hJ hb1 hbw hb2 hcl hsz
          obtain ⟨q, rfl, hq, hJ, hb1, hbw, hb2, hcl, hsz⟩ := hrel
          by_cases hlt : q < D.length
          · obtain ⟨blk, rfl, hblk, hcell⟩ := hcl.out q hlt
            have k1 := Boxed.cell hb1.out
            have t0 := IN.out q hlt
            have LO : Hid (v + D[q] < s → J hz (From (pW s e D) (wpos v D (q + 1))) wr) := fun h => by
              have h2 := LOW.out c q hlt (by rw [← hvc.out]; exact h)
              rw [← hvc.out] at h2
              rw [← h2]; exact hJ.out
            have OV : Hid (73048 < v + D[q] → J hz [] wr) := fun h => by
              have h2 := OVER.out c q hlt (by rw [← hvc.out]; exact h)
              rw [← hvc.out] at h2
              rw [← h2]; exact hJ.out
            have HI : Hid (s ≤ v + D[q] → v + D[q] ≤ 73048 → J hz ((v + D[q]) :: From (pW s e D) (wpos v D (q + 1))) wr) := fun h h' => by
              have h2 := HIT.out c hc.out q hlt (by rw [← hvc.out]; exact h) (by rw [← hvc.out]; exact h')
              rw [← hvc.out] at h2
              rw [← h2]; exact hJ.out
            obtain ⟨t1, t2⟩ := t0
            generalize D[q] = t at hcell LO OV HI t1 t2
            by_cases g1 : v + t < s
            · have HJ2 : Hid (_) := LO.out g1
              clear LO OV HI
              gi_wp2
              go_roundw
              case rel => exact ⟨q + 1, by go_num, by omega, HJ2.out, hb1, hbw, hb2, hcl, hsz⟩
              case measure => simp [intOf]; omega
            · by_cases g2 : 73048 < v + t
              · have HJ2 : Hid (_) := OV.out g2
                clear LO OV HI
                gi_wp2
                refine ⟨fun _ h => (by cases h), ?_⟩
                gi_wp2
                refine bodyPost_ret (results_none rfl _ _ _) rfl ?_
                exact ⟨⟨_, rfl⟩, hz, hz1, hsz, .inl HJ2.out⟩
              · have hJ2 := HI.out (by omega) (by omega)
                obtain ⟨fn, tmps, assign, body, hy, hR⟩ := HY.out (n - 1) hz (v + t) _ wr (by omega) hz1 hsz hJ2
                clear LO OV HI hJ2
                gi_wp2
                refine hR.mono ?_
                rintro r W3 ⟨hS, (⟨rfl, hJ3⟩ | ⟨rfl, hJx3⟩)⟩
                · have q1 : Hid (Boxed W3 Bs 3 (.int .i64 s)) := hS.box hb1.out (.inl hO1)
                  have q2 : Hid (Boxed W3 Bw 39 (.slice (some ⟨blk, 0, none⟩) D.length C)) := hS.box hbw.out (.inl hO2)
                  have q3 : Hid (Boxed W3 Be 3 (.int .i64 e)) := hS.box hb2.out (.inl hO3)
                  have q4 : Hid (Cls W3 (some ⟨blk, 0, none⟩) D) := KD3.out _ _ _ hcl.out hS hJ3
                  have hsz3 := Nat.le_trans hsz hS.size
                  have HJ3 : Hid (_) := hJ3
                  clear hJ3 hS
                  gi_wp2
                  go_roundw
                  case rel => exact ⟨q + 1, by go_num, by omega, HJ3.out, q1, q2, q3, q4, hsz3⟩
                  case measure => simp [intOf]; omega
                · gi_wp2
                  refine bodyPost_ret (results_none rfl _ _ _) rfl ?_
                  exact ⟨⟨_, rfl⟩, hz, hz1, Nat.le_trans hsz hS.size, .inr hJx3⟩
          · have hq' : q = D.length := by omega
            have hJ2 := hJ.out
            rw [hq', hvc.out, NEXT.out c hc.out] at hJ2
            have k3 := Boxed.cell hb2.out
            have HJ2 : Hid (_) := hJ2
            have HV : Hid (v + e * 7 = s - (s + 5) % 7 + 7 * (c + e)) := by show _ = _; rw [hvc.out]; omega
            clear hJ2 hq'
            gi_wp2
            go_roundw
            case rel =>
              refine ⟨v + e * 7, c + e, by go_num, by omega, by omega, HV, mod_on hc.out, ?_, hb1, hbw, hb2, hcl, hsz⟩
              rw [HV.out]
              exact HJ2.out
            case measure => simp [intOf]; omega
      · have hJ2 := hJ.out
        unfold wpos at hJ2
        rw [if_pos rfl, From_end (by omega)] at hJ2
        have HJ2 : Hid (_) := hJ2
        clear hJ2
        gi_wp2
        go_end0
        exact ⟨⟨_, rfl⟩, hz, hz1, hsz, .inl HJ2.out⟩
end Go.Proofs.YtnpecjccajebiaaGreatDoor

/- A loop over an iterator of days: one law for those who range over it. The round's body is walked once; the loop's record and the block for deferred calls are kept here. Conditions: a round ends normally, returns or breaks; it leaves the iterator's blocks. -/
namespace Go.Proofs.YtnpecjccajebiaaGreatDoor
open Go Go.RowKit Cal

/-- how a round's body may be left -/
def rnd2 (l : Nat) (r : Loop) (R : Ending → World → Prop) : Exit → Act → World → Prop
  | .normal, _, W => W.heap[l]? = some (.loop { r with state := .busy }) ∧ R (.returned (.bool true)) (W.putObj l (.loop { r with state := .ready, pending := none }))
  | .ret, _, W => W.heap[l]? = some (.loop { r with state := .busy }) ∧ R (.returned (.bool false)) (W.putObj l (.loop { r with state := .done, pending := some .ret }))
  | .exit id, _, W => W.heap[l]? = some (.loop { r with state := .busy }) ∧ R (.returned (.bool false)) (W.putObj l (.loop { r with state := .done, pending := some (.exit id) }))
  | _, _, _ => False

theorem yieldAt_of2 {P : Program} {n l : Nat} {r : Loop} {x : Array Value} {W : World} {R : Ending → World → Prop} {tmps : Array Value} {ps : Array Tmp} {assign body : Code} (hR : IsRec r tmps ps assign body) (a₁ : Act)
    (hl : W.heap[l]? = some (.loop r)) (hs : x.size = ps.size)
    (hassign : ∀ K : Act → World → Prop, K a₁ W → assign.wpIn (Fence.wide.inRound l) n P (Exit.then K (fun _ _ _ => False)) { tmps := (ps.zip x).foldl (fun t (p, v) => t.setIfInBounds p v) tmps, defers := [] } W)
    (hbody : body.wpIn (Fence.wide.inRound l) n P (rnd2 l r R) a₁ (W.putObj l (.loop { r with state := .busy }))) :
    YieldAt Fence.wide n P l x W R := by
  obtain ⟨hr, _, rfl, rfl, rfl, rfl⟩ := hR
  refine ⟨r.fn, _, r.assign, r.body, run_yield hl hs, roundIn_of_wpIn trivial (hassign _ ⟨_, run_beginRound hl hr, wpIn_mono hbody ?_⟩)⟩
  intro e a W3 h
  cases e with
  | normal => exact ⟨_, _, run_endRound none h.1, h.2⟩
  | ret => exact ⟨_, _, run_endRound (some .ret) h.1, h.2⟩
  | exit id => exact ⟨_, _, run_endRound (some (.exit id)) h.1, h.2⟩
  | goto t => exact h.elim
  | panic ch => exact h.elim
  | outgrown => exact h.elim

/-- what a round's body leaves -/
def rdPost (keep : Nat → Prop) (IN : World → Prop) (IX : Code → World → Prop) (W : World) : Exit → Act → World → Prop
  | .normal, _, W' => Steps keep W W' ∧ IN W'
  | .ret, _, W' => Steps keep W W' ∧ IX .ret W'
  | .exit id, _, W' => Steps keep W W' ∧ IX (.exit id) W'
  | _, _, _ => False

theorem range_gives {aa bb n : Nat} {g : Operand} {ps : Array Tmp} {assign body : Code} {Q : Exit → Act → World → Prop} {a : Act} {w : World} {gf : Nat} {lb : Array Value} {O : Nat → Prop} {Rd : World → Prop} {xs : List Int}
    (hn : aa + 1 ≤ n) (hg : a.eval g = .func (.func gf) #[] lb) (eg : ∀ args w, (callFunc gf args).run Tryz.prog w = .ok (.enter gf args) w) (hps : ps.size = 1)
    (hG : ∀ W, Below w.heap.size w W → Gives aa bb gf lb O Rd xs W) (hO : ∀ k, O k → k < w.heap.size)
    (I : Nat → List Int → World → Prop) (Ix : Code → Nat → World → Prop)
    (hI0 : ∀ W, Steps (itO O w.heap.size) w W → w.heap.size + 2 ≤ W.heap.size → I W.heap.size xs W)
    (hI : ∀ h r W W', w.heap.size + 2 ≤ h → I h r W → Steps (itK O w.heap.size h) W W' → I h r W')
    (hIx : ∀ c h W W', w.heap.size + 2 ≤ h → Ix c h W → Steps (itK O w.heap.size h) W W' → Ix c h W')
    (hR0 : ∀ W, Steps (itO O w.heap.size) w W → Rd W) (hR : ∀ h r W, I h r W → Rd W)
    (act : Int → Act)
    (hassign : ∀ (l m : Nat) (x : Int) (W : World) (K : Act → World → Prop), K (act x) W → assign.wpIn (Fence.wide.inRound l) m Tryz.prog (Exit.then K (fun _ _ _ => False)) { tmps := (ps.zip #[Value.int .i64 x]).foldl (fun t (p, v) => t.setIfInBounds p v) a.tmps, defers := [] } W)
    (hbody : ∀ (l m h : Nat) (x : Int) (r : List Int) (W : World), bb ≤ m → w.heap.size + 2 ≤ h → h ≤ W.heap.size → I h (x :: r) W →
      body.wpIn (Fence.wide.inRound l) m Tryz.prog (rdPost (roK O w.heap.size h) (I h r) (fun c => Ix c h) W) (act x) W)
    (hdone : ∀ (h : Nat) (W : World), w.heap.size + 2 ≤ h → h ≤ W.heap.size → I h [] W → W.heap[w.heap.size]? = some (.deferred (some [])) → Q .normal { a with defers := { target := .collected w.heap.size, args := #[] } :: a.defers } W)
    (hstop : ∀ (c : Code) (h : Nat) (W : World), w.heap.size + 2 ≤ h → h ≤ W.heap.size → Ix c h W → W.heap[w.heap.size]? = some (.deferred (some [])) → c.wpIn Fence.wide n Tryz.prog Q { a with defers := { target := .collected w.heap.size, args := #[] } :: a.defers } W) :
    (Code.rangeFunc g ps assign body).wpIn Fence.wide n Tryz.prog Q a w := by
  refine rangeFunc_of hg eg (fun r0 hr0 => ?_)
  have hb1 : Below w.heap.size w ((w.alloc (.deferred (some []))).alloc (.loop r0)) := below_then (below_alloc _ _) (below_alloc _ _)
  have hrec1 := rec_start w (.loop r0)
  have hd1 : ((w.alloc (.deferred (some []))).alloc (.loop r0)).heap[w.heap.size]? = some (.deferred (some [])) := block_alloc _ (block_at _ rfl)
  have hsz1 : ((w.alloc (.deferred (some []))).alloc (.loop r0)).heap.size = w.heap.size + 2 := by simp
  generalize (w.alloc (.deferred (some []))).alloc (.loop r0) = W1 at hb1 hrec1 hd1 hsz1
  have nO0 : ¬ O w.heap.size := fun h => by have := hO _ h; omega
  have nO1 : ¬ O (w.heap.size + 1) := fun h => by have := hO _ h; omega
  have nk : ∀ h, ¬ itK O w.heap.size h (w.heap.size + 1) ∨ h ≤ w.heap.size + 1 := fun h => by
    by_cases hh : h ≤ w.heap.size + 1
    · exact .inr hh
    · exact .inl (fun hk => by rcases hk.2 with q | q <;> omega)
  refine (hG W1 hb1 (n - 1) (w.heap.size + 1)
    (fun W => Steps (itO O w.heap.size) w W ∧ W.heap[w.heap.size + 1]? = some (.loop r0) ∧ W.heap[w.heap.size]? = some (.deferred (some [])))
    (fun h r W => I h r W ∧ W.heap[w.heap.size + 1]? = some (.loop r0) ∧ W.heap[w.heap.size]? = some (.deferred (some [])))
    (fun h W => ∃ c, Ix c h W ∧ W.heap[w.heap.size + 1]? = some (.loop { r0 with state := .done, pending := some c }) ∧ W.heap[w.heap.size]? = some (.deferred (some [])))
    (by omega) ?s0 ?s1 ?s2 ?s3 ?s4 ?s5 ?s6 ?s7).mono ?post
  case s0 =>
    rintro W W' ⟨q1, q2, q3⟩ hS
    exact ⟨q1.trans (hS.mono (fun k hk => ⟨hk.1, by have := hk.2; omega⟩)), hS.obj q2 ⟨nO1, by omega⟩, hS.obj q3 ⟨nO0, by omega⟩⟩
  case s1 =>
    rintro W ⟨q1, q2, q3⟩ hs
    exact ⟨hI0 W q1 (by omega), q2, q3⟩
  case s2 =>
    rintro h r W W' hh ⟨q1, q2, q3⟩ hS
    exact ⟨hI h r W W' (by omega) q1 (hS.mono (fun k hk => ⟨hk.1, by rcases hk.2 with q | q <;> omega⟩)), hS.obj q2 ⟨nO1, .inl (by omega)⟩, hS.obj q3 ⟨nO0, .inl (by omega)⟩⟩
  case s3 =>
    rintro h W W' hh ⟨c, q1, q2, q3⟩ hS
    exact ⟨c, hIx c h W W' (by omega) q1 (hS.mono (fun k hk => ⟨hk.1, by rcases hk.2 with q | q <;> omega⟩)), hS.obj q2 ⟨nO1, .inl (by omega)⟩, hS.obj q3 ⟨nO0, .inl (by omega)⟩⟩
  case s4 => exact fun W q => hR0 W q.1
  case s5 => exact fun h r W q => hR h r W q.1
  case s7 => exact ⟨Steps.of_below hb1, hrec1, hd1⟩
  case s6 =>
    rintro m h x r W hm hh hhW ⟨q1, q2, q3⟩
    have hlt : w.heap.size + 1 < W.heap.size := (Array.getElem?_eq_some_iff.1 q2).1
    have hsP : (W.putObj (w.heap.size + 1) (.loop { r0 with state := .busy })).heap.size = W.heap.size := World.putObj_size
    have nkh : ¬ itK O w.heap.size h (w.heap.size + 1) := by
      rcases nk h with q | q
      · exact q
      · omega
    have i1 := hI h (x :: r) W (W.putObj (w.heap.size + 1) (.loop { r0 with state := .busy })) (by omega) q1 (Steps.put _ _ _ nkh)
    have l1 : (W.putObj (w.heap.size + 1) (.loop { r0 with state := .busy })).heap[w.heap.size + 1]? = some (.loop { r0 with state := .busy }) := World.putObj_heap_same hlt
    have d1 : (W.putObj (w.heap.size + 1) (.loop { r0 with state := .busy })).heap[w.heap.size]? = some (.deferred (some [])) := (World.putObj_heap_other (by omega)).trans q3
    have nr : ¬ roK O W1.heap.size h (w.heap.size + 1) := fun hk => by
      rcases hk with q | q
      · exact nO1 q
      · omega
    have st1 : Steps (roK O W1.heap.size h) W (W.putObj (w.heap.size + 1) (.loop { r0 with state := .busy })) := Steps.put _ _ _ nr
    refine yieldAt_of2 hr0 (act x) q2 (by rw [hps]; rfl) (fun K hK => hassign _ m x W K hK) (wpIn_mono (hbody _ m h x r _ hm (by omega) (by omega) i1) ?_)
    have up : ∀ k, roK O W1.heap.size h k → roK O w.heap.size h k := fun k hk => by
      rcases hk with q | q
      · exact .inl q
      · exact .inr (by omega)
    intro e a3 W3 hp
    cases e with
    | normal =>
      obtain ⟨hS, hi⟩ := hp
      have l3 := hS.obj l1 (.inr (by omega))
      have d3 := hS.obj d1 (.inr (by omega))
      refine ⟨l3, (st1.trans (hS.mono up)).trans (Steps.put _ _ _ nr), .inl ⟨rfl, hI h r _ _ (by omega) hi (Steps.put _ _ _ nkh), ?_, (World.putObj_heap_other (by omega)).trans d3⟩⟩
      rw [hr0.again]; exact World.putObj_heap_same (Array.getElem?_eq_some_iff.1 l3).1
    | ret =>
      obtain ⟨hS, hi⟩ := hp
      have l3 := hS.obj l1 (.inr (by omega))
      have d3 := hS.obj d1 (.inr (by omega))
      exact ⟨l3, (st1.trans (hS.mono up)).trans (Steps.put _ _ _ nr), .inr ⟨rfl, .ret, hIx _ h _ _ (by omega) hi (Steps.put _ _ _ nkh), World.putObj_heap_same (Array.getElem?_eq_some_iff.1 l3).1, (World.putObj_heap_other (by omega)).trans d3⟩⟩
    | exit id =>
      obtain ⟨hS, hi⟩ := hp
      have l3 := hS.obj l1 (.inr (by omega))
      have d3 := hS.obj d1 (.inr (by omega))
      exact ⟨l3, (st1.trans (hS.mono up)).trans (Steps.put _ _ _ nr), .inr ⟨rfl, .exit id, hIx _ h _ _ (by omega) hi (Steps.put _ _ _ nkh), World.putObj_heap_same (Array.getElem?_eq_some_iff.1 l3).1, (World.putObj_heap_other (by omega)).trans d3⟩⟩
    | goto t => exact hp.elim
    | panic ch => exact hp.elim
    | outgrown => exact hp.elim
  case post =>
    rintro e W2 ⟨hv, h, hh, hhW, (⟨hi, q2, q3⟩ | ⟨c, hi, q2, q3⟩)⟩
    · have nkh : ¬ itK O w.heap.size h (w.heap.size + 1) := by
        rcases nk h with q | q
        · exact q
        · omega
      exact ⟨hv, _, q2, by rw [hr0.state]; decide, .inl ⟨hr0.pending, hdone h _ (by omega) (by rw [World.putObj_size]; exact hhW) (hI h [] _ _ (by omega) hi (Steps.put _ _ _ nkh)) ((World.putObj_heap_other (by omega)).trans q3)⟩⟩
    · have nkh : ¬ itK O w.heap.size h (w.heap.size + 1) := by
        rcases nk h with q | q
        · exact q
        · omega
      exact ⟨hv, _, q2, by simp, .inr ⟨c, rfl, hstop c h _ (by omega) (by rw [World.putObj_size]; exact hhW) (hIx c h _ _ (by omega) hi (Steps.put _ _ _ nkh)) ((World.putObj_heap_other (by omega)).trans q3)⟩⟩
end Go.Proofs.YtnpecjccajebiaaGreatDoor
