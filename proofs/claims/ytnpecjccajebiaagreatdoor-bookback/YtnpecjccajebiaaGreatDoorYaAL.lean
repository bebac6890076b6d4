/- The days of a start and a rule: the iterator that package expand's days hands back gives just those that a count and an end leave of the candidates; none where one of the two is not well. -/
import Derived.Test.YtnpecjccajebiaaGreatDoorYaAG
import Derived.Test.YtnpecjccajebiaaGreatDoorYaAC
import Derived.Lib.SliceRun
namespace Go.Proofs.YtnpecjccajebiaaGreatDoor
open Go Go.RowKit Go.Shelf Cal
attribute [local go_sem] Oper.semAt_some

/-- what is left behind k days -/
def cutK (c : Int) (k : Nat) (u : Int) (l : List Int) : List Int := if 0 < c then (cutU u l).take (c - k).toNat else cutU u l
theorem cutK_zero (c u : Int) (l : List Int) : cut c u l = cutK c 0 u l := by unfold cut cutK; simp
theorem cutU_nil (u : Int) : cutU u [] = [] := by unfold cutU; split <;> rfl
theorem cutK_nil (c : Int) (k : Nat) (u : Int) : cutK c k u [] = [] := by unfold cutK; rw [cutU_nil]; split <;> simp
theorem cutK_over {c : Int} {k : Nat} {u x : Int} {r : List Int} (h0 : 0 ≤ u) (h : u < x) : cutK c k u (x :: r) = [] := by
  have : cutU u (x :: r) = [] := by unfold cutU; rw [if_pos h0, List.takeWhile_cons_of_neg (by simp; omega)]
  unfold cutK; rw [this]; split <;> simp
theorem cutK_on {c : Int} {k : Nat} {u x : Int} {r : List Int} (hk : 0 < c → (k : Int) < c) (h : ¬ (0 ≤ u ∧ u < x)) : cutK c k u (x :: r) = x :: cutK c (k + 1) u r := by
  have e1 : cutU u (x :: r) = x :: cutU u r := by
    unfold cutU
    split
    · rw [List.takeWhile_cons_of_pos (by simp; omega)]
    · rfl
  unfold cutK
  rw [e1]
  split
  · rename_i hc
    have := hk hc
    rw [show (c - k).toNat = (c - ((k + 1 : Nat) : Int)).toNat + 1 by omega, List.take_succ_cons]
  · rfl
theorem cutK_full {c : Int} {k : Nat} {u : Int} {r : List Int} (hc : 0 < c) (h : (k : Int) = c) : cutK c k u r = [] := by
  unfold cutK; rw [if_pos hc, show (c - k).toNat = 0 by omega]; rfl
theorem fr_len {p : Int → Bool} : ∀ (n : Nat) (a : Int), (fr p a n).length ≤ n
  | 0, a => by simp [fr]
  | n + 1, a => by
    unfold fr
    have := fr_len (p := p) n (a + 1)
    split
    · simp; omega
    · omega
theorem From_len {p : Int → Bool} {a : Int} (h : 0 ≤ a) : (From p a).length ≤ 73049 := by
  unfold From
  have := fr_len (p := p) (73049 - a).toNat a
  omega

/-- the box of a rule -/
def RB (W : World) (B : Nat) (f : ByteArray) (e : Int) (sl : Value) (c u : Int) : Prop := W.heap[B]? = some (.cells #[.string f, .int .i64 e, sl, .int .i64 c, .int .i64 u] 41 (0, 0))

set_option maxHeartbeats 4000000 in
theorem days_iter {aa bb : Nat} (hab : bb + 6 ≤ aa) (f : ByteArray) (e : Int) (sl : Value) (c u : Int) (ds : List Int) (s : Int) (hw : Well (rd f e ds c u)) (hs0 : 0 ≤ s) (hs1 : s ≤ 73048)
    (Bs Br : Nat) (O : Nat → Prop) (hO2 : O Br) (W0 : World) (b1 : Boxed W0 Bs 3 (.int .i64 s)) (b2 : RB W0 Br f e sl c u) :
    Gives aa bb 161 #[.pointer (some ⟨Bs, 0, none⟩), .pointer (some ⟨Br, 0, none⟩)] O (RdC sl ds) (cut c u (cds f.toList s e ds)) W0 := by
  intro n l J0 J Jx hna hJ0 h01 hJ hJx hRd0 hRd hY h00
  have h1 : 1 ≤ n := by omega
  have hd := (hRd0 _ h00).2
  have b0 : Boxed (W0.alloc (.cells #[.func (.yield l) #[] #[]] 94)) W0.heap.size 94 (.func (.yield l) #[] #[]) := boxed_at _ _ rfl
  have hA := below_alloc W0 (.cells #[.func (.yield l) #[] #[]] 94)
  have CK : Hid (_) := echeck_ok f e sl c u ds s _ (hd.step hA) hw hs0 hs1
  have CA : Hid (∀ W, Days W sl ds → _) := fun W h => candidates_any f e sl c u ds s W h hw hs0 hs1
  obtain ⟨ad, cap, rfl, _, _, _⟩ := id hd
  have B1 : Hid (Boxed W0 Bs 3 (.int .i64 s)) := b1
  have B2 : Hid (RB W0 Br f e (.slice ad ds.length cap) c u) := b2
  have HA : Hid (_) := hA
  have HD : Hid (Days W0 (.slice ad ds.length cap) ds) := hd
  have x1 := (Boxed.alloc b1 (.cells #[.func (.yield l) #[] #[]] 94)).cell
  obtain ⟨x2, x3, x4, x5, x6⟩ := blk5 (block_alloc (.cells #[.func (.yield l) #[] #[]] 94) b2)
  have B0 : Hid (Boxed (W0.alloc (.cells #[.func (.yield l) #[] #[]] 94)) W0.heap.size 94 (.func (.yield l) #[] #[])) := b0
  have HW : Hid (_) := hw
  have G0 : Hid (_) := h00
  have K0 : Hid (_) := hJ0
  have K1 : Hid (_) := h01
  have K2 : Hid (_) := hJ
  have K3 : Hid (_) := hJx
  have K4 : Hid (_) := hRd
  have K5 : Hid (_) := hRd0
  have HY : Hid (_) := hY
  clear b1 b2 hA hd b0 hw h00 hJ0 h01 hJ hJx hRd0 hRd hY
  refine callsIn_of_wp_marks Tryz.func161 rfl trivial ?_ rfl
  simp only [Tryz.ntmps161, List.size_toArray, List.length_cons, List.length_nil, Nat.reduceAdd, Nat.reduceSub, Array.replicate_succ, Array.replicate_zero, List.push_toArray, List.append_toArray, List.nil_append, List.cons_append]
  unfold rv at CK CA
  gi_wp2_with (first
    | (refine ⟨trivial, ?_⟩; gi_at_call 162; refine (callsIn_wide.2 CK.out).mono ?_; rintro r w1 ⟨rfl, hb1⟩; have HB1 : Hid (Below W0.heap.size W0 w1) := below_then HA.out hb1; have y1 := (Boxed.alloc (show Boxed w1 Bs 3 (.int .i64 s) from (HB1.out.block _ (Boxed.lt B1.out)).trans B1.out) (.cells #[.int .i64 0] 3)).cell; obtain ⟨y2, y3, y4, y5, y6⟩ := blk5 (block_alloc (.cells #[.int .i64 0] 3) ((HB1.out.block _ (Array.getElem?_eq_some_iff.1 B2.out).1).trans B2.out)); have B0' : Hid (Boxed w1 W0.heap.size 94 (.func (.yield l) #[] #[])) := (hb1.block _ (Boxed.lt B0.out)).trans B0.out; clear x1 x2 x3 x4 x5 x6 B0)
    | (refine ⟨trivial, ?_⟩; gi_at_call 163; refine (callsIn_wide.2 (CA.out _ (HD.out.step (below_then HB1.out (below_alloc _ _))))).mono ?_; rintro r w3 ⟨g, lb, rfl, hC⟩))
  obtain ⟨hbC, hen, hgiv⟩ := hC
  have hsA := hb1.size
  rw [World.size_alloc] at hsA
  have hs2 : (w1.alloc (.cells #[.int .i64 0] 3)).heap.size = w1.heap.size + 1 := World.size_alloc _ _
  have hs3 := hbC.size
  have hB3 : Below W0.heap.size W0 w3 := below_then HB1.out (below_then (below_alloc _ _) hbC)
  have bT0 : Boxed w3 w1.heap.size 3 (.int .i64 0) := (hbC.block _ (by omega)).trans (block_at _ rfl)
  have bY0 : Boxed w3 W0.heap.size 94 (.func (.yield l) #[] #[]) := (hbC.block _ (by omega)).trans (block_alloc _ B0'.out)
  have bR0 : RB w3 Br f e (.slice ad ds.length cap) c u := (hB3.block _ (Array.getElem?_eq_some_iff.1 B2.out).1).trans B2.out
  have hBr : Br < W0.heap.size := (Array.getElem?_eq_some_iff.1 B2.out).1
  generalize (w1.alloc (.cells #[.int .i64 0] 3)).heap.size = z2 at hs2 hs3 hgiv hbC
  have HB3 : Hid (_) := hB3
  have BT0 : Hid (_) := bT0
  have BY0 : Hid (_) := bY0
  have BR0 : Hid (_) := bR0
  have HG : Hid (_) := hgiv
  have hcw : 0 ≤ c ∧ -1 ≤ u ∧ u ≤ 73048 := ⟨HW.out.co.1, HW.out.un.1, HW.out.un.2⟩
  obtain ⟨hc0, hu0, hu1⟩ := hcw
  have hlen : (cds f.toList s e ds).length ≤ 73049 := From_len hs0
  clear hB3 bT0 bY0 bR0 hgiv hbC hb1 HB1 HA CK CA HD B0' y1 y2 y3 y4 y5 y6 B1 B2 HW
  generalize cds f.toList s e ds = cs at hlen HG K1
  refine range_gives (aa := bb + 4) (bb := bb + 2) (by omega) rfl hen rfl (fun W hW => HG.out _ _ W (by omega) hW) (fun k hk => hk.2)
    (fun h r W => ∃ k : Nat, Hid ((0 < c → (k : Int) < c) ∧ J h (cutK c k u r) W) ∧ k + r.length ≤ 73049 ∧ Hid (Boxed W w1.heap.size 3 (.int .i64 k)) ∧ Hid (Boxed W W0.heap.size 94 (.func (.yield l) #[] #[])) ∧ Hid (RB W Br f e (.slice ad ds.length cap) c u))
    (fun cd h W => cd = .ret ∧ (J h [] W ∨ Jx h W))
    ?i0 ?i ?ix ?r0 ?r
    (fun x => { tmps := #[.func (.yield l) #[] #[], .pointer (some ⟨Bs, 0, none⟩), .pointer (some ⟨Br, 0, none⟩), .pointer (some ⟨W0.heap.size, 0, none⟩), .pointer (some ⟨w1.heap.size, 0, none⟩), .int .i64 x, .int .i64 s, .agg #[.string f, .int .i64 e, .slice ad ds.length cap, .int .i64 c, .int .i64 u], .nilIface, .bool false, .int .i64 s, .agg #[.string f, .int .i64 e, .slice ad ds.length cap, .int .i64 c, .int .i64 u], .func (.func g) #[] lb, .int .i64 x, undef, undef, undef, undef, undef, undef, undef, undef, undef, undef, undef, undef, undef, undef, undef, undef, undef, undef, undef], defers := [] })
    ?assign ?body ?done ?stop
  case i0 =>
    intro W hS hsz
    have hj0 : J0 W := K0.out _ _ G0.out ((Steps.below HB3.out).mono (fun k hk => hk.2) |>.trans (hS.mono (fun k hk => ⟨fun q => by have := hk.2; omega, by have := hk.2; omega⟩)))
    refine ⟨0, ⟨fun h => by omega, ?_⟩, by omega, hS.box BT0.out ⟨fun q => by omega, by omega⟩, hS.box BY0.out ⟨fun q => by omega, by omega⟩, hS.obj BR0.out ⟨fun q => by omega, by omega⟩⟩
    rw [← cutK_zero]
    exact K1.out W hj0 (by omega)
  case i =>
    rintro h r W W' hh ⟨k, ⟨q0, q1⟩, q2, q3, q4, q5⟩ hS
    exact ⟨k, ⟨q0, K2.out h _ W W' (by omega) q1 (hS.mono (fun k hk => ⟨fun q => by rcases hk.2 with p | p <;> omega, by rcases hk.2 with p | p <;> omega⟩))⟩, q2, hS.box q3.out ⟨fun q => by omega, .inl (by omega)⟩, hS.box q4.out ⟨fun q => by omega, .inl (by omega)⟩, hS.obj q5.out ⟨fun q => by omega, .inl (by omega)⟩⟩
  case ix =>
    rintro cd h W W' hh ⟨rfl, q⟩ hS
    have hS' : Steps (itK O W0.heap.size h) W W' := hS.mono (fun k hk => ⟨fun q => by rcases hk.2 with p | p <;> omega, by rcases hk.2 with p | p <;> omega⟩)
    rcases q with q | q
    · exact ⟨rfl, .inl (K2.out h _ W W' (by omega) q hS')⟩
    · exact ⟨rfl, .inr (K3.out h W W' (by omega) q hS')⟩
  case r0 =>
    intro W hS
    exact K5.out W (K0.out _ _ G0.out ((Steps.below HB3.out).mono (fun k hk => hk.2) |>.trans (hS.mono (fun k hk => ⟨fun q => by have := hk.2; omega, by have := hk.2; omega⟩))))
  case r =>
    rintro h r W ⟨k, ⟨_, q1⟩, _⟩
    exact K4.out h _ W q1
  case assign =>
    intro l' m x W K hK
    gi_wp2
    exact hK
  case body =>
    rintro l' m h x r W hm hh hhW ⟨k, hk, hlk, bT, bY, bR⟩
    have h1m : 1 ≤ m := by omega
    obtain ⟨k2, k3, k4, k5, k6⟩ := blk5 bR.out
    have kY := Boxed.cell bY.out
    have hlk' : k + r.length + 1 ≤ 73049 := by rw [List.length_cons] at hlk; omega
    clear k2 k3 k4 k5
    by_cases hov : 0 ≤ u ∧ u < x
    · have hj := hk.out.2
      rw [cutK_over hov.1 hov.2] at hj
      have HJ : Hid (_) := hj
      obtain ⟨o1, o2⟩ := hov
      clear hj hk bT bY bR
      gi_wp2
      exact ⟨Steps.refl _ _, rfl, .inl HJ.out⟩
    · have hj := hk.out.2
      rw [cutK_on hk.out.1 hov] at hj
      obtain ⟨fn, tmps, assign, body, hy, hR⟩ := HY.out (m - 1) h x _ W (by omega) (by omega) hhW hj
      have CO : Hid ((0 : Int) < c → (k : Int) < c) := hk.out.1
      have fin : ∀ W3, Steps (roK O W0.heap.size h) W W3 → Steps (roK (fun k => z2 ≤ k ∧ k < w3.heap.size) w3.heap.size h) W W3 := fun W3 hS => hS.mono (fun k hk => by
        rcases hk with p | p
        · exact .inr (by omega)
        · exact .inr (by omega))
      have FIN : Hid (_) := fin
      have hlk2 : k + 1 + r.length ≤ 73049 := by omega
      clear hj hk fin hlk hlk'
      have hback : ∀ W3 : World, Steps (roK O W0.heap.size h) W W3 → Boxed W3 w1.heap.size 3 (.int .i64 k) ∧ Boxed W3 W0.heap.size 94 (.func (.yield l) #[] #[]) ∧ RB W3 Br f e (.slice ad ds.length cap) c u := fun W3 hS =>
        ⟨hS.box bT.out (.inr (by omega)), hS.box bY.out (.inr (by omega)), hS.obj bR.out (.inl hO2)⟩
      have HB : Hid (_) := hback
      clear hback
      have tail : ∀ W3 : World, Steps (roK O W0.heap.size h) W W3 → J h (cutK c (k + 1) u r) W3 → Steps (roK (fun k => z2 ≤ k ∧ k < w3.heap.size) w3.heap.size h) W (W3.setCell ⟨w1.heap.size, 0, none⟩ (.int .i64 ((k : Int) + 1))) ∧ J h (cutK c (k + 1) u r) (W3.setCell ⟨w1.heap.size, 0, none⟩ (.int .i64 ((k : Int) + 1))) ∧
          Boxed (W3.setCell ⟨w1.heap.size, 0, none⟩ (.int .i64 ((k : Int) + 1))) w1.heap.size 3 (.int .i64 ((k : Int) + 1)) ∧ Boxed (W3.setCell ⟨w1.heap.size, 0, none⟩ (.int .i64 ((k : Int) + 1))) W0.heap.size 94 (.func (.yield l) #[] #[]) ∧ RB (W3.setCell ⟨w1.heap.size, 0, none⟩ (.int .i64 ((k : Int) + 1))) Br f e (.slice ad ds.length cap) c u := fun W3 hS hJ3 => by
        obtain ⟨c1, c2, c3⟩ := HB.out W3 hS
        refine ⟨(FIN.out W3 hS).trans (Steps.set _ _ _ (fun q => ?_)), K2.out h _ _ _ (by omega) hJ3 (Steps.set _ _ _ (fun q => ?_)), Boxed.set _ c1, Boxed.other c2 (by omega) _, (Below.heap_setCell _ _ _ _ (fun e => by have e' : Br = w1.heap.size := e; omega)).trans c3⟩
        · have q' : (z2 ≤ w1.heap.size ∧ w1.heap.size < w3.heap.size) ∨ (w3.heap.size ≤ w1.heap.size ∧ w1.heap.size < h) := q
          omega
        · have q' : w1.heap.size < W0.heap.size ∨ h ≤ w1.heap.size := q.2
          omega
      have TAIL : Hid (_) := tail
      clear tail
      rcases Int.lt_or_le u 0 with hu | hu
      · gi_wp2
        refine RoundIn.mono (show RoundIn (Fence.wide.inRound l') _ _ _ _ _ _ _ _ _ from hR) ?_
        rintro r3 W3 ⟨hS, (⟨rfl, hJ3⟩ | ⟨rfl, hJx3⟩)⟩
        · obtain ⟨c1, c2, c3⟩ := HB.out W3 hS
          obtain ⟨t1, t2, t3, t4, t5⟩ := TAIL.out W3 hS hJ3
          obtain ⟨z2', z3', z4', z5', z6'⟩ := blk5 c3
          have e1 := Boxed.cell c1
          have e2 := Boxed.frozen c1
          have e3 := Boxed.cell t3
          obtain ⟨z2'', z3'', z4'', z5'', z6''⟩ := blk5 t5
          have T1 : Hid (_) := t1
          have T2 : Hid (_) := t2
          have T3 : Hid (Boxed (W3.setCell ⟨w1.heap.size, 0, none⟩ (.int .i64 ((k : Int) + 1))) w1.heap.size 3 (.int .i64 ((k : Int) + 1))) := t3
          have T4 : Hid (_) := t4
          have T5 : Hid (_) := t5
          clear t1 t2 t3 t4 t5 c1 c2 c3 hS hJ3 z2' z3' z4' z6' z2'' z3'' z4'' z6''
          by_cases hcc : (k : Int) + 1 = c
          · have hb : ((k : Int) + 1 == c) = true := by rw [beq_iff_eq]; exact hcc
            have T2' : Hid (J h [] (W3.setCell ⟨w1.heap.size, 0, none⟩ (.int .i64 ((k : Int) + 1)))) := by
              have q := T2.out
              rw [cutK_full (by omega) (by omega)] at q
              exact q
            clear T2 hcc
            gi_wp2
            exact ⟨T1.out, rfl, .inl T2'.out⟩
          · have hb : ((k : Int) + 1 == c) = false := by rw [beq_eq_false_iff_ne]; exact hcc
            have CO' : Hid ((0 : Int) < c → ((k + 1 : Nat) : Int) < c) := fun q => by have := CO.out q; omega
            clear hcc
            gi_wp2
            exact ⟨T1.out, k + 1, ⟨CO'.out, T2.out⟩, hlk2, T3.out, T4.out, T5.out⟩
        · gi_wp2
          exact ⟨FIN.out W3 hS, rfl, .inr hJx3⟩
      · have hux : x ≤ u := by omega
        gi_wp2
        refine RoundIn.mono (show RoundIn (Fence.wide.inRound l') _ _ _ _ _ _ _ _ _ from hR) ?_
        rintro r3 W3 ⟨hS, (⟨rfl, hJ3⟩ | ⟨rfl, hJx3⟩)⟩
        · obtain ⟨c1, c2, c3⟩ := HB.out W3 hS
          obtain ⟨t1, t2, t3, t4, t5⟩ := TAIL.out W3 hS hJ3
          obtain ⟨z2', z3', z4', z5', z6'⟩ := blk5 c3
          have e1 := Boxed.cell c1
          have e2 := Boxed.frozen c1
          have e3 := Boxed.cell t3
          obtain ⟨z2'', z3'', z4'', z5'', z6''⟩ := blk5 t5
          have T1 : Hid (_) := t1
          have T2 : Hid (_) := t2
          have T3 : Hid (Boxed (W3.setCell ⟨w1.heap.size, 0, none⟩ (.int .i64 ((k : Int) + 1))) w1.heap.size 3 (.int .i64 ((k : Int) + 1))) := t3
          have T4 : Hid (_) := t4
          have T5 : Hid (_) := t5
          clear t1 t2 t3 t4 t5 c1 c2 c3 hS hJ3 z2' z3' z4' z6' z2'' z3'' z4'' z6''
          by_cases hcc : (k : Int) + 1 = c
          · have hb : ((k : Int) + 1 == c) = true := by rw [beq_iff_eq]; exact hcc
            have T2' : Hid (J h [] (W3.setCell ⟨w1.heap.size, 0, none⟩ (.int .i64 ((k : Int) + 1)))) := by
              have q := T2.out
              rw [cutK_full (by omega) (by omega)] at q
              exact q
            clear T2 hcc
            gi_wp2
            exact ⟨T1.out, rfl, .inl T2'.out⟩
          · have hb : ((k : Int) + 1 == c) = false := by rw [beq_eq_false_iff_ne]; exact hcc
            have CO' : Hid ((0 : Int) < c → ((k + 1 : Nat) : Int) < c) := fun q => by have := CO.out q; omega
            clear hcc
            gi_wp2
            exact ⟨T1.out, k + 1, ⟨CO'.out, T2.out⟩, hlk2, T3.out, T4.out, T5.out⟩
        · gi_wp2
          exact ⟨FIN.out W3 hS, rfl, .inr hJx3⟩
  case done =>
    rintro h W hh hhW ⟨k, ⟨_, q1⟩, _⟩ hK
    rw [cutK_nil] at q1
    have HQ : Hid (_) := q1
    clear q1
    gi_wp2
    refine ⟨by simp, .inl ⟨_, _, rfl, run_takeDeferred hK, ?_⟩⟩
    refine ⟨_, results_none rfl _ _ _, ⟨_, rfl⟩, h, by omega, by rw [World.putObj_size]; exact hhW, .inl (K2.out h _ _ _ (by omega) HQ.out (Steps.put _ _ _ (fun q => by have q' := q.2; omega)))⟩
  case stop =>
    rintro cd h W hh hhW ⟨rfl, q⟩ hK
    have HQ : Hid (_) := q
    clear q
    gi_wp2
    refine ⟨by simp, .inl ⟨_, _, rfl, run_takeDeferred hK, ?_⟩⟩
    refine ⟨_, results_none rfl _ _ _, ⟨_, rfl⟩, h, by omega, by rw [World.putObj_size]; exact hhW, ?_⟩
    rcases HQ.out with q | q
    · exact .inl (K2.out h _ _ _ (by omega) q (Steps.put _ _ _ (fun q => by have q' := q.2; omega)))
    · exact .inr (K3.out h _ _ (by omega) q (Steps.put _ _ _ (fun q => by have q' := q.2; omega)))
end Go.Proofs.YtnpecjccajebiaaGreatDoor

/- Package expand's Days for any start and rule: the function that it hands back gives them. -/
namespace Go.Proofs.YtnpecjccajebiaaGreatDoor
open Go Go.RowKit Go.Shelf Cal
attribute [local go_sem] Oper.semAt_some

/-- these are the days of a start and a rule -/
def IsDays (f : ByteArray) (e : Int) (ds : List Int) (c u s : Int) (xs : List Int) : Prop :=
  (Well (rd f e ds c u) ∧ 0 ≤ s ∧ s ≤ 73048 ∧ xs = cut c u (cds f.toList s e ds)) ∨ (¬ (Well (rd f e ds c u) ∧ 0 ≤ s ∧ s ≤ 73048) ∧ xs = [])
theorem cut_len (c u : Int) (l : List Int) : (cut c u l).length ≤ l.length := by
  have h : (cutU u l).length ≤ l.length := by
    unfold cutU
    split
    · exact (List.takeWhile_sublist _).length_le
    · exact Nat.le_refl _
  unfold cut
  split
  · exact Nat.le_trans (List.length_take_le' _ _) h
  · exact h
theorem IsDays.len {f : ByteArray} {e : Int} {ds : List Int} {c u s : Int} {xs : List Int} (h : IsDays f e ds c u s xs) : xs.length ≤ 73049 := by
  rcases h with ⟨_, h0, _, rfl⟩ | ⟨_, rfl⟩
  · exact Nat.le_trans (cut_len _ _ _) (From_len h0)
  · simp
theorem IsDays.rise {f : ByteArray} {e : Int} {ds : List Int} {c u s : Int} {xs : List Int} (h : IsDays f e ds c u s xs) : xs.Pairwise (· < ·) := by
  rcases h with ⟨_, _, _, rfl⟩ | ⟨_, rfl⟩
  · exact cut_rise (From_rise _ _)
  · exact List.Pairwise.nil

set_option maxHeartbeats 2000000 in
set_option maxRecDepth 100000 in
theorem cloneI_any (ds : List Int) (sl : Value) (w : World) (hd : Days w sl ds) :
    Calls Tryz.prog 70 #[sl] w fun r w' => ∃ v, r = .returned v ∧ Ow w.heap.size w' v ds ∧ Below w.heap.size w w' := by
  obtain ⟨a, cap, rfl, h20, hcap, hc⟩ := hd
  obtain ⟨i0, hi, hz0, hz1, hz2⟩ := info_parts info_int
  have q22 : ∀ (w : World) (a : Option Addr) (n c n' c' : Nat), (binOp .eql 39 (.slice a n c) (.slice none n' c')).run Tryz.prog w = .ok (.bool a.isNone) w := fun w a n c n' c' => Lib.run_eql_slice_nil w _ _ a n c n' c' Tryz.underlying39
  cases a with
  | none =>
    have h0 : ds = [] := by
      cases ds with
      | nil => rfl
      | cons x r => obtain ⟨b, e, _⟩ := hc 0 (by simp); cases e
    subst h0
    clear hc
    go_enter Tryz.func70, Tryz.ntmps70
    go_wp2
    go_ret
    exact ⟨_, rfl, Ow.nil _ _, Below.refl _ _⟩
  | some ad =>
    have HC : Hid (∀ j v, (ds.map (Value.int .i64))[j]? = some v → (w.alloc (.cells #[] 3)).cell? (ad.add j) = some v) := fun j v hv => by
      rw [List.getElem?_map] at hv
      obtain ⟨d, hd, rfl⟩ := Option.map_eq_some_iff.1 hv
      obtain ⟨hj, rfl⟩ := List.getElem?_eq_some_iff.1 hd
      obtain ⟨b, e, hl, hcc⟩ := hc j hj
      cases e
      rw [Addr.add_lit, Nat.zero_add]
      exact cell_alloc _ hcc
    clear hc
    go_enter Tryz.func70, Tryz.ntmps70
    go_wp2_with (at_builtin; refine wpList_append_own _ rfl _ _ 39 rfl w.heap.size 3 i0 (.int .i64 0) 1 8 Tryz.underlying39 hi hz0 hz1 hz2 rfl (by decide) _ _ _ rfl (World.ownsRow_made w #[] 0 (Nat.le_refl _) (Nat.zero_le _) rfl) ad ds.length cap (ds.map (Value.int .i64)) rfl (by simp) HC.out (fun v hv => by obtain ⟨x, _, rfl⟩ := List.mem_map.1 hv; rfl) (by unfold maxLen; omega) (by omega) (by simp) ?_; intro v' w1 hown hgrow _)
    have OW : Hid (Ow w.heap.size w1 v' ds) := by
      show World.ownsRow _ _ _ _ _ _ _
      simpa using hown
    have HB : Hid (Below w.heap.size w w1) := (below_alloc w (.cells #[] 3)).grown (show (w.alloc (.cells #[] 3)).grownBy w1 (Value.slice (some ⟨w.heap.size, 0, none⟩) 0 0).ownBlock from hgrow) (by simp) (fun k q => (World.ownsRow.lt (World.ownsRow_made (e := 3) (size := 1) w #[] 0 (Nat.le_refl _) (Nat.zero_le _) rfl) k q).1)
    obtain ⟨va, vc, rfl⟩ := ow_form OW.out
    clear hown hgrow HC
    go_wp2
    go_ret
    exact ⟨_, rfl, OW.out, HB.out⟩

/-- Days has handed back an iterator over boxes of its own -/
def Made (f : ByteArray) (e : Int) (ds : List Int) (c u s : Int) (n : Nat) (W : World) (sl : Value) : Prop :=
  Boxed W n 3 (.int .i64 s) ∧ RB W (n + 1) f e sl c u ∧ Ow (n + 2) W sl ds ∧ ds.length ≤ 20
theorem days_any (f : ByteArray) (e : Int) (sl : Value) (ds : List Int) (c u s : Int) (w : World) (hd : Days w sl ds) : Calls Tryz.prog 118 #[.int .i64 s, rv f e sl c u] w fun r w' =>
    r = .returned (.func (.func 161) #[] #[.pointer (some ⟨w.heap.size, 0, none⟩), .pointer (some ⟨w.heap.size + 1, 0, none⟩)]) ∧ Below w.heap.size w w' ∧ w.heap.size + 2 ≤ w'.heap.size ∧ ∃ sl', Made f e ds c u s w.heap.size w' sl' := by
  have hA := below_box2 w (.cells #[.int .i64 s] 3) (.cells #[.string f, .int .i64 e, sl, .int .i64 c, .int .i64 u] 41)
  have b1 : Boxed ((w.alloc (.cells #[.int .i64 s] 3)).alloc (.cells #[.string f, .int .i64 e, sl, .int .i64 c, .int .i64 u] 41)) w.heap.size 3 (.int .i64 s) := block_alloc _ (block_at _ rfl)
  have b2 : RB ((w.alloc (.cells #[.int .i64 s] 3)).alloc (.cells #[.string f, .int .i64 e, sl, .int .i64 c, .int .i64 u] 41)) (w.heap.size + 1) f e sl c u := block_at _ (by simp)
  have hz : ((w.alloc (.cells #[.int .i64 s] 3)).alloc (.cells #[.string f, .int .i64 e, sl, .int .i64 c, .int .i64 u] 41)).heap.size = w.heap.size + 2 := by simp
  have CL := cloneI_any ds sl _ (hd.step hA)
  obtain ⟨a, cap, rfl, h20, _⟩ := hd
  unfold rv
  have HZ : Hid (_) := hz
  generalize hw0 : (w.alloc (.cells #[.int .i64 s] 3)).alloc (.cells #[.string f, .int .i64 e, .slice a ds.length cap, .int .i64 c, .int .i64 u] 41) = w0 at hA b1 b2 HZ CL
  have HC : Hid (_) := CL
  have HA : Hid (_) := hA
  have B1 : Hid (_) := b1
  have B2 : Hid (RB w0 (w.heap.size + 1) f e (.slice a ds.length cap) c u) := b2
  obtain ⟨x0, x1, x2, x3, x4⟩ := blk5 b2
  clear CL hA b1 b2 hz
  go_enter Tryz.func118, Tryz.ntmps118
  go_wp2_with (go_at_call 70; refine Calls.mono HC.out ?_; rintro r w1 ⟨v, rfl, ho, hb⟩; obtain ⟨va, vc, rfl⟩ := ow_form ho; have k1 : RB w1 (w.heap.size + 1) f e (.slice a ds.length cap) c u := (hb.block _ (by rw [HZ.out]; omega)).trans B2.out; have y2 := blk5_frozen k1 2; obtain ⟨y0, y1, y3, y4, y5⟩ := blk5 k1; have K1 : Hid (RB w1 (w.heap.size + 1) f e (.slice a ds.length cap) c u) := k1; have HO : Hid (_) := ho; have HB : Hid (_) := hb; clear k1 ho hb)
  go_ret
  have hs1 := HB.out.size
  rw [HZ.out] at hs1
  refine ⟨rfl, (HA.out.trans (HB.out.mono HA.out.size)).setCell (p := ⟨w.heap.size + 1, 2, none⟩) (by show _ ≤ w.heap.size + 1; omega) _, by rw [set_size]; exact hs1, .slice va ds.length vc, ?_, ?_, ?_, h20⟩
  · exact (Below.heap_setCell w1 ⟨w.heap.size + 1, 2, none⟩ _ w.heap.size (fun e => by have e' : w.heap.size = w.heap.size + 1 := e; omega)).trans ((HB.out.block _ (by rw [HZ.out]; omega)).trans B1.out)
  · exact set_block _ K1.out
  · have := HO.out
    rw [HZ.out] at this
    exact Ow.grown this (grown_set w1 ⟨w.heap.size + 1, 2, none⟩ _) (by show w.heap.size + 1 < _; omega)

set_option maxHeartbeats 1000000 in
theorem none_iter {aa bb : Nat} (hab : bb + 6 ≤ aa) (f : ByteArray) (e : Int) (sl : Value) (c u : Int) (ds : List Int) (s : Int) (hw : ¬ (Well (rd f e ds c u) ∧ 0 ≤ s ∧ s ≤ 73048))
    (Bs Br : Nat) (O : Nat → Prop) (W0 : World) (b1 : Boxed W0 Bs 3 (.int .i64 s)) (b2 : RB W0 Br f e sl c u) :
    Gives aa bb 161 #[.pointer (some ⟨Bs, 0, none⟩), .pointer (some ⟨Br, 0, none⟩)] O (RdC sl ds) [] W0 := by
  intro n l J0 J Jx hna hJ0 h01 hJ hJx hRd0 hRd hY h00
  have h1 : 1 ≤ n := by omega
  obtain ⟨hg, hd⟩ := hRd0 _ h00
  have hA := below_alloc W0 (.cells #[.func (.yield l) #[] #[]] 94)
  have CK : Hid (_) := echeck_no f e sl c u ds s _ (hg.step hA) (hd.step hA) hw
  obtain ⟨ad, cap, rfl, _, _, _⟩ := id hd
  have x1 := (Boxed.alloc b1 (.cells #[.func (.yield l) #[] #[]] 94)).cell
  obtain ⟨x2, x3, x4, x5, x6⟩ := blk5 (block_alloc (.cells #[.func (.yield l) #[] #[]] 94) b2)
  have HA : Hid (_) := hA
  have G0 : Hid (_) := h00
  have K0 : Hid (_) := hJ0
  have K1 : Hid (_) := h01
  clear b1 b2 hA hd hw h00 hJ0 h01 hJ hJx hRd0 hRd hY hg
  refine callsIn_of_wp_marks Tryz.func161 rfl trivial ?_ rfl
  simp only [Tryz.ntmps161, List.size_toArray, List.length_cons, List.length_nil, Nat.reduceAdd, Nat.reduceSub, Array.replicate_succ, Array.replicate_zero, List.push_toArray, List.append_toArray, List.nil_append, List.cons_append]
  unfold rv at CK
  gi_wp2_with (refine ⟨trivial, ?_⟩; gi_at_call 162; refine (callsIn_wide.2 CK.out).mono ?_; rintro r w1 ⟨⟨p, rfl⟩, hb1⟩)
  have hB := below_then HA.out hb1
  exact ⟨_, results_none rfl _ _ _, ⟨_, rfl⟩, w1.heap.size, hB.size, Nat.le_refl _, .inl (K1.out _ (K0.out _ _ G0.out ((Steps.below hB).mono (fun k hk => hk.2))) hB.size)⟩

theorem days_gives {aa bb : Nat} (hab : bb + 6 ≤ aa) {f : ByteArray} {e : Int} {sl : Value} {c u : Int} {ds : List Int} {s : Int} {xs : List Int} (hx : IsDays f e ds c u s xs) (Bs Br : Nat) (O : Nat → Prop) (hO : O Br) (W0 : World)
    (b1 : Boxed W0 Bs 3 (.int .i64 s)) (b2 : RB W0 Br f e sl c u) : Gives aa bb 161 #[.pointer (some ⟨Bs, 0, none⟩), .pointer (some ⟨Br, 0, none⟩)] O (RdC sl ds) xs W0 := by
  rcases hx with ⟨hw, h0, h1, rfl⟩ | ⟨hw, rfl⟩
  · exact days_iter hab f e sl c u ds s hw h0 h1 Bs Br O hO W0 b1 b2
  · exact none_iter hab f e sl c u ds s hw Bs Br O W0 b1 b2

theorem Made.gives {aa bb : Nat} (hab : bb + 6 ≤ aa) {f : ByteArray} {e : Int} {sl : Value} {c u : Int} {ds : List Int} {s : Int} {xs : List Int} {n : Nat} {W : World} (hm : Made f e ds c u s n W sl) (hx : IsDays f e ds c u s xs) (O : Nat → Prop) (hO : O (n + 1)) :
    Gives aa bb 161 #[.pointer (some ⟨n, 0, none⟩), .pointer (some ⟨n + 1, 0, none⟩)] O (RdC sl ds) xs W := days_gives hab hx _ _ O hO W hm.1 hm.2.1
theorem Made.step {f : ByteArray} {e : Int} {sl : Value} {c u : Int} {ds : List Int} {s : Int} {n : Nat} {W W' : World} (hm : Made f e ds c u s n W sl) (hb : Below W.heap.size W W') : Made f e ds c u s n W' sl :=
  ⟨(hb.block _ (Boxed.lt hm.1)).trans hm.1, (hb.block _ (Array.getElem?_eq_some_iff.1 hm.2.1).1).trans hm.2.1, Ow.step hm.2.2.1 hb, hm.2.2.2⟩
/-- the rule's days, as the iterator reads them, under steps that keep what lies behind its boxes -/
theorem Made.days {f : ByteArray} {e : Int} {sl : Value} {c u : Int} {ds : List Int} {s : Int} {n : Nat} {W W' : World} (hm : Made f e ds c u s n W sl) (hk : ∀ k, n + 2 ≤ k → k < W.heap.size → W'.heap[k]? = W.heap[k]?) : Days W' sl ds :=
  ow_days (Ow.steps hm.2.2.1 hk) hm.2.2.2

/-- a row of days whose block lies from lo on, below hi -/
def DaysIn (lo hi : Nat) (W : World) (sl : Value) (ds : List Int) : Prop :=
  ds.length ≤ 20 ∧ ∃ (a : Option Addr) (c : Nat), sl = .slice a ds.length c ∧ ds.length ≤ c ∧ (ds = [] ∨ ∃ (b : Nat) (cs : Array Value) (t : TypeId) (fr : Nat × Nat), a = some ⟨b, 0, none⟩ ∧ lo ≤ b ∧ b < hi ∧ W.heap[b]? = some (.cells cs t fr) ∧ ∀ (j : Nat) (h : j < ds.length), W.cell? ⟨b, j, none⟩ = some (.int .i64 ds[j]))
theorem DaysIn.days {lo hi : Nat} {W : World} {sl : Value} {ds : List Int} (h : DaysIn lo hi W sl ds) : Days W sl ds := by
  obtain ⟨h1, a, c, h2, h3, h4⟩ := h
  refine ⟨a, c, h2, h1, h3, fun j hj => ?_⟩
  rcases h4 with rfl | ⟨b, cs, t, fr, e, _, _, hb, hc⟩
  · exact absurd hj (by simp)
  · exact ⟨b, e, (Array.getElem?_eq_some_iff.1 hb).1, hc j hj⟩
theorem DaysIn.steps {lo hi : Nat} {W W' : World} {sl : Value} {ds : List Int} (h : DaysIn lo hi W sl ds) (hk : ∀ k, lo ≤ k → k < hi → k < W.heap.size → W'.heap[k]? = W.heap[k]?) : DaysIn lo hi W' sl ds := by
  obtain ⟨h1, a, c, h2, h3, h4⟩ := h
  refine ⟨h1, a, c, h2, h3, ?_⟩
  rcases h4 with h4 | ⟨b, cs, t, fr, e, p1, p2, hb, hc⟩
  · exact .inl h4
  · have hk' := hk b p1 p2 (Array.getElem?_eq_some_iff.1 hb).1
    exact .inr ⟨b, cs, t, fr, e, p1, p2, hk'.trans hb, fun j hj => (World.cell?_of_block (a := ⟨b, j, none⟩) hk').trans (hc j hj)⟩
theorem Made.row {f : ByteArray} {e : Int} {sl : Value} {c u : Int} {ds : List Int} {s : Int} {n : Nat} {W : World} (hm : Made f e ds c u s n W sl) : DaysIn (n + 2) W.heap.size W sl ds := by
  obtain ⟨_, _, h, h20⟩ := hm
  rcases h.2 with ⟨rfl, h0⟩ | ⟨g, cap, cur, rfl, hb, hg, hcap, hmax, hsz, htake⟩
  · exact ⟨h20, none, 0, by rw [h0], by omega, .inl (List.length_eq_zero_iff.1 h0)⟩
  · refine ⟨h20, _, cap, rfl, hcap, .inr ⟨g, cur, 3, (0, 0), rfl, hb, (Array.getElem?_eq_some_iff.1 hg).1, hg, fun j hj => ?_⟩⟩
    have := World.ownsRow.cellAt h j (by omega)
    rw [this, List.getElem?_map, List.getElem?_eq_getElem hj]; rfl
end Go.Proofs.YtnpecjccajebiaaGreatDoor
