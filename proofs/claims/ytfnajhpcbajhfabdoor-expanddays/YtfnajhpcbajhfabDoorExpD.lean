/- The days of a start and a rule: the iterator that package expand's days hands back gives just those that a count and an end leave of the candidates; none where one of the two is not well. -/
import Derived.Test.YtfnajhpcbajhfabDoorExpJ
namespace Go.Proofs.YtfnajhpcbajhfabDoor
open Go Go.RowKit Go.Shelf Cal
attribute [local go_sem] Oper.semAt_some

/-- what is left behind k days -/
def cutK (c : Int) (k : Nat) (u : Int) (l : List Int) : List Int := if 0 < c then (cutU u l).take (c - k).toNat else cutU u l
theorem cutK_zero (c u : Int) (l : List Int) : cut c u l = cutK c 0 u l := by unfold cut cutK; simp
theorem cutU_nil (u : Int) : cutU u [] = [] := by unfold cutU; split <;> rfl
theorem cutK_nil (c : Int) (k : Nat) (u : Int) : cutK c k u [] = [] := by unfold cutK; rw [cutU_nil]; split <;> simp
theorem cutK_over {c : Int} {k : Nat} {u x : Int} {r : List Int} (h0 : 0 ≤ u) (h : u < x) : cutK c k u (x :: r) = [] := by
  have : cutU u (x :: r) = [] := by unfold cutU; rw [if_pos h0, List.takeWhile_cons_of_neg (by simp; omega)]
  unfold cutK; rw [this]; split <;> simp
theorem cutK_on {c : Int} {k : Nat} {u x : Int} {r : List Int} (hk : 0 < c → (k : Int) < c) (h : ¬ (0 ≤ u ∧ u < x)) : cutK c k u (x :: r) = x :: cutK c (k + 1) u r := by
  have e1 : cutU u (x :: r) = x :: cutU u r := by
    unfold cutU
    split
    · rw [List.takeWhile_cons_of_pos (by simp; omega)]
    · rfl
  unfold cutK
  rw [e1]
  split
  · rename_i hc
    have := hk hc
    rw [show (c - k).toNat = (c - ((k + 1 : Nat) : Int)).toNat + 1 by omega, List.take_succ_cons]
  · rfl
theorem cutK_full {c : Int} {k : Nat} {u : Int} {r : List Int} (hc : 0 < c) (h : (k : Int) = c) : cutK c k u r = [] := by
  unfold cutK; rw [if_pos hc, show (c - k).toNat = 0 by omega]; rfl
theorem fr_len {p : Int → Bool} : ∀ (n : Nat) (a : Int), (fr p a n).length ≤ n
  | 0, a => by simp [fr]
  | n + 1, a => by
    unfold fr
    have := fr_len (p := p) n (a + 1)
    split
    · simp; omega
    · omega
theorem From_len {p : Int → Bool} {a : Int} (h : 0 ≤ a) : (From p a).length ≤ 73049 := by
  unfold From
  have := fr_len (p := p) (73049 - a).toNat a
  omega

/-- the box of a rule -/
def RB (W : World) (B : Nat) (f : ByteArray) (e : Int) (sl : Value) (c u : Int) : Prop := W.heap[B]? = some (.cells #[.string f, .int .i64 e, sl, .int .i64 c, .int .i64 u] 24 (0, 0))

set_option maxHeartbeats 4000000 in
theorem days_iter {aa bb : Nat} (hab : bb + 6 ≤ aa) (f : ByteArray) (e : Int) (sl : Value) (c u : Int) (ds : List Int) (s : Int) (hw : Well (rd f e ds c u)) (hs0 : 0 ≤ s) (hs1 : s ≤ 73048)
    (Bs Br : Nat) (O : Nat → Prop) (hO2 : O Br) (W0 : World) (b1 : Boxed W0 Bs 3 (.int .i64 s)) (b2 : RB W0 Br f e sl c u) :
    Gives aa bb 33 #[.pointer (some ⟨Bs, 0, none⟩), .pointer (some ⟨Br, 0, none⟩)] O (RdC sl ds) (cut c u (cds f.toList s e ds)) W0 := by
  intro n l J0 J Jx hna hJ0 h01 hJ hJx hRd0 hRd hY h00
  have h1 : 1 ≤ n := by omega
  have hd := (hRd0 _ h00).2
  have b0 : Boxed (W0.alloc (.cells #[.func (.yield l) #[] #[]] 32)) W0.heap.size 32 (.func (.yield l) #[] #[]) := boxed_at _ _ rfl
  have hA := below_alloc W0 (.cells #[.func (.yield l) #[] #[]] 32)
  have CK : Hid (_) := echeck_ok f e sl c u ds s _ (hd.step hA) hw hs0 hs1
  have CA : Hid (∀ W, Days W sl ds → _) := fun W h => candidates_any f e sl c u ds s W h hw hs0 hs1
  obtain ⟨ad, cap, rfl, _, _, _⟩ := id hd
  have B1 : Hid (Boxed W0 Bs 3 (.int .i64 s)) := b1
  have B2 : Hid (RB W0 Br f e (.slice ad ds.length cap) c u) := b2
  have HA : Hid (_) := hA
  have HD : Hid (Days W0 (.slice ad ds.length cap) ds) := hd
  have x1 := (Boxed.alloc b1 (.cells #[.func (.yield l) #[] #[]] 32)).cell
  obtain ⟨x2, x3, x4, x5, x6⟩ := blk5 (block_alloc (.cells #[.func (.yield l) #[] #[]] 32) b2)
  have B0 : Hid (Boxed (W0.alloc (.cells #[.func (.yield l) #[] #[]] 32)) W0.heap.size 32 (.func (.yield l) #[] #[])) := b0
  have HW : Hid (_) := hw
  have G0 : Hid (_) := h00
  have K0 : Hid (_) := hJ0
  have K1 : Hid (_) := h01
  have K2 : Hid (_) := hJ
  have K3 : Hid (_) := hJx
  have K4 : Hid (_) := hRd
  have K5 : Hid (_) := hRd0
  have HY : Hid (_) := hY
  clear b1 b2 hA hd b0 hw h00 hJ0 h01 hJ hJx hRd0 hRd hY
  refine callsIn_of_wp_marks Tryd.func33 rfl trivial ?_ rfl
  simp only [Tryd.ntmps33, List.size_toArray, List.length_cons, List.length_nil, Nat.reduceAdd, Nat.reduceSub, Array.replicate_succ, Array.replicate_zero, List.push_toArray, List.append_toArray, List.nil_append, List.cons_append]
  unfold rv at CK CA
  gi_wp2_with (first
    | (refine ⟨trivial, ?_⟩; gi_at_call 20; refine (callsIn_wide.2 CK.out).mono ?_; rintro r w1 ⟨rfl, hb1⟩; have HB1 : Hid (Below W0.heap.size W0 w1) := below_then HA.out hb1; have y1 := (Boxed.alloc (show Boxed w1 Bs 3 (.int .i64 s) from (HB1.out.block _ (Boxed.lt B1.out)).trans B1.out) (.cells #[.int .i64 0] 3)).cell; obtain ⟨y2, y3, y4, y5, y6⟩ := blk5 (block_alloc (.cells #[.int .i64 0] 3) ((HB1.out.block _ (Array.getElem?_eq_some_iff.1 B2.out).1).trans B2.out)); have B0' : Hid (Boxed w1 W0.heap.size 32 (.func (.yield l) #[] #[])) := (hb1.block _ (Boxed.lt B0.out)).trans B0.out; clear x1 x2 x3 x4 x5 x6 B0)
    | (refine ⟨trivial, ?_⟩; gi_at_call 34; refine (callsIn_wide.2 (CA.out _ (HD.out.step (below_then HB1.out (below_alloc _ _))))).mono ?_; rintro r w3 ⟨g, lb, rfl, hC⟩))
  obtain ⟨hbC, hen, hgiv⟩ := hC
  have hsA := hb1.size
  rw [World.size_alloc] at hsA
  have hs2 : (w1.alloc (.cells #[.int .i64 0] 3)).heap.size = w1.heap.size + 1 := World.size_alloc _ _
  have hs3 := hbC.size
  have hB3 : Below W0.heap.size W0 w3 := below_then HB1.out (below_then (below_alloc _ _) hbC)
  have bT0 : Boxed w3 w1.heap.size 3 (.int .i64 0) := (hbC.block _ (by omega)).trans (block_at _ rfl)
  have bY0 : Boxed w3 W0.heap.size 32 (.func (.yield l) #[] #[]) := (hbC.block _ (by omega)).trans (block_alloc _ B0'.out)
  have bR0 : RB w3 Br f e (.slice ad ds.length cap) c u := (hB3.block _ (Array.getElem?_eq_some_iff.1 B2.out).1).trans B2.out
  have hBr : Br < W0.heap.size := (Array.getElem?_eq_some_iff.1 B2.out).1
  generalize (w1.alloc (.cells #[.int .i64 0] 3)).heap.size = z2 at hs2 hs3 hgiv hbC
  have HB3 : Hid (_) := hB3
  have BT0 : Hid (_) := bT0
  have BY0 : Hid (_) := bY0
  have BR0 : Hid (_) := bR0
  have HG : Hid (_) := hgiv
  have hcw : 0 ≤ c ∧ -1 ≤ u ∧ u ≤ 73048 := ⟨HW.out.co.1, HW.out.un.1, HW.out.un.2⟩
  obtain ⟨hc0, hu0, hu1⟩ := hcw
  have hlen : (cds f.toList s e ds).length ≤ 73049 := From_len hs0
  clear hB3 bT0 bY0 bR0 hgiv hbC hb1 HB1 HA CK CA HD B0' y1 y2 y3 y4 y5 y6 B1 B2 HW
  generalize cds f.toList s e ds = cs at hlen HG K1
  refine range_gives (aa := bb + 4) (bb := bb + 2) (by omega) rfl hen rfl (fun W hW => HG.out _ _ W (by omega) hW) (fun k hk => hk.2)
    (fun h r W => ∃ k : Nat, Hid ((0 < c → (k : Int) < c) ∧ J h (cutK c k u r) W) ∧ k + r.length ≤ 73049 ∧ Hid (Boxed W w1.heap.size 3 (.int .i64 k)) ∧ Hid (Boxed W W0.heap.size 32 (.func (.yield l) #[] #[])) ∧ Hid (RB W Br f e (.slice ad ds.length cap) c u))
    (fun cd h W => cd = .ret ∧ (J h [] W ∨ Jx h W))
    ?i0 ?i ?ix ?r0 ?r
    (fun x => { tmps := #[.func (.yield l) #[] #[], .pointer (some ⟨Bs, 0, none⟩), .pointer (some ⟨Br, 0, none⟩), .pointer (some ⟨W0.heap.size, 0, none⟩), .pointer (some ⟨w1.heap.size, 0, none⟩), .int .i64 x, .int .i64 s, .agg #[.string f, .int .i64 e, .slice ad ds.length cap, .int .i64 c, .int .i64 u], .nilIface, .bool false, .int .i64 s, .agg #[.string f, .int .i64 e, .slice ad ds.length cap, .int .i64 c, .int .i64 u], .func (.func g) #[] lb, .int .i64 x, undef, undef, undef, undef, undef, undef, undef, undef, undef, undef, undef, undef, undef, undef, undef, undef, undef, undef, undef], defers := [] })
    ?assign ?body ?done ?stop
  case i0 =>
    intro W hS hsz
    have hj0 : J0 W := K0.out _ _ G0.out ((Steps.below HB3.out).mono (fun k hk => hk.2) |>.trans (hS.mono (fun k hk => ⟨fun q => by have := hk.2; omega, by have := hk.2; omega⟩)))
    refine ⟨0, ⟨fun h => by omega, ?_⟩, by omega, hS.box BT0.out ⟨fun q => by omega, by omega⟩, hS.box BY0.out ⟨fun q => by omega, by omega⟩, hS.obj BR0.out ⟨fun q => by omega, by omega⟩⟩
    rw [← cutK_zero]
    exact K1.out W hj0 (by omega)
  case i =>
    rintro h r W W' hh ⟨k, ⟨q0, q1⟩, q2, q3, q4, q5⟩ hS
    exact ⟨k, ⟨q0, K2.out h _ W W' (by omega) q1 (hS.mono (fun k hk => ⟨fun q => by rcases hk.2 with p | p <;> omega, by rcases hk.2 with p | p <;> omega⟩))⟩, q2, hS.box q3.out ⟨fun q => by omega, .inl (by omega)⟩, hS.box q4.out ⟨fun q => by omega, .inl (by omega)⟩, hS.obj q5.out ⟨fun q => by omega, .inl (by omega)⟩⟩
  case ix =>
    rintro cd h W W' hh ⟨rfl, q⟩ hS
    have hS' : Steps (itK O W0.heap.size h) W W' := hS.mono (fun k hk => ⟨fun q => by rcases hk.2 with p | p <;> omega, by rcases hk.2 with p | p <;> omega⟩)
    rcases q with q | q
    · exact ⟨rfl, .inl (K2.out h _ W W' (by omega) q hS')⟩
    · exact ⟨rfl, .inr (K3.out h W W' (by omega) q hS')⟩
  case r0 =>
    intro W hS
    exact K5.out W (K0.out _ _ G0.out ((Steps.below HB3.out).mono (fun k hk => hk.2) |>.trans (hS.mono (fun k hk => ⟨fun q => by have := hk.2; omega, by have := hk.2; omega⟩))))
  case r =>
    rintro h r W ⟨k, ⟨_, q1⟩, _⟩
    exact K4.out h _ W q1
  case assign =>
    intro l' m x W K hK
    gi_wp2
    exact hK
  case body =>
    rintro l' m h x r W hm hh hhW ⟨k, hk, hlk, bT, bY, bR⟩
    have h1m : 1 ≤ m := by omega
    obtain ⟨k2, k3, k4, k5, k6⟩ := blk5 bR.out
    have kY := Boxed.cell bY.out
    have hlk' : k + r.length + 1 ≤ 73049 := by rw [List.length_cons] at hlk; omega
    clear k2 k3 k4 k5
    by_cases hov : 0 ≤ u ∧ u < x
    · have hj := hk.out.2
      rw [cutK_over hov.1 hov.2] at hj
      have HJ : Hid (_) := hj
      obtain ⟨o1, o2⟩ := hov
      clear hj hk bT bY bR
      gi_wp2
      exact ⟨Steps.refl _ _, rfl, .inl HJ.out⟩
    · have hj := hk.out.2
      rw [cutK_on hk.out.1 hov] at hj
      obtain ⟨fn, tmps, assign, body, hy, hR⟩ := HY.out (m - 1) h x _ W (by omega) (by omega) hhW hj
      have CO : Hid ((0 : Int) < c → (k : Int) < c) := hk.out.1
      have fin : ∀ W3, Steps (roK O W0.heap.size h) W W3 → Steps (roK (fun k => z2 ≤ k ∧ k < w3.heap.size) w3.heap.size h) W W3 := fun W3 hS => hS.mono (fun k hk => by
        rcases hk with p | p
        · exact .inr (by omega)
        · exact .inr (by omega))
      have FIN : Hid (_) := fin
      have hlk2 : k + 1 + r.length ≤ 73049 := by omega
      clear hj hk fin hlk hlk'
      have hback : ∀ W3 : World, Steps (roK O W0.heap.size h) W W3 → Boxed W3 w1.heap.size 3 (.int .i64 k) ∧ Boxed W3 W0.heap.size 32 (.func (.yield l) #[] #[]) ∧ RB W3 Br f e (.slice ad ds.length cap) c u := fun W3 hS =>
        ⟨hS.box bT.out (.inr (by omega)), hS.box bY.out (.inr (by omega)), hS.obj bR.out (.inl hO2)⟩
      have HB : Hid (_) := hback
      clear hback
      have tail : ∀ W3 : World, Steps (roK O W0.heap.size h) W W3 → J h (cutK c (k + 1) u r) W3 → Steps (roK (fun k => z2 ≤ k ∧ k < w3.heap.size) w3.heap.size h) W (W3.setCell ⟨w1.heap.size, 0, none⟩ (.int .i64 ((k : Int) + 1))) ∧ J h (cutK c (k + 1) u r) (W3.setCell ⟨w1.heap.size, 0, none⟩ (.int .i64 ((k : Int) + 1))) ∧
          Boxed (W3.setCell ⟨w1.heap.size, 0, none⟩ (.int .i64 ((k : Int) + 1))) w1.heap.size 3 (.int .i64 ((k : Int) + 1)) ∧ Boxed (W3.setCell ⟨w1.heap.size, 0, none⟩ (.int .i64 ((k : Int) + 1))) W0.heap.size 32 (.func (.yield l) #[] #[]) ∧ RB (W3.setCell ⟨w1.heap.size, 0, none⟩ (.int .i64 ((k : Int) + 1))) Br f e (.slice ad ds.length cap) c u := fun W3 hS hJ3 => by
        obtain ⟨c1, c2, c3⟩ := HB.out W3 hS
        refine ⟨(FIN.out W3 hS).trans (Steps.set _ _ _ (fun q => ?_)), K2.out h _ _ _ (by omega) hJ3 (Steps.set _ _ _ (fun q => ?_)), Boxed.set _ c1, Boxed.other c2 (by omega) _, (Below.heap_setCell _ _ _ _ (fun e => by have e' : Br = w1.heap.size := e; omega)).trans c3⟩
        · have q' : (z2 ≤ w1.heap.size ∧ w1.heap.size < w3.heap.size) ∨ (w3.heap.size ≤ w1.heap.size ∧ w1.heap.size < h) := q
          omega
        · have q' : w1.heap.size < W0.heap.size ∨ h ≤ w1.heap.size := q.2
          omega
      have TAIL : Hid (_) := tail
      clear tail
      rcases Int.lt_or_le u 0 with hu | hu
      · gi_wp2
        refine RoundIn.mono (show RoundIn (Fence.wide.inRound l') _ _ _ _ _ _ _ _ _ from hR) ?_
        rintro r3 W3 ⟨hS, (⟨rfl, hJ3⟩ | ⟨rfl, hJx3⟩)⟩
        · obtain ⟨c1, c2, c3⟩ := HB.out W3 hS
          obtain ⟨t1, t2, t3, t4, t5⟩ := TAIL.out W3 hS hJ3
          obtain ⟨z2', z3', z4', z5', z6'⟩ := blk5 c3
          have e1 := Boxed.cell c1
          have e2 := Boxed.frozen c1
          have e3 := Boxed.cell t3
          obtain ⟨z2'', z3'', z4'', z5'', z6''⟩ := blk5 t5
          have T1 : Hid (_) := t1
          have T2 : Hid (_) := t2
          have T3 : Hid (Boxed (W3.setCell ⟨w1.heap.size, 0, none⟩ (.int .i64 ((k : Int) + 1))) w1.heap.size 3 (.int .i64 ((k : Int) + 1))) := t3
          have T4 : Hid (_) := t4
          have T5 : Hid (_) := t5
          clear t1 t2 t3 t4 t5 c1 c2 c3 hS hJ3 z2' z3' z4' z6' z2'' z3'' z4'' z6''
          by_cases hcc : (k : Int) + 1 = c
          · have hb : ((k : Int) + 1 == c) = true := by rw [beq_iff_eq]; exact hcc
            have T2' : Hid (J h [] (W3.setCell ⟨w1.heap.size, 0, none⟩ (.int .i64 ((k : Int) + 1)))) := by
              have q := T2.out
              rw [cutK_full (by omega) (by omega)] at q
              exact q
            clear T2 hcc
            gi_wp2
            exact ⟨T1.out, rfl, .inl T2'.out⟩
          · have hb : ((k : Int) + 1 == c) = false := by rw [beq_eq_false_iff_ne]; exact hcc
            have CO' : Hid ((0 : Int) < c → ((k + 1 : Nat) : Int) < c) := fun q => by have := CO.out q; omega
            clear hcc
            gi_wp2
            exact ⟨T1.out, k + 1, ⟨CO'.out, T2.out⟩, hlk2, T3.out, T4.out, T5.out⟩
        · gi_wp2
          exact ⟨FIN.out W3 hS, rfl, .inr hJx3⟩
      · have hux : x ≤ u := by omega
        gi_wp2
        refine RoundIn.mono (show RoundIn (Fence.wide.inRound l') _ _ _ _ _ _ _ _ _ from hR) ?_
        rintro r3 W3 ⟨hS, (⟨rfl, hJ3⟩ | ⟨rfl, hJx3⟩)⟩
        · obtain ⟨c1, c2, c3⟩ := HB.out W3 hS
          obtain ⟨t1, t2, t3, t4, t5⟩ := TAIL.out W3 hS hJ3
          obtain ⟨z2', z3', z4', z5', z6'⟩ := blk5 c3
          have e1 := Boxed.cell c1
          have e2 := Boxed.frozen c1
          have e3 := Boxed.cell t3
          obtain ⟨z2'', z3'', z4'', z5'', z6''⟩ := blk5 t5
          have T1 : Hid (_) := t1
          have T2 : Hid (_) := t2
          have T3 : Hid (Boxed (W3.setCell ⟨w1.heap.size, 0, none⟩ (.int .i64 ((k : Int) + 1))) w1.heap.size 3 (.int .i64 ((k : Int) + 1))) := t3
          have T4 : Hid (_) := t4
          have T5 : Hid (_) := t5
          clear t1 t2 t3 t4 t5 c1 c2 c3 hS hJ3 z2' z3' z4' z6' z2'' z3'' z4'' z6''
          by_cases hcc : (k : Int) + 1 = c
          · have hb : ((k : Int) + 1 == c) = true := by rw [beq_iff_eq]; exact hcc
            have T2' : Hid (J h [] (W3.setCell ⟨w1.heap.size, 0, none⟩ (.int .i64 ((k : Int) + 1)))) := by
              have q := T2.out
              rw [cutK_full (by omega) (by omega)] at q
              exact q
            clear T2 hcc
            gi_wp2
            exact ⟨T1.out, rfl, .inl T2'.out⟩
          · have hb : ((k : Int) + 1 == c) = false := by rw [beq_eq_false_iff_ne]; exact hcc
            have CO' : Hid ((0 : Int) < c → ((k + 1 : Nat) : Int) < c) := fun q => by have := CO.out q; omega
            clear hcc
            gi_wp2
            exact ⟨T1.out, k + 1, ⟨CO'.out, T2.out⟩, hlk2, T3.out, T4.out, T5.out⟩
        · gi_wp2
          exact ⟨FIN.out W3 hS, rfl, .inr hJx3⟩
  case done =>
    rintro h W hh hhW ⟨k, ⟨_, q1⟩, _⟩ hK
    rw [cutK_nil] at q1
    have HQ : Hid (_) := q1
    clear q1
    gi_wp2
    refine ⟨by simp, .inl ⟨_, _, rfl, run_takeDeferred hK, ?_⟩⟩
    refine ⟨_, results_none rfl _ _ _, ⟨_, rfl⟩, h, by omega, by rw [World.putObj_size]; exact hhW, .inl (K2.out h _ _ _ (by omega) HQ.out (Steps.put _ _ _ (fun q => by have q' := q.2; omega)))⟩
  case stop =>
    rintro cd h W hh hhW ⟨rfl, q⟩ hK
    have HQ : Hid (_) := q
    clear q
    gi_wp2
    refine ⟨by simp, .inl ⟨_, _, rfl, run_takeDeferred hK, ?_⟩⟩
    refine ⟨_, results_none rfl _ _ _, ⟨_, rfl⟩, h, by omega, by rw [World.putObj_size]; exact hhW, ?_⟩
    rcases HQ.out with q | q
    · exact .inl (K2.out h _ _ _ (by omega) q (Steps.put _ _ _ (fun q => by have q' := q.2; omega)))
    · exact .inr (K3.out h _ _ (by omega) q (Steps.put _ _ _ (fun q => by have q' := q.2; omega)))
end Go.Proofs.YtfnajhpcbajhfabDoor
