/- Package diff's changesOf: its iterator walked. -/
import Derived.Test.YtjhlbkjcchejjaaGreatDoorYaZ
namespace Go.Proofs.YtjhlbkjcchejjaaGreatDoor
open Go Go.RowKit Go.Shelf Cal
attribute [local go_sem] Oper.semAt_some

set_option maxHeartbeats 4000000 in
set_option maxRecDepth 100000 in
theorem changes_iter (n l Bl Bi Ba Bb : Nat) (la ba na : Nat) (ma : Option Nat) (X : List EV) (lb bb nb : Nat) (mb : Option Nat) (Y : List EV) (id : ByteArray) (hid : id.size ≤ 1000) (s : Nat → Addr) (w0 : World) (g : GlobD s w0) (hX : BookAt la w0 ba ma na X) (hY : BookAt lb w0 bb mb nb Y) (J : List DC → World → Prop) (o0 : List DC) (hn : 12 ≤ n)
    (hJb : ∀ o W, J o W → Below w0.heap.size w0 W)
    (hJs : ∀ o W W', J o W → Below W.heap.size W W' → J o W')
    (hJn : ∀ o W, J o W → (∀ b z k, W.cell? ⟨b, 0, none⟩ = some (.int k z) → b ≠ Bl ∧ b ≠ l) ∧ Bl < W.heap.size ∧ l < W.heap.size)
    (hYd : ∀ o k W, k < 7 → o.length ≤ o0.length + 6 → J o W → YieldAt Fence.wide (n - 1) Tryz.prog l #[(⟨id, k, evOf id X, evOf id Y⟩ : DC).v] W fun e W' => e = .returned (.bool true) ∧ J (o ++ [⟨id, k, evOf id X, evOf id Y⟩]) W' ∧ RKeep Bl l W W')
    (W : World) (h0 : J o0 W) (hBi : Boxed W Bi 9 (.string id)) (hBa : Boxed W Ba 44 (.pointer (some ⟨ba, 0, none⟩))) (hBb : Boxed W Bb 44 (.pointer (some ⟨bb, 0, none⟩))) (hne : Bi ≠ Bl ∧ Bi ≠ l) :
    CallsIn Fence.wide n Tryz.prog 93 #[.func (.yield l) #[] #[], .pointer (some ⟨Ba, 0, none⟩), .pointer (some ⟨Bi, 0, none⟩), .pointer (some ⟨Bb, 0, none⟩)] W fun e W' => (∃ v, e = .returned v) ∧ J (o0 ++ dl id (evOf id X) (evOf id Y)) W' := by
  classical
  have h1 : 1 ≤ n := by omega
  have hbW := hJb _ _ h0
  have GA : Hid (Calls _ _ _ _ _) := get_O la ba na ma X id hid W (hX.step hbW)
  have GB : Hid (∀ W', Below W.heap.size W W' → Calls Tryz.prog 94 #[.pointer (some ⟨bb, 0, none⟩), .string id] W' fun r w' => ∃ E sl skv mvv, r = .returned (.tuple #[ev E sl skv mvv, .bool (evOf id Y).isSome]) ∧ Ls w' E sl skv mvv ∧ ((evOf id Y = some E) ∨ (evOf id Y = none ∧ E = zE)) ∧ Below W'.heap.size W' w') := fun W' hW' => get_O lb bb nb mb Y id hid W' (hY.step (below_then hbW hW'))
  have HEX : Hid (∀ E, evOf id X = some E → EW E) := fun E h => hX.rises.2 E (evOf_some h).1
  have HEY : Hid (∀ E, evOf id Y = some E → EW E) := fun E h => hY.rises.2 E (evOf_some h).1
  have TX : Hid (∀ (p : Option EV) (E : EV) (sl skv mvv : Value) (k : Nat) (W' : World), (∀ E, p = some E → EW E) → (p = some E ∨ (p = none ∧ E = zE)) → (p = none → k = 6) → k < 7 → Below w0.heap.size w0 W' → Ls W' E sl skv mvv → Calls Tryz.prog 95 #[ev E sl skv mvv, .string (fieldB k)] W' fun r w' => r = .returned (.string (bs (oT k p))) ∧ Below W'.heap.size W' w') := fun p E sl skv mvv k W' hE hp h6 hk hW' hL => by
    rcases hp with rfl | ⟨rfl, rfl⟩
    · exact textOf_any E sl skv mvv k hk s W' (g.step hW').gk (g.step hW').gr hL (hE E rfl)
    · rw [h6 rfl]
      exact textOf_no sl skv mvv s W' (g.step hW').gk hL
  have HDL : Hid (dl id (evOf id X) (evOf id Y) = ((kl (evOf id X) (evOf id Y)).filter fun k => decide (oT k (evOf id X) ≠ oT k (evOf id Y))).map fun k => ⟨id, k, evOf id X, evOf id Y⟩) := dl_kl _ _
  have HJB : Hid (_) := hJb
  have HJS : Hid (_) := hJs
  have HJN : Hid (_) := hJn
  have HYD : Hid (_) := hYd
  have H0 : Hid (J o0 W) := h0
  have HBI : Hid (Boxed W Bi 9 (.string id)) := hBi
  have HBB : Hid (Boxed W Bb 44 (.pointer (some ⟨bb, 0, none⟩))) := hBb
  have ci := hBi.cell
  have ca := hBa.cell
  have cb := hBb.cell
  clear hJb hJs hJn hYd h0 g hX hY hbW
  generalize evOf id X = p at GA HEX HDL HYD
  generalize evOf id Y = q at GB HEY HDL HYD
  refine callsIn_of_wp Tryz.func93 rfl trivial ?_ rfl
  simp only [Tryz.ntmps93, List.size_toArray, List.length_cons, List.length_nil, Nat.reduceAdd, Nat.reduceSub, Array.replicate_succ, Array.replicate_zero, List.push_toArray, List.append_toArray, List.nil_append, List.cons_append]
  gi_upto_region 1 with (refine ⟨trivial, ?_⟩; gi_at_call 94; refine (callsIn_wide.2 GA.out).mono ?_; rintro r w1 ⟨E1, sl1, sk1, mv1, rfl, hL1, hp1, hb1⟩; have HL1 : Hid (Ls w1 E1 sl1 sk1 mv1) := hL1; have HP1 : Hid (p = some E1 ∨ (p = none ∧ E1 = zE)) := hp1; obtain ⟨r1, rc1, rfl, _⟩ := hL1.d; obtain ⟨s1, sc1, rfl, _⟩ := hL1.s; obtain ⟨m1, mc1, rfl, _⟩ := hL1.m; clear hp1 hL1; unfold ev; dsimp only)
  have K2 : Hid (Below W.heap.size W (w1.alloc (.cells #[.string E1.id, .string E1.ti, .int .i64 E1.st, .int .i64 E1.lg, .string E1.f, .int .i64 E1.e, .slice r1 E1.ds.length rc1, .int .i64 E1.c, .int .i64 E1.u, .slice s1 E1.sk.length sc1, .slice m1 E1.mv.length mc1] 27))) := below_then hb1 (below_alloc _ _)
  have KE1 : Hid (((w1.alloc (.cells #[.string E1.id, .string E1.ti, .int .i64 E1.st, .int .i64 E1.lg, .string E1.f, .int .i64 E1.e, .slice r1 E1.ds.length rc1, .int .i64 E1.c, .int .i64 E1.u, .slice s1 E1.sk.length sc1, .slice m1 E1.mv.length mc1] 27))).heap[w1.heap.size]? = some (.cells #[.string E1.id, .string E1.ti, .int .i64 E1.st, .int .i64 E1.lg, .string E1.f, .int .i64 E1.e, .slice r1 E1.ds.length rc1, .int .i64 E1.c, .int .i64 E1.u, .slice s1 E1.sk.length sc1, .slice m1 E1.mv.length mc1] 27 (0, 0))) := block_at _ rfl
  have HL2 : Hid (Ls (w1.alloc (.cells #[.string E1.id, .string E1.ti, .int .i64 E1.st, .int .i64 E1.lg, .string E1.f, .int .i64 E1.e, .slice r1 E1.ds.length rc1, .int .i64 E1.c, .int .i64 E1.u, .slice s1 E1.sk.length sc1, .slice m1 E1.mv.length mc1] 27)) E1 (.slice r1 E1.ds.length rc1) (.slice s1 E1.sk.length sc1) (.slice m1 E1.mv.length mc1)) := HL1.out.step (below_alloc _ _)
  have GB2 : Hid (Calls _ _ _ _ _) := GB.out _ K2.out
  have HZ1 : Hid (W.heap.size ≤ w1.heap.size) := hb1.size
  clear hb1 HL1 GA GB ci ca cb
  generalize (w1.alloc (.cells #[.string E1.id, .string E1.ti, .int .i64 E1.st, .int .i64 E1.lg, .string E1.f, .int .i64 E1.e, .slice r1 E1.ds.length rc1, .int .i64 E1.c, .int .i64 E1.u, .slice s1 E1.sk.length sc1, .slice m1 E1.mv.length mc1] 27)) = w2 at K2 KE1 HL2 GB2 ⊢
  generalize w1.heap.size = be1 at KE1 HZ1 ⊢
  have ci := cell_step (Boxed.cell HBI.out) K2.out
  have cb := cell_step (Boxed.cell HBB.out) K2.out
  gi_upto_region 2 with (refine ⟨trivial, ?_⟩; gi_at_call 94; refine (callsIn_wide.2 GB2.out).mono ?_; rintro r w3 ⟨E2, sl2, sk2, mv2, rfl, hL2, hp2, hb2⟩; have HL3 : Hid (Ls w3 E2 sl2 sk2 mv2) := hL2; have HP2 : Hid (q = some E2 ∨ (q = none ∧ E2 = zE)) := hp2; obtain ⟨r2, rc2, rfl, _⟩ := hL2.d; obtain ⟨s2, sc2, rfl, _⟩ := hL2.s; obtain ⟨m2, mc2, rfl, _⟩ := hL2.m; clear hp2 hL2; unfold ev; dsimp only)
  have K4' : Below w2.heap.size w2 (w3.alloc (.cells #[.string E2.id, .string E2.ti, .int .i64 E2.st, .int .i64 E2.lg, .string E2.f, .int .i64 E2.e, .slice r2 E2.ds.length rc2, .int .i64 E2.c, .int .i64 E2.u, .slice s2 E2.sk.length sc2, .slice m2 E2.mv.length mc2] 27)) := below_then hb2 (below_alloc _ _)
  have K4 : Hid (Below W.heap.size W (w3.alloc (.cells #[.string E2.id, .string E2.ti, .int .i64 E2.st, .int .i64 E2.lg, .string E2.f, .int .i64 E2.e, .slice r2 E2.ds.length rc2, .int .i64 E2.c, .int .i64 E2.u, .slice s2 E2.sk.length sc2, .slice m2 E2.mv.length mc2] 27))) := below_then K2.out K4'
  have KE2 : Hid (((w3.alloc (.cells #[.string E2.id, .string E2.ti, .int .i64 E2.st, .int .i64 E2.lg, .string E2.f, .int .i64 E2.e, .slice r2 E2.ds.length rc2, .int .i64 E2.c, .int .i64 E2.u, .slice s2 E2.sk.length sc2, .slice m2 E2.mv.length mc2] 27))).heap[w3.heap.size]? = some (.cells #[.string E2.id, .string E2.ti, .int .i64 E2.st, .int .i64 E2.lg, .string E2.f, .int .i64 E2.e, .slice r2 E2.ds.length rc2, .int .i64 E2.c, .int .i64 E2.u, .slice s2 E2.sk.length sc2, .slice m2 E2.mv.length mc2] 27 (0, 0))) := block_at _ rfl
  have KE14 : Hid (((w3.alloc (.cells #[.string E2.id, .string E2.ti, .int .i64 E2.st, .int .i64 E2.lg, .string E2.f, .int .i64 E2.e, .slice r2 E2.ds.length rc2, .int .i64 E2.c, .int .i64 E2.u, .slice s2 E2.sk.length sc2, .slice m2 E2.mv.length mc2] 27))).heap[be1]? = some (.cells #[.string E1.id, .string E1.ti, .int .i64 E1.st, .int .i64 E1.lg, .string E1.f, .int .i64 E1.e, .slice r1 E1.ds.length rc1, .int .i64 E1.c, .int .i64 E1.u, .slice s1 E1.sk.length sc1, .slice m1 E1.mv.length mc1] 27 (0, 0))) := (K4'.block _ (Array.getElem?_eq_some_iff.1 KE1.out).1).trans KE1.out
  have HL4 : Hid (Ls (w3.alloc (.cells #[.string E2.id, .string E2.ti, .int .i64 E2.st, .int .i64 E2.lg, .string E2.f, .int .i64 E2.e, .slice r2 E2.ds.length rc2, .int .i64 E2.c, .int .i64 E2.u, .slice s2 E2.sk.length sc2, .slice m2 E2.mv.length mc2] 27)) E2 (.slice r2 E2.ds.length rc2) (.slice s2 E2.sk.length sc2) (.slice m2 E2.mv.length mc2)) := HL3.out.step (below_alloc _ _)
  have HL14 : Hid (Ls (w3.alloc (.cells #[.string E2.id, .string E2.ti, .int .i64 E2.st, .int .i64 E2.lg, .string E2.f, .int .i64 E2.e, .slice r2 E2.ds.length rc2, .int .i64 E2.c, .int .i64 E2.u, .slice s2 E2.sk.length sc2, .slice m2 E2.mv.length mc2] 27)) E1 (.slice r1 E1.ds.length rc1) (.slice s1 E1.sk.length sc1) (.slice m1 E1.mv.length mc1)) := HL2.out.step K4'
  have HZ2 : Hid (W.heap.size ≤ w3.heap.size) := Nat.le_trans K2.out.size hb2.size
  clear hb2 HL3 HL2 GB2 ci cb K2 KE1 K4'
  generalize (w3.alloc (.cells #[.string E2.id, .string E2.ti, .int .i64 E2.st, .int .i64 E2.lg, .string E2.f, .int .i64 E2.e, .slice r2 E2.ds.length rc2, .int .i64 E2.c, .int .i64 E2.u, .slice s2 E2.sk.length sc2, .slice m2 E2.mv.length mc2] 27)) = w4 at K4 KE2 KE14 HL4 HL14 ⊢
  generalize w3.heap.size = be2 at KE2 HZ2 ⊢
  have FL : Hid (∀ W, _) := fun W => fields_any W
  have HKL : Hid ((p.isSome = true ∧ q.isSome = true ∧ kl p q = [0, 1, 2, 3, 4, 5]) ∨ (¬ (p.isSome = true ∧ q.isSome = true) ∧ kl p q = [6])) := by
    match p, q with
    | some F, some G => exact .inl ⟨rfl, rfl, rfl⟩
    | some F, none => exact .inr ⟨(fun z => by cases z.2), rfl⟩
    | none, some G => exact .inr ⟨(fun z => by cases z.1), rfl⟩
    | none, none => exact .inr ⟨(fun z => by cases z.1), rfl⟩
  gi_upto_region 3 with (refine ⟨trivial, ?_⟩; gi_at_call 13; refine (callsIn_wide.2 (FL.out _)).mono ?_; rintro r w5 ⟨rfl, rfl⟩)
  obtain ⟨hBlW, hlW⟩ := (HJN.out o0 W H0.out).2
  generalize hbp : p.isSome = bp at HKL ⊢
  generalize hbq : q.isSome = bq at HKL ⊢
  have HBP : Hid (p.isSome = bp) := hbp
  have HBQ : Hid (q.isSome = bq) := hbq
  clear hbp hbq
  have PRE : Hid (∀ (ks : List Nat) (nf : Nat) (fo : Array Value) (w6 : World), w4.heap.size ≤ nf → Below w4.heap.size w4 w6 → w6.heap[nf]? = some (.cells fo 9 (0, 0)) → J o0 w6 ∧ IO w6 be1 be2 nf Bi #[.string E1.id, .string E1.ti, .int .i64 E1.st, .int .i64 E1.lg, .string E1.f, .int .i64 E1.e, .slice r1 E1.ds.length rc1, .int .i64 E1.c, .int .i64 E1.u, .slice s1 E1.sk.length sc1, .slice m1 E1.mv.length mc1] #[.string E2.id, .string E2.ti, .int .i64 E2.st, .int .i64 E2.lg, .string E2.f, .int .i64 E2.e, .slice r2 E2.ds.length rc2, .int .i64 E2.c, .int .i64 E2.u, .slice s2 E2.sk.length sc2, .slice m2 E2.mv.length mc2] fo E1 E2 (.slice r1 E1.ds.length rc1) (.slice s1 E1.sk.length sc1) (.slice m1 E1.mv.length mc1) (.slice r2 E2.ds.length rc2) (.slice s2 E2.sk.length sc2) (.slice m2 E2.mv.length mc2) id) := fun ks nf fo w6 hnf hb hf => by
    refine ⟨HJS.out _ _ _ H0.out (below_then K4.out hb), (hb.block _ (Array.getElem?_eq_some_iff.1 KE14.out).1).trans KE14.out, (hb.block _ (Array.getElem?_eq_some_iff.1 KE2.out).1).trans KE2.out, hf, ?_, HL14.out.step hb, HL4.out.step hb⟩
    exact ((below_then K4.out hb).block _ (Boxed.lt HBI.out)).trans HBI.out
  have HNE : Hid ((be1 ≠ Bl ∧ be1 ≠ l) ∧ (be2 ≠ Bl ∧ be2 ≠ l) ∧ ∀ nf, w4.heap.size ≤ nf → nf ≠ Bl ∧ nf ≠ l) := by
    have z1 := HZ1.out
    have z2 := HZ2.out
    have z4 := K4.out.size
    refine ⟨⟨by omega, by omega⟩, ⟨by omega, by omega⟩, fun nf h => ⟨by omega, by omega⟩⟩
  cases bp with
  | true =>
    cases bq with
    | true =>
      gi_wp2
      obtain ⟨ks, hks⟩ : ∃ ks : List Nat, ks = [0, 1, 2, 3, 4, 5] := ⟨_, rfl⟩
      obtain ⟨fo, hfo⟩ : ∃ fo : Array Value, fo = #[.string ⟨#[116, 105, 116, 108, 101]⟩, .string ⟨#[115, 116, 97, 114, 116]⟩, .string ⟨#[108, 111, 110, 103]⟩, .string ⟨#[114, 117, 108, 101]⟩, .string ⟨#[115, 107, 105, 112, 115]⟩, .string ⟨#[109, 111, 118, 101, 115]⟩] := ⟨_, rfl⟩
      have hf6 : (w4.alloc fldO).heap[w4.heap.size]? = some (.cells fo 9 (0, 0)) := by rw [hfo]; exact block_at _ rfl
      have HFO : Hid (∀ (m : Nat) (h : m < ks.length), fo[m]? = some (.string (fieldB ks[m]))) := fun m h => by
        subst hks hfo
        match m, h with
        | 0, _ => rfl
        | 1, _ => rfl
        | 2, _ => rfl
        | 3, _ => rfl
        | 4, _ => rfl
        | 5, _ => rfl
      have HKN : Hid (ks.length = 6) := by show _ = _; rw [hks]; rfl
      have HKS : Hid (∀ k ∈ ks, k < 7 ∧ (p = none → k = 6) ∧ (q = none → k = 6)) := fun k hk => by
        subst hks
        refine ⟨by simp at hk; omega, fun z => ?_, fun z => ?_⟩
        · have := HBP.out; rw [z] at this; cases this
        · have := HBQ.out; rw [z] at this; cases this
      have HKQ : Hid (kl p q = ks) := by
        rw [hks]
        rcases HKL.out with ⟨_, _, z⟩ | ⟨zz, z⟩
        · exact z
        · exact absurd ⟨trivial, trivial⟩ zz
      obtain ⟨j6, io6⟩ := PRE.out ks w4.heap.size fo (w4.alloc fldO) (Nat.le_refl _) (below_alloc _ _) hf6
      have J6 : Hid (J o0 (w4.alloc fldO)) := j6
      have HNF := HNE.out.2.2 w4.heap.size (Nat.le_refl _)
      have IO6 : Hid (_) := io6
      clear j6 io6 hf6 hks hfo PRE KE2 KE14 HL4 HL14 K4
      generalize w4.alloc fldO = w6 at J6 IO6 ⊢
      generalize w4.heap.size = nf at IO6 HNF ⊢
      gi_loopw [11, 12, 35] (fun _ _ i wr => ∃ m : Nat, m ≤ 6 ∧ i = .int .i64 m ∧ Hid (J (o0 ++ (((ks.take m).filter fun k => decide (oT k p ≠ oT k q)).map fun k => (⟨id, k, p, q⟩ : DC))) wr) ∧ Hid (IO wr be1 be2 nf Bi #[.string E1.id, .string E1.ti, .int .i64 E1.st, .int .i64 E1.lg, .string E1.f, .int .i64 E1.e, .slice r1 E1.ds.length rc1, .int .i64 E1.c, .int .i64 E1.u, .slice s1 E1.sk.length sc1, .slice m1 E1.mv.length mc1] #[.string E2.id, .string E2.ti, .int .i64 E2.st, .int .i64 E2.lg, .string E2.f, .int .i64 E2.e, .slice r2 E2.ds.length rc2, .int .i64 E2.c, .int .i64 E2.u, .slice s2 E2.sk.length sc2, .slice m2 E2.mv.length mc2] fo E1 E2 (.slice r1 E1.ds.length rc1) (.slice s1 E1.sk.length sc1) (.slice m1 E1.mv.length mc1) (.slice r2 E2.ds.length rc2) (.slice s2 E2.sk.length sc2) (.slice m2 E2.mv.length mc2) id)) (fun _ _ i _ => 6 - (intOf i).toNat)
      case atStart => exact ⟨0, Nat.zero_le _, rfl, by rw [List.take_zero, List.filter_nil, List.map_nil, List.append_nil]; exact J6.out, IO6.out⟩
      case round =>
        obtain ⟨m, hm, rfl, HJ, HI⟩ := hrel
        by_cases hlt : m < 6
        · have hmk : m < ks.length := by rw [HKN.out]; exact hlt
          have hmi : (m : Int) < 6 := by omega
          obtain ⟨hk7, hk6p, hk6q⟩ := HKS.out ks[m] (List.getElem_mem hmk)
          have cf : wr.cell? ⟨nf, m, none⟩ = some (.string (fieldB ks[m])) := by
            have := HFO.out m hmk
            simp [World.cell?, HI.out.kf, this]
          have HTK : Hid (((ks.take (m + 1)).filter fun k => decide (oT k p ≠ oT k q)).map (fun k => (⟨id, k, p, q⟩ : DC)) = (((ks.take m).filter fun k => decide (oT k p ≠ oT k q)).map fun k => (⟨id, k, p, q⟩ : DC)) ++ (if oT ks[m] p = oT ks[m] q then [] else [⟨id, ks[m], p, q⟩])) := by
            show _ = _
            rw [List.take_succ_eq_append_getElem hmk, List.filter_append, List.map_append]
            congr 1
            by_cases z : oT ks[m] p = oT ks[m] q
            · rw [if_pos z, List.filter_cons_of_neg (by simpa using z)]; rfl
            · rw [if_neg z, List.filter_cons_of_pos (by simpa using z)]; rfl
          have hBr := HJB.out _ _ HJ.out
          have T1 : Hid (∀ W', Below wr.heap.size wr W' → Calls Tryz.prog 95 #[ev E1 (.slice r1 E1.ds.length rc1) (.slice s1 E1.sk.length sc1) (.slice m1 E1.mv.length mc1), .string (fieldB ks[m])] W' fun r w' => r = .returned (.string (bs (oT ks[m] p))) ∧ Below W'.heap.size W' w') := fun W' hW' => TX.out p E1 _ _ _ ks[m] W' HEX.out HP1.out hk6p hk7 (below_then hBr hW') (HI.out.l1.step hW')
          have T2 : Hid (∀ W', Below wr.heap.size wr W' → Calls Tryz.prog 95 #[ev E2 (.slice r2 E2.ds.length rc2) (.slice s2 E2.sk.length sc2) (.slice m2 E2.mv.length mc2), .string (fieldB ks[m])] W' fun r w' => r = .returned (.string (bs (oT ks[m] q))) ∧ Below W'.heap.size W' w') := fun W' hW' => TX.out q E2 _ _ _ ks[m] W' HEY.out HP2.out hk6q hk7 (below_then hBr hW') (HI.out.l2.step hW')
          have YD : Hid (∀ W', J (o0 ++ (((ks.take m).filter fun k => decide (oT k p ≠ oT k q)).map fun k => (⟨id, k, p, q⟩ : DC))) W' → YieldAt Fence.wide (n - 1) Tryz.prog l #[.agg #[.string id, .string (fieldB ks[m]), .string (bs (oT ks[m] p)), .string (bs (oT ks[m] q))]] W' fun e W'' => e = .returned (.bool true) ∧ J ((o0 ++ (((ks.take m).filter fun k => decide (oT k p ≠ oT k q)).map fun k => (⟨id, k, p, q⟩ : DC))) ++ [⟨id, ks[m], p, q⟩]) W'' ∧ RKeep Bl l W' W'') := fun W' hW' => HYD.out _ ks[m] W' hk7 (by rw [List.length_append, List.length_map]; have := List.length_filter_le (fun k => decide (oT k p ≠ oT k q)) (ks.take m); rw [List.length_take] at this; omega) hW'
          obtain ⟨x0, x1, x2, x3, x4, x5, x6, x7, x8, x9, x10⟩ := blk11 HI.out.k1
          obtain ⟨y0, y1, y2, y3, y4, y5, y6, y7, y8, y9, y10⟩ := blk11 HI.out.k2
          have ci : wr.cell? ⟨Bi, 0, none⟩ = some (.string id) := by simp [World.cell?, HI.out.ki]
          have KS : Hid (∀ W, Below wr.heap.size wr W → Below wr.heap.size wr W ∧ W.cell? ⟨Bi, 0, none⟩ = some (.string id) ∧ W.cell? ⟨be1, 0, none⟩ = some (.string E1.id) ∧ W.cell? ⟨be1, 1, none⟩ = some (.string E1.ti) ∧ W.cell? ⟨be1, 2, none⟩ = some (.int .i64 E1.st) ∧ W.cell? ⟨be1, 3, none⟩ = some (.int .i64 E1.lg) ∧ W.cell? ⟨be1, 4, none⟩ = some (.string E1.f) ∧ W.cell? ⟨be1, 5, none⟩ = some (.int .i64 E1.e) ∧ W.cell? ⟨be1, 6, none⟩ = some (.slice r1 E1.ds.length rc1) ∧ W.cell? ⟨be1, 7, none⟩ = some (.int .i64 E1.c) ∧ W.cell? ⟨be1, 8, none⟩ = some (.int .i64 E1.u) ∧ W.cell? ⟨be1, 9, none⟩ = some (.slice s1 E1.sk.length sc1) ∧ W.cell? ⟨be1, 10, none⟩ = some (.slice m1 E1.mv.length mc1) ∧ W.cell? ⟨be2, 0, none⟩ = some (.string E2.id) ∧ W.cell? ⟨be2, 1, none⟩ = some (.string E2.ti) ∧ W.cell? ⟨be2, 2, none⟩ = some (.int .i64 E2.st) ∧ W.cell? ⟨be2, 3, none⟩ = some (.int .i64 E2.lg) ∧ W.cell? ⟨be2, 4, none⟩ = some (.string E2.f) ∧ W.cell? ⟨be2, 5, none⟩ = some (.int .i64 E2.e) ∧ W.cell? ⟨be2, 6, none⟩ = some (.slice r2 E2.ds.length rc2) ∧ W.cell? ⟨be2, 7, none⟩ = some (.int .i64 E2.c) ∧ W.cell? ⟨be2, 8, none⟩ = some (.int .i64 E2.u) ∧ W.cell? ⟨be2, 9, none⟩ = some (.slice s2 E2.sk.length sc2) ∧ W.cell? ⟨be2, 10, none⟩ = some (.slice m2 E2.mv.length mc2)) := fun W hW => ⟨hW, cell_step ci hW, cell_step x0 hW, cell_step x1 hW, cell_step x2 hW, cell_step x3 hW, cell_step x4 hW, cell_step x5 hW, cell_step x6 hW, cell_step x7 hW, cell_step x8 hW, cell_step x9 hW, cell_step x10 hW, cell_step y0 hW, cell_step y1 hW, cell_step y2 hW, cell_step y3 hW, cell_step y4 hW, cell_step y5 hW, cell_step y6 hW, cell_step y7 hW, cell_step y8 hW, cell_step y9 hW, cell_step y10 hW⟩
          unfold ev at T1 T2
          have HEQ : Hid (((bs (oT ks[m] p)).toList == (bs (oT ks[m] q)).toList) = decide (oT ks[m] p = oT ks[m] q)) := by
            show _ = _
            rw [ByteArray.toList_eq, ByteArray.toList_eq]
            show (oT ks[m] p == oT ks[m] q) = _
            by_cases z : oT ks[m] p = oT ks[m] q
            · rw [decide_eq_true z, z]; exact beq_self_eq_true _
            · rw [decide_eq_false z]; exact beq_eq_false_iff_ne.2 z
          generalize fieldB ks[m] = fb at cf T1 T2 YD
          generalize bs (oT ks[m] p) = tx1 at T1 YD HEQ
          generalize bs (oT ks[m] q) = tx2 at T2 YD HEQ
          clear hk7 hk6p hk6q hBr HFO
          have FIN : Hid (∀ (W' : World) (B : Nat), Below wr.heap.size wr W' → W'.heap[B]? = some (.cells #[.string id, .string fb, .string tx1, .string tx2] 82 (0, 0)) → (W'.cell? ⟨B, 0, none⟩ = some (.string id) ∧ W'.cell? ⟨B, 1, none⟩ = some (.string fb) ∧ W'.cell? ⟨B, 2, none⟩ = some (.string tx1) ∧ W'.cell? ⟨B, 3, none⟩ = some (.string tx2)) ∧ Hid (J (o0 ++ (((ks.take m).filter fun k => decide (oT k p ≠ oT k q)).map fun k => (⟨id, k, p, q⟩ : DC))) W') ∧ Hid (IO W' be1 be2 nf Bi #[.string E1.id, .string E1.ti, .int .i64 E1.st, .int .i64 E1.lg, .string E1.f, .int .i64 E1.e, .slice r1 E1.ds.length rc1, .int .i64 E1.c, .int .i64 E1.u, .slice s1 E1.sk.length sc1, .slice m1 E1.mv.length mc1] #[.string E2.id, .string E2.ti, .int .i64 E2.st, .int .i64 E2.lg, .string E2.f, .int .i64 E2.e, .slice r2 E2.ds.length rc2, .int .i64 E2.c, .int .i64 E2.u, .slice s2 E2.sk.length sc2, .slice m2 E2.mv.length mc2] fo E1 E2 (.slice r1 E1.ds.length rc1) (.slice s1 E1.sk.length sc1) (.slice m1 E1.mv.length mc1) (.slice r2 E2.ds.length rc2) (.slice s2 E2.sk.length sc2) (.slice m2 E2.mv.length mc2) id)) := fun W' B hW' hk => ⟨blk4 hk, HJS.out _ _ _ HJ.out hW', HI.out.step hW'⟩
          gi_upto_region 8 with (fail)
          refine wpIn_wide.2 ?_
          go_region_held3 (fun W => Below wr.heap.size wr W ∧ W.cell? ⟨Bi, 0, none⟩ = some (.string id) ∧ W.cell? ⟨be1, 0, none⟩ = some (.string E1.id) ∧ W.cell? ⟨be1, 1, none⟩ = some (.string E1.ti) ∧ W.cell? ⟨be1, 2, none⟩ = some (.int .i64 E1.st) ∧ W.cell? ⟨be1, 3, none⟩ = some (.int .i64 E1.lg) ∧ W.cell? ⟨be1, 4, none⟩ = some (.string E1.f) ∧ W.cell? ⟨be1, 5, none⟩ = some (.int .i64 E1.e) ∧ W.cell? ⟨be1, 6, none⟩ = some (.slice r1 E1.ds.length rc1) ∧ W.cell? ⟨be1, 7, none⟩ = some (.int .i64 E1.c) ∧ W.cell? ⟨be1, 8, none⟩ = some (.int .i64 E1.u) ∧ W.cell? ⟨be1, 9, none⟩ = some (.slice s1 E1.sk.length sc1) ∧ W.cell? ⟨be1, 10, none⟩ = some (.slice m1 E1.mv.length mc1) ∧ W.cell? ⟨be2, 0, none⟩ = some (.string E2.id) ∧ W.cell? ⟨be2, 1, none⟩ = some (.string E2.ti) ∧ W.cell? ⟨be2, 2, none⟩ = some (.int .i64 E2.st) ∧ W.cell? ⟨be2, 3, none⟩ = some (.int .i64 E2.lg) ∧ W.cell? ⟨be2, 4, none⟩ = some (.string E2.f) ∧ W.cell? ⟨be2, 5, none⟩ = some (.int .i64 E2.e) ∧ W.cell? ⟨be2, 6, none⟩ = some (.slice r2 E2.ds.length rc2) ∧ W.cell? ⟨be2, 7, none⟩ = some (.int .i64 E2.c) ∧ W.cell? ⟨be2, 8, none⟩ = some (.int .i64 E2.u) ∧ W.cell? ⟨be2, 9, none⟩ = some (.slice s2 E2.sk.length sc2) ∧ W.cell? ⟨be2, 10, none⟩ = some (.slice m2 E2.mv.length mc2)) ((refine KS.out _ ?_; (first | with_reducible assumption | with_reducible exact drew_below _ | with_reducible exact below_then (below_alloc _ _) (drew_below _) | with_reducible exact below_then (drew_below _) (below_alloc _ _) | with_reducible exact below_then kA (below_alloc _ _) | with_reducible exact below_then kB (below_alloc _ _) | (rw [put4_fold]; (first | with_reducible exact put4_below kB kA.size | with_reducible exact put4_below kA kB.size | with_reducible exact put4_below kB (Nat.le_refl _) | with_reducible exact put4_below kA (Nat.le_refl _))))))
            ((first
              | (go_at_call_of 95 (Value.agg #[.string E1.id, .string E1.ti, .int .i64 E1.st, .int .i64 E1.lg, .string E1.f, .int .i64 E1.e, .slice r1 E1.ds.length rc1, .int .i64 E1.c, .int .i64 E1.u, .slice s1 E1.sk.length sc1, .slice m1 E1.mv.length mc1]); refine Calls.mono (T1.out _ ?_) ?_; (first | with_reducible assumption | with_reducible exact drew_below _ | with_reducible exact below_then (below_alloc _ _) (drew_below _) | with_reducible exact below_then (drew_below _) (below_alloc _ _) | with_reducible exact below_then kB (below_alloc _ _)); rintro r wA ⟨rfl, hbA⟩; have kA : Below wr.heap.size wr wA := (by first | with_reducible exact below_then (drew_below _) hbA | with_reducible exact below_then kB hbA | with_reducible exact below_then (below_then (drew_below _) (below_alloc _ _)) hbA | with_reducible exact below_then (below_then (below_alloc _ _) (drew_below _)) hbA | with_reducible exact below_then (below_then kB (below_alloc _ _)) hbA); try (first | (have zA : wA.heap[wr.heap.size]? = some (.cells #[.string ⟨#[]⟩, .string ⟨#[]⟩, .string ⟨#[]⟩, .string ⟨#[]⟩] 82 (0, 0)) := (hbA.block _ (show wr.heap.size < (wr.alloc _).heap.size from (Nat.lt_of_lt_of_eq (Nat.lt_succ_self _) (World.size_alloc _ _).symm))).trans (block_at (W := wr) _ rfl)) | (have zA : wA.heap[wB.heap.size]? = some (.cells #[.string ⟨#[]⟩, .string ⟨#[]⟩, .string ⟨#[]⟩, .string ⟨#[]⟩] 82 (0, 0)) := (hbA.block _ (show wB.heap.size < (wB.alloc _).heap.size from (Nat.lt_of_lt_of_eq (Nat.lt_succ_self _) (World.size_alloc _ _).symm))).trans (block_at (W := wB) _ rfl)) | (have zA : wA.heap[wr.heap.size]? = some (.cells #[.string ⟨#[]⟩, .string ⟨#[]⟩, .string ⟨#[]⟩, .string ⟨#[]⟩] 82 (0, 0)) := (hbA.block _ (Array.getElem?_eq_some_iff.1 zB).1).trans zB)); try (obtain ⟨qA0, qA1, qA2, qA3⟩ := blk4 zA; have fA0 := blk11_frozen zA 0; have fA1 := blk11_frozen zA 1; have fA2 := blk11_frozen zA 2; have fA3 := blk11_frozen zA 3))
              | (go_at_call_of 95 (Value.agg #[.string E2.id, .string E2.ti, .int .i64 E2.st, .int .i64 E2.lg, .string E2.f, .int .i64 E2.e, .slice r2 E2.ds.length rc2, .int .i64 E2.c, .int .i64 E2.u, .slice s2 E2.sk.length sc2, .slice m2 E2.mv.length mc2]); refine Calls.mono (T2.out _ ?_) ?_; (first | with_reducible assumption | with_reducible exact drew_below _ | with_reducible exact below_then (below_alloc _ _) (drew_below _) | with_reducible exact below_then (drew_below _) (below_alloc _ _) | with_reducible exact below_then kA (below_alloc _ _)); rintro r wB ⟨rfl, hbB⟩; have kB : Below wr.heap.size wr wB := (by first | with_reducible exact below_then (drew_below _) hbB | with_reducible exact below_then kA hbB | with_reducible exact below_then (below_then (drew_below _) (below_alloc _ _)) hbB | with_reducible exact below_then (below_then (below_alloc _ _) (drew_below _)) hbB | with_reducible exact below_then (below_then kA (below_alloc _ _)) hbB); try (first | (have zB : wB.heap[wr.heap.size]? = some (.cells #[.string ⟨#[]⟩, .string ⟨#[]⟩, .string ⟨#[]⟩, .string ⟨#[]⟩] 82 (0, 0)) := (hbB.block _ (show wr.heap.size < (wr.alloc _).heap.size from (Nat.lt_of_lt_of_eq (Nat.lt_succ_self _) (World.size_alloc _ _).symm))).trans (block_at (W := wr) _ rfl)) | (have zB : wB.heap[wA.heap.size]? = some (.cells #[.string ⟨#[]⟩, .string ⟨#[]⟩, .string ⟨#[]⟩, .string ⟨#[]⟩] 82 (0, 0)) := (hbB.block _ (show wA.heap.size < (wA.alloc _).heap.size from (Nat.lt_of_lt_of_eq (Nat.lt_succ_self _) (World.size_alloc _ _).symm))).trans (block_at (W := wA) _ rfl)) | (have zB : wB.heap[wr.heap.size]? = some (.cells #[.string ⟨#[]⟩, .string ⟨#[]⟩, .string ⟨#[]⟩, .string ⟨#[]⟩] 82 (0, 0)) := (hbB.block _ (Array.getElem?_eq_some_iff.1 zA).1).trans zA)); try (obtain ⟨qB0, qB1, qB2, qB3⟩ := blk4 zB; have fB0 := blk11_frozen zB 0; have fB1 := blk11_frozen zB 1; have fB2 := blk11_frozen zB 2; have fB3 := blk11_frozen zB 3))))
          · obtain ⟨⟨q0, q1, q2, q3⟩, HJw, HIw⟩ := FIN.out (wB.alloc (.cells #[.string id, .string fb, .string tx1, .string tx2] 82)) wB.heap.size (below_then kB (below_alloc _ _)) (block_at _ rfl)
            clear kA kB hbA hbB
            generalize (wB.alloc (.cells #[.string id, .string fb, .string tx1, .string tx2] 82)) = wq at q0 q1 q2 q3 HJw HIw ⊢
            generalize wB.heap.size = bx at q0 q1 q2 q3 ⊢
            rcases Decidable.em (oT ks[m] p = oT ks[m] q) with z | z
            · have he : tx1.toList = tx2.toList := by
                have := HEQ.out
                rw [decide_eq_true z] at this
                exact eq_of_beq this
              have HJ3 : Hid (J (o0 ++ ((ks.take (m + 1)).filter fun k => decide (oT k p ≠ oT k q)).map (fun k => (⟨id, k, p, q⟩ : DC))) wq) := by
                show J _ _
                rw [HTK.out, if_pos z, List.append_nil]
                exact HJw.out
              clear z HEQ HTK
              gi_wp2
              refine ⟨(fun f h => by cases h), ?_⟩
              gi_wp2
              go_roundw
              case rel => exact ⟨m + 1, by omega, by go_num, HJ3, HIw⟩
              case measure => simp [intOf]; omega
            · have he : ¬ tx1.toList = tx2.toList := fun h => by
                have := HEQ.out
                rw [decide_eq_false z, h, beq_self_eq_true] at this
                cases this
              obtain ⟨fn, tmps, assign, body, hy, hR⟩ := YD.out _ HJw.out
              have HTN : Hid (∀ W3, J ((o0 ++ (((ks.take m).filter fun k => decide (oT k p ≠ oT k q)).map fun k => (⟨id, k, p, q⟩ : DC))) ++ [⟨id, ks[m], p, q⟩]) W3 → J (o0 ++ ((ks.take (m + 1)).filter fun k => decide (oT k p ≠ oT k q)).map (fun k => (⟨id, k, p, q⟩ : DC))) W3) := fun W3 h => by
                rw [HTK.out, if_neg z, ← List.append_assoc]
                exact h
              clear z HEQ HTK
              gi_wp2
              refine hR.mono ?_
              rintro e W3 ⟨rfl, hJ3, hK3⟩
              have HJ3 : Hid (J (o0 ++ ((ks.take (m + 1)).filter fun k => decide (oT k p ≠ oT k q)).map (fun k => (⟨id, k, p, q⟩ : DC))) W3) := HTN.out _ hJ3
              have HI3 : Hid (IO W3 be1 be2 nf Bi #[.string E1.id, .string E1.ti, .int .i64 E1.st, .int .i64 E1.lg, .string E1.f, .int .i64 E1.e, .slice r1 E1.ds.length rc1, .int .i64 E1.c, .int .i64 E1.u, .slice s1 E1.sk.length sc1, .slice m1 E1.mv.length mc1] #[.string E2.id, .string E2.ti, .int .i64 E2.st, .int .i64 E2.lg, .string E2.f, .int .i64 E2.e, .slice r2 E2.ds.length rc2, .int .i64 E2.c, .int .i64 E2.u, .slice s2 E2.sk.length sc2, .slice m2 E2.mv.length mc2] fo E1 E2 (.slice r1 E1.ds.length rc1) (.slice s1 E1.sk.length sc1) (.slice m1 E1.mv.length mc1) (.slice r2 E2.ds.length rc2) (.slice s2 E2.sk.length sc2) (.slice m2 E2.mv.length mc2) id) := HIw.out.keep hK3 HNE.out.1 HNE.out.2.1 HNF hne (HJN.out _ _ HJw.out).1
              clear hJ3 hK3
              gi_wp2
              go_roundw
              case rel => exact ⟨m + 1, by omega, by go_num, HJ3, HI3⟩
              case measure => simp [intOf]; omega
          · rw [put4_fold]
            obtain ⟨⟨q0, q1, q2, q3⟩, HJw, HIw⟩ := FIN.out (put4 wB wA.heap.size (.string id) (.string fb) (.string tx1) (.string tx2)) wA.heap.size (put4_below kB kA.size) (put4_blk _ _ _ _ zB)
            clear kA kB hbA hbB
            generalize (put4 wB wA.heap.size (.string id) (.string fb) (.string tx1) (.string tx2)) = wq at q0 q1 q2 q3 HJw HIw ⊢
            generalize wA.heap.size = bx at q0 q1 q2 q3 ⊢
            rcases Decidable.em (oT ks[m] p = oT ks[m] q) with z | z
            · have he : tx1.toList = tx2.toList := by
                have := HEQ.out
                rw [decide_eq_true z] at this
                exact eq_of_beq this
              have HJ3 : Hid (J (o0 ++ ((ks.take (m + 1)).filter fun k => decide (oT k p ≠ oT k q)).map (fun k => (⟨id, k, p, q⟩ : DC))) wq) := by
                show J _ _
                rw [HTK.out, if_pos z, List.append_nil]
                exact HJw.out
              clear z HEQ HTK
              gi_wp2
              refine ⟨(fun f h => by cases h), ?_⟩
              gi_wp2
              go_roundw
              case rel => exact ⟨m + 1, by omega, by go_num, HJ3, HIw⟩
              case measure => simp [intOf]; omega
            · have he : ¬ tx1.toList = tx2.toList := fun h => by
                have := HEQ.out
                rw [decide_eq_false z, h, beq_self_eq_true] at this
                cases this
              obtain ⟨fn, tmps, assign, body, hy, hR⟩ := YD.out _ HJw.out
              have HTN : Hid (∀ W3, J ((o0 ++ (((ks.take m).filter fun k => decide (oT k p ≠ oT k q)).map fun k => (⟨id, k, p, q⟩ : DC))) ++ [⟨id, ks[m], p, q⟩]) W3 → J (o0 ++ ((ks.take (m + 1)).filter fun k => decide (oT k p ≠ oT k q)).map (fun k => (⟨id, k, p, q⟩ : DC))) W3) := fun W3 h => by
                rw [HTK.out, if_neg z, ← List.append_assoc]
                exact h
              clear z HEQ HTK
              gi_wp2
              refine hR.mono ?_
              rintro e W3 ⟨rfl, hJ3, hK3⟩
              have HJ3 : Hid (J (o0 ++ ((ks.take (m + 1)).filter fun k => decide (oT k p ≠ oT k q)).map (fun k => (⟨id, k, p, q⟩ : DC))) W3) := HTN.out _ hJ3
              have HI3 : Hid (IO W3 be1 be2 nf Bi #[.string E1.id, .string E1.ti, .int .i64 E1.st, .int .i64 E1.lg, .string E1.f, .int .i64 E1.e, .slice r1 E1.ds.length rc1, .int .i64 E1.c, .int .i64 E1.u, .slice s1 E1.sk.length sc1, .slice m1 E1.mv.length mc1] #[.string E2.id, .string E2.ti, .int .i64 E2.st, .int .i64 E2.lg, .string E2.f, .int .i64 E2.e, .slice r2 E2.ds.length rc2, .int .i64 E2.c, .int .i64 E2.u, .slice s2 E2.sk.length sc2, .slice m2 E2.mv.length mc2] fo E1 E2 (.slice r1 E1.ds.length rc1) (.slice s1 E1.sk.length sc1) (.slice m1 E1.mv.length mc1) (.slice r2 E2.ds.length rc2) (.slice s2 E2.sk.length sc2) (.slice m2 E2.mv.length mc2) id) := HIw.out.keep hK3 HNE.out.1 HNE.out.2.1 HNF hne (HJN.out _ _ HJw.out).1
              clear hJ3 hK3
              gi_wp2
              go_roundw
              case rel => exact ⟨m + 1, by omega, by go_num, HJ3, HI3⟩
              case measure => simp [intOf]; omega
          · rw [put4_fold]
            obtain ⟨⟨q0, q1, q2, q3⟩, HJw, HIw⟩ := FIN.out (put4 wB wr.heap.size (.string id) (.string fb) (.string tx1) (.string tx2)) wr.heap.size (put4_below kB (Nat.le_refl _)) (put4_blk _ _ _ _ zB)
            clear kA kB hbA hbB
            generalize (put4 wB wr.heap.size (.string id) (.string fb) (.string tx1) (.string tx2)) = wq at q0 q1 q2 q3 HJw HIw ⊢
            generalize wr.heap.size = bx at q0 q1 q2 q3 ⊢
            rcases Decidable.em (oT ks[m] p = oT ks[m] q) with z | z
            · have he : tx1.toList = tx2.toList := by
                have := HEQ.out
                rw [decide_eq_true z] at this
                exact eq_of_beq this
              have HJ3 : Hid (J (o0 ++ ((ks.take (m + 1)).filter fun k => decide (oT k p ≠ oT k q)).map (fun k => (⟨id, k, p, q⟩ : DC))) wq) := by
                show J _ _
                rw [HTK.out, if_pos z, List.append_nil]
                exact HJw.out
              clear z HEQ HTK
              gi_wp2
              refine ⟨(fun f h => by cases h), ?_⟩
              gi_wp2
              go_roundw
              case rel => exact ⟨m + 1, by omega, by go_num, HJ3, HIw⟩
              case measure => simp [intOf]; omega
            · have he : ¬ tx1.toList = tx2.toList := fun h => by
                have := HEQ.out
                rw [decide_eq_false z, h, beq_self_eq_true] at this
                cases this
              obtain ⟨fn, tmps, assign, body, hy, hR⟩ := YD.out _ HJw.out
              have HTN : Hid (∀ W3, J ((o0 ++ (((ks.take m).filter fun k => decide (oT k p ≠ oT k q)).map fun k => (⟨id, k, p, q⟩ : DC))) ++ [⟨id, ks[m], p, q⟩]) W3 → J (o0 ++ ((ks.take (m + 1)).filter fun k => decide (oT k p ≠ oT k q)).map (fun k => (⟨id, k, p, q⟩ : DC))) W3) := fun W3 h => by
                rw [HTK.out, if_neg z, ← List.append_assoc]
                exact h
              clear z HEQ HTK
              gi_wp2
              refine hR.mono ?_
              rintro e W3 ⟨rfl, hJ3, hK3⟩
              have HJ3 : Hid (J (o0 ++ ((ks.take (m + 1)).filter fun k => decide (oT k p ≠ oT k q)).map (fun k => (⟨id, k, p, q⟩ : DC))) W3) := HTN.out _ hJ3
              have HI3 : Hid (IO W3 be1 be2 nf Bi #[.string E1.id, .string E1.ti, .int .i64 E1.st, .int .i64 E1.lg, .string E1.f, .int .i64 E1.e, .slice r1 E1.ds.length rc1, .int .i64 E1.c, .int .i64 E1.u, .slice s1 E1.sk.length sc1, .slice m1 E1.mv.length mc1] #[.string E2.id, .string E2.ti, .int .i64 E2.st, .int .i64 E2.lg, .string E2.f, .int .i64 E2.e, .slice r2 E2.ds.length rc2, .int .i64 E2.c, .int .i64 E2.u, .slice s2 E2.sk.length sc2, .slice m2 E2.mv.length mc2] fo E1 E2 (.slice r1 E1.ds.length rc1) (.slice s1 E1.sk.length sc1) (.slice m1 E1.mv.length mc1) (.slice r2 E2.ds.length rc2) (.slice s2 E2.sk.length sc2) (.slice m2 E2.mv.length mc2) id) := HIw.out.keep hK3 HNE.out.1 HNE.out.2.1 HNF hne (HJN.out _ _ HJw.out).1
              clear hJ3 hK3
              gi_wp2
              go_roundw
              case rel => exact ⟨m + 1, by omega, by go_num, HJ3, HI3⟩
              case measure => simp [intOf]; omega
        · have HJE : Hid (J (o0 ++ dl id p q) wr) := by
            have := HJ.out
            rw [List.take_of_length_le (by rw [HKN.out]; omega)] at this
            show J _ _
            rw [HDL.out, HKQ.out]
            exact this
          have hmi : ¬ ((m : Int) < 6) := by omega
          clear HJ HI
          gi_wp2
          go_end0
          exact ⟨⟨_, rfl⟩, HJE.out⟩
    | false =>
      gi_wp2
      obtain ⟨ks, hks⟩ : ∃ ks : List Nat, ks = [6] := ⟨_, rfl⟩
      obtain ⟨fo, hfo⟩ : ∃ fo : Array Value, fo = #[.string ⟨#[97, 108, 108]⟩] := ⟨_, rfl⟩
      have hf6 : ((w4.alloc fldO).alloc (.cells #[.string ⟨#[97, 108, 108]⟩] 9)).heap[w4.heap.size + 1]? = some (.cells fo 9 (0, 0)) := by rw [hfo]; exact block_at _ (by first | rfl | exact (World.size_alloc _ _).symm | exact World.size_alloc _ _)
      have HFO : Hid (∀ (m : Nat) (h : m < ks.length), fo[m]? = some (.string (fieldB ks[m]))) := fun m h => by
        subst hks hfo
        match m, h with
        | 0, _ => rfl
      have HKN : Hid (ks.length = 1) := by show _ = _; rw [hks]; rfl
      have HKS : Hid (∀ k ∈ ks, k < 7 ∧ (p = none → k = 6) ∧ (q = none → k = 6)) := fun k hk => by
        subst hks
        have z : k = 6 := List.mem_singleton.1 hk
        exact ⟨by omega, fun _ => z, fun _ => z⟩
      have HKQ : Hid (kl p q = ks) := by
        rw [hks]
        rcases HKL.out with ⟨zA, zB, z⟩ | ⟨zz, z⟩
        · first | exact absurd zA (by decide) | exact absurd zB (by decide)
        · exact z
      obtain ⟨j6, io6⟩ := PRE.out ks (w4.heap.size + 1) fo ((w4.alloc fldO).alloc (.cells #[.string ⟨#[97, 108, 108]⟩] 9)) (Nat.le_succ _) (below_then (below_alloc _ _) (below_alloc _ _)) hf6
      have J6 : Hid (J o0 ((w4.alloc fldO).alloc (.cells #[.string ⟨#[97, 108, 108]⟩] 9))) := j6
      have HNF := HNE.out.2.2 (w4.heap.size + 1) (Nat.le_succ _)
      have IO6 : Hid (_) := io6
      clear j6 io6 hf6 hks hfo PRE KE2 KE14 HL4 HL14 K4
      generalize ((w4.alloc fldO).alloc (.cells #[.string ⟨#[97, 108, 108]⟩] 9)) = w6 at J6 IO6 ⊢
      generalize w4.heap.size + 1 = nf at IO6 HNF ⊢
      gi_loopw [11, 12, 35] (fun _ _ i wr => ∃ m : Nat, m ≤ 1 ∧ i = .int .i64 m ∧ Hid (J (o0 ++ (((ks.take m).filter fun k => decide (oT k p ≠ oT k q)).map fun k => (⟨id, k, p, q⟩ : DC))) wr) ∧ Hid (IO wr be1 be2 nf Bi #[.string E1.id, .string E1.ti, .int .i64 E1.st, .int .i64 E1.lg, .string E1.f, .int .i64 E1.e, .slice r1 E1.ds.length rc1, .int .i64 E1.c, .int .i64 E1.u, .slice s1 E1.sk.length sc1, .slice m1 E1.mv.length mc1] #[.string E2.id, .string E2.ti, .int .i64 E2.st, .int .i64 E2.lg, .string E2.f, .int .i64 E2.e, .slice r2 E2.ds.length rc2, .int .i64 E2.c, .int .i64 E2.u, .slice s2 E2.sk.length sc2, .slice m2 E2.mv.length mc2] fo E1 E2 (.slice r1 E1.ds.length rc1) (.slice s1 E1.sk.length sc1) (.slice m1 E1.mv.length mc1) (.slice r2 E2.ds.length rc2) (.slice s2 E2.sk.length sc2) (.slice m2 E2.mv.length mc2) id)) (fun _ _ i _ => 1 - (intOf i).toNat)
      case atStart => exact ⟨0, Nat.zero_le _, rfl, by rw [List.take_zero, List.filter_nil, List.map_nil, List.append_nil]; exact J6.out, IO6.out⟩
      case round =>
        obtain ⟨m, hm, rfl, HJ, HI⟩ := hrel
        by_cases hlt : m < 1
        · have hmk : m < ks.length := by rw [HKN.out]; exact hlt
          have hmi : (m : Int) < 1 := by omega
          obtain ⟨hk7, hk6p, hk6q⟩ := HKS.out ks[m] (List.getElem_mem hmk)
          have cf : wr.cell? ⟨nf, m, none⟩ = some (.string (fieldB ks[m])) := by
            have := HFO.out m hmk
            simp [World.cell?, HI.out.kf, this]
          have HTK : Hid (((ks.take (m + 1)).filter fun k => decide (oT k p ≠ oT k q)).map (fun k => (⟨id, k, p, q⟩ : DC)) = (((ks.take m).filter fun k => decide (oT k p ≠ oT k q)).map fun k => (⟨id, k, p, q⟩ : DC)) ++ (if oT ks[m] p = oT ks[m] q then [] else [⟨id, ks[m], p, q⟩])) := by
            show _ = _
            rw [List.take_succ_eq_append_getElem hmk, List.filter_append, List.map_append]
            congr 1
            by_cases z : oT ks[m] p = oT ks[m] q
            · rw [if_pos z, List.filter_cons_of_neg (by simpa using z)]; rfl
            · rw [if_neg z, List.filter_cons_of_pos (by simpa using z)]; rfl
          have hBr := HJB.out _ _ HJ.out
          have T1 : Hid (∀ W', Below wr.heap.size wr W' → Calls Tryz.prog 95 #[ev E1 (.slice r1 E1.ds.length rc1) (.slice s1 E1.sk.length sc1) (.slice m1 E1.mv.length mc1), .string (fieldB ks[m])] W' fun r w' => r = .returned (.string (bs (oT ks[m] p))) ∧ Below W'.heap.size W' w') := fun W' hW' => TX.out p E1 _ _ _ ks[m] W' HEX.out HP1.out hk6p hk7 (below_then hBr hW') (HI.out.l1.step hW')
          have T2 : Hid (∀ W', Below wr.heap.size wr W' → Calls Tryz.prog 95 #[ev E2 (.slice r2 E2.ds.length rc2) (.slice s2 E2.sk.length sc2) (.slice m2 E2.mv.length mc2), .string (fieldB ks[m])] W' fun r w' => r = .returned (.string (bs (oT ks[m] q))) ∧ Below W'.heap.size W' w') := fun W' hW' => TX.out q E2 _ _ _ ks[m] W' HEY.out HP2.out hk6q hk7 (below_then hBr hW') (HI.out.l2.step hW')
          have YD : Hid (∀ W', J (o0 ++ (((ks.take m).filter fun k => decide (oT k p ≠ oT k q)).map fun k => (⟨id, k, p, q⟩ : DC))) W' → YieldAt Fence.wide (n - 1) Tryz.prog l #[.agg #[.string id, .string (fieldB ks[m]), .string (bs (oT ks[m] p)), .string (bs (oT ks[m] q))]] W' fun e W'' => e = .returned (.bool true) ∧ J ((o0 ++ (((ks.take m).filter fun k => decide (oT k p ≠ oT k q)).map fun k => (⟨id, k, p, q⟩ : DC))) ++ [⟨id, ks[m], p, q⟩]) W'' ∧ RKeep Bl l W' W'') := fun W' hW' => HYD.out _ ks[m] W' hk7 (by rw [List.length_append, List.length_map]; have := List.length_filter_le (fun k => decide (oT k p ≠ oT k q)) (ks.take m); rw [List.length_take] at this; omega) hW'
          obtain ⟨x0, x1, x2, x3, x4, x5, x6, x7, x8, x9, x10⟩ := blk11 HI.out.k1
          obtain ⟨y0, y1, y2, y3, y4, y5, y6, y7, y8, y9, y10⟩ := blk11 HI.out.k2
          have ci : wr.cell? ⟨Bi, 0, none⟩ = some (.string id) := by simp [World.cell?, HI.out.ki]
          have KS : Hid (∀ W, Below wr.heap.size wr W → Below wr.heap.size wr W ∧ W.cell? ⟨Bi, 0, none⟩ = some (.string id) ∧ W.cell? ⟨be1, 0, none⟩ = some (.string E1.id) ∧ W.cell? ⟨be1, 1, none⟩ = some (.string E1.ti) ∧ W.cell? ⟨be1, 2, none⟩ = some (.int .i64 E1.st) ∧ W.cell? ⟨be1, 3, none⟩ = some (.int .i64 E1.lg) ∧ W.cell? ⟨be1, 4, none⟩ = some (.string E1.f) ∧ W.cell? ⟨be1, 5, none⟩ = some (.int .i64 E1.e) ∧ W.cell? ⟨be1, 6, none⟩ = some (.slice r1 E1.ds.length rc1) ∧ W.cell? ⟨be1, 7, none⟩ = some (.int .i64 E1.c) ∧ W.cell? ⟨be1, 8, none⟩ = some (.int .i64 E1.u) ∧ W.cell? ⟨be1, 9, none⟩ = some (.slice s1 E1.sk.length sc1) ∧ W.cell? ⟨be1, 10, none⟩ = some (.slice m1 E1.mv.length mc1) ∧ W.cell? ⟨be2, 0, none⟩ = some (.string E2.id) ∧ W.cell? ⟨be2, 1, none⟩ = some (.string E2.ti) ∧ W.cell? ⟨be2, 2, none⟩ = some (.int .i64 E2.st) ∧ W.cell? ⟨be2, 3, none⟩ = some (.int .i64 E2.lg) ∧ W.cell? ⟨be2, 4, none⟩ = some (.string E2.f) ∧ W.cell? ⟨be2, 5, none⟩ = some (.int .i64 E2.e) ∧ W.cell? ⟨be2, 6, none⟩ = some (.slice r2 E2.ds.length rc2) ∧ W.cell? ⟨be2, 7, none⟩ = some (.int .i64 E2.c) ∧ W.cell? ⟨be2, 8, none⟩ = some (.int .i64 E2.u) ∧ W.cell? ⟨be2, 9, none⟩ = some (.slice s2 E2.sk.length sc2) ∧ W.cell? ⟨be2, 10, none⟩ = some (.slice m2 E2.mv.length mc2)) := fun W hW => ⟨hW, cell_step ci hW, cell_step x0 hW, cell_step x1 hW, cell_step x2 hW, cell_step x3 hW, cell_step x4 hW, cell_step x5 hW, cell_step x6 hW, cell_step x7 hW, cell_step x8 hW, cell_step x9 hW, cell_step x10 hW, cell_step y0 hW, cell_step y1 hW, cell_step y2 hW, cell_step y3 hW, cell_step y4 hW, cell_step y5 hW, cell_step y6 hW, cell_step y7 hW, cell_step y8 hW, cell_step y9 hW, cell_step y10 hW⟩
          unfold ev at T1 T2
          have HEQ : Hid (((bs (oT ks[m] p)).toList == (bs (oT ks[m] q)).toList) = decide (oT ks[m] p = oT ks[m] q)) := by
            show _ = _
            rw [ByteArray.toList_eq, ByteArray.toList_eq]
            show (oT ks[m] p == oT ks[m] q) = _
            by_cases z : oT ks[m] p = oT ks[m] q
            · rw [decide_eq_true z, z]; exact beq_self_eq_true _
            · rw [decide_eq_false z]; exact beq_eq_false_iff_ne.2 z
          generalize fieldB ks[m] = fb at cf T1 T2 YD
          generalize bs (oT ks[m] p) = tx1 at T1 YD HEQ
          generalize bs (oT ks[m] q) = tx2 at T2 YD HEQ
          clear hk7 hk6p hk6q hBr HFO
          have FIN : Hid (∀ (W' : World) (B : Nat), Below wr.heap.size wr W' → W'.heap[B]? = some (.cells #[.string id, .string fb, .string tx1, .string tx2] 82 (0, 0)) → (W'.cell? ⟨B, 0, none⟩ = some (.string id) ∧ W'.cell? ⟨B, 1, none⟩ = some (.string fb) ∧ W'.cell? ⟨B, 2, none⟩ = some (.string tx1) ∧ W'.cell? ⟨B, 3, none⟩ = some (.string tx2)) ∧ Hid (J (o0 ++ (((ks.take m).filter fun k => decide (oT k p ≠ oT k q)).map fun k => (⟨id, k, p, q⟩ : DC))) W') ∧ Hid (IO W' be1 be2 nf Bi #[.string E1.id, .string E1.ti, .int .i64 E1.st, .int .i64 E1.lg, .string E1.f, .int .i64 E1.e, .slice r1 E1.ds.length rc1, .int .i64 E1.c, .int .i64 E1.u, .slice s1 E1.sk.length sc1, .slice m1 E1.mv.length mc1] #[.string E2.id, .string E2.ti, .int .i64 E2.st, .int .i64 E2.lg, .string E2.f, .int .i64 E2.e, .slice r2 E2.ds.length rc2, .int .i64 E2.c, .int .i64 E2.u, .slice s2 E2.sk.length sc2, .slice m2 E2.mv.length mc2] fo E1 E2 (.slice r1 E1.ds.length rc1) (.slice s1 E1.sk.length sc1) (.slice m1 E1.mv.length mc1) (.slice r2 E2.ds.length rc2) (.slice s2 E2.sk.length sc2) (.slice m2 E2.mv.length mc2) id)) := fun W' B hW' hk => ⟨blk4 hk, HJS.out _ _ _ HJ.out hW', HI.out.step hW'⟩
          gi_upto_region 8 with (fail)
          refine wpIn_wide.2 ?_
          go_region_held3 (fun W => Below wr.heap.size wr W ∧ W.cell? ⟨Bi, 0, none⟩ = some (.string id) ∧ W.cell? ⟨be1, 0, none⟩ = some (.string E1.id) ∧ W.cell? ⟨be1, 1, none⟩ = some (.string E1.ti) ∧ W.cell? ⟨be1, 2, none⟩ = some (.int .i64 E1.st) ∧ W.cell? ⟨be1, 3, none⟩ = some (.int .i64 E1.lg) ∧ W.cell? ⟨be1, 4, none⟩ = some (.string E1.f) ∧ W.cell? ⟨be1, 5, none⟩ = some (.int .i64 E1.e) ∧ W.cell? ⟨be1, 6, none⟩ = some (.slice r1 E1.ds.length rc1) ∧ W.cell? ⟨be1, 7, none⟩ = some (.int .i64 E1.c) ∧ W.cell? ⟨be1, 8, none⟩ = some (.int .i64 E1.u) ∧ W.cell? ⟨be1, 9, none⟩ = some (.slice s1 E1.sk.length sc1) ∧ W.cell? ⟨be1, 10, none⟩ = some (.slice m1 E1.mv.length mc1) ∧ W.cell? ⟨be2, 0, none⟩ = some (.string E2.id) ∧ W.cell? ⟨be2, 1, none⟩ = some (.string E2.ti) ∧ W.cell? ⟨be2, 2, none⟩ = some (.int .i64 E2.st) ∧ W.cell? ⟨be2, 3, none⟩ = some (.int .i64 E2.lg) ∧ W.cell? ⟨be2, 4, none⟩ = some (.string E2.f) ∧ W.cell? ⟨be2, 5, none⟩ = some (.int .i64 E2.e) ∧ W.cell? ⟨be2, 6, none⟩ = some (.slice r2 E2.ds.length rc2) ∧ W.cell? ⟨be2, 7, none⟩ = some (.int .i64 E2.c) ∧ W.cell? ⟨be2, 8, none⟩ = some (.int .i64 E2.u) ∧ W.cell? ⟨be2, 9, none⟩ = some (.slice s2 E2.sk.length sc2) ∧ W.cell? ⟨be2, 10, none⟩ = some (.slice m2 E2.mv.length mc2)) ((refine KS.out _ ?_; (first | with_reducible assumption | with_reducible exact drew_below _ | with_reducible exact below_then (below_alloc _ _) (drew_below _) | with_reducible exact below_then (drew_below _) (below_alloc _ _) | with_reducible exact below_then kA (below_alloc _ _) | with_reducible exact below_then kB (below_alloc _ _) | (rw [put4_fold]; (first | with_reducible exact put4_below kB kA.size | with_reducible exact put4_below kA kB.size | with_reducible exact put4_below kB (Nat.le_refl _) | with_reducible exact put4_below kA (Nat.le_refl _))))))
            ((first
              | (go_at_call_of 95 (Value.agg #[.string E1.id, .string E1.ti, .int .i64 E1.st, .int .i64 E1.lg, .string E1.f, .int .i64 E1.e, .slice r1 E1.ds.length rc1, .int .i64 E1.c, .int .i64 E1.u, .slice s1 E1.sk.length sc1, .slice m1 E1.mv.length mc1]); refine Calls.mono (T1.out _ ?_) ?_; (first | with_reducible assumption | with_reducible exact drew_below _ | with_reducible exact below_then (below_alloc _ _) (drew_below _) | with_reducible exact below_then (drew_below _) (below_alloc _ _) | with_reducible exact below_then kB (below_alloc _ _)); rintro r wA ⟨rfl, hbA⟩; have kA : Below wr.heap.size wr wA := (by first | with_reducible exact below_then (drew_below _) hbA | with_reducible exact below_then kB hbA | with_reducible exact below_then (below_then (drew_below _) (below_alloc _ _)) hbA | with_reducible exact below_then (below_then (below_alloc _ _) (drew_below _)) hbA | with_reducible exact below_then (below_then kB (below_alloc _ _)) hbA); try (first | (have zA : wA.heap[wr.heap.size]? = some (.cells #[.string ⟨#[]⟩, .string ⟨#[]⟩, .string ⟨#[]⟩, .string ⟨#[]⟩] 82 (0, 0)) := (hbA.block _ (show wr.heap.size < (wr.alloc _).heap.size from (Nat.lt_of_lt_of_eq (Nat.lt_succ_self _) (World.size_alloc _ _).symm))).trans (block_at (W := wr) _ rfl)) | (have zA : wA.heap[wB.heap.size]? = some (.cells #[.string ⟨#[]⟩, .string ⟨#[]⟩, .string ⟨#[]⟩, .string ⟨#[]⟩] 82 (0, 0)) := (hbA.block _ (show wB.heap.size < (wB.alloc _).heap.size from (Nat.lt_of_lt_of_eq (Nat.lt_succ_self _) (World.size_alloc _ _).symm))).trans (block_at (W := wB) _ rfl)) | (have zA : wA.heap[wr.heap.size]? = some (.cells #[.string ⟨#[]⟩, .string ⟨#[]⟩, .string ⟨#[]⟩, .string ⟨#[]⟩] 82 (0, 0)) := (hbA.block _ (Array.getElem?_eq_some_iff.1 zB).1).trans zB)); try (obtain ⟨qA0, qA1, qA2, qA3⟩ := blk4 zA; have fA0 := blk11_frozen zA 0; have fA1 := blk11_frozen zA 1; have fA2 := blk11_frozen zA 2; have fA3 := blk11_frozen zA 3))
              | (go_at_call_of 95 (Value.agg #[.string E2.id, .string E2.ti, .int .i64 E2.st, .int .i64 E2.lg, .string E2.f, .int .i64 E2.e, .slice r2 E2.ds.length rc2, .int .i64 E2.c, .int .i64 E2.u, .slice s2 E2.sk.length sc2, .slice m2 E2.mv.length mc2]); refine Calls.mono (T2.out _ ?_) ?_; (first | with_reducible assumption | with_reducible exact drew_below _ | with_reducible exact below_then (below_alloc _ _) (drew_below _) | with_reducible exact below_then (drew_below _) (below_alloc _ _) | with_reducible exact below_then kA (below_alloc _ _)); rintro r wB ⟨rfl, hbB⟩; have kB : Below wr.heap.size wr wB := (by first | with_reducible exact below_then (drew_below _) hbB | with_reducible exact below_then kA hbB | with_reducible exact below_then (below_then (drew_below _) (below_alloc _ _)) hbB | with_reducible exact below_then (below_then (below_alloc _ _) (drew_below _)) hbB | with_reducible exact below_then (below_then kA (below_alloc _ _)) hbB); try (first | (have zB : wB.heap[wr.heap.size]? = some (.cells #[.string ⟨#[]⟩, .string ⟨#[]⟩, .string ⟨#[]⟩, .string ⟨#[]⟩] 82 (0, 0)) := (hbB.block _ (show wr.heap.size < (wr.alloc _).heap.size from (Nat.lt_of_lt_of_eq (Nat.lt_succ_self _) (World.size_alloc _ _).symm))).trans (block_at (W := wr) _ rfl)) | (have zB : wB.heap[wA.heap.size]? = some (.cells #[.string ⟨#[]⟩, .string ⟨#[]⟩, .string ⟨#[]⟩, .string ⟨#[]⟩] 82 (0, 0)) := (hbB.block _ (show wA.heap.size < (wA.alloc _).heap.size from (Nat.lt_of_lt_of_eq (Nat.lt_succ_self _) (World.size_alloc _ _).symm))).trans (block_at (W := wA) _ rfl)) | (have zB : wB.heap[wr.heap.size]? = some (.cells #[.string ⟨#[]⟩, .string ⟨#[]⟩, .string ⟨#[]⟩, .string ⟨#[]⟩] 82 (0, 0)) := (hbB.block _ (Array.getElem?_eq_some_iff.1 zA).1).trans zA)); try (obtain ⟨qB0, qB1, qB2, qB3⟩ := blk4 zB; have fB0 := blk11_frozen zB 0; have fB1 := blk11_frozen zB 1; have fB2 := blk11_frozen zB 2; have fB3 := blk11_frozen zB 3))))
          · obtain ⟨⟨q0, q1, q2, q3⟩, HJw, HIw⟩ := FIN.out (wB.alloc (.cells #[.string id, .string fb, .string tx1, .string tx2] 82)) wB.heap.size (below_then kB (below_alloc _ _)) (block_at _ rfl)
            clear kA kB hbA hbB
            generalize (wB.alloc (.cells #[.string id, .string fb, .string tx1, .string tx2] 82)) = wq at q0 q1 q2 q3 HJw HIw ⊢
            generalize wB.heap.size = bx at q0 q1 q2 q3 ⊢
            rcases Decidable.em (oT ks[m] p = oT ks[m] q) with z | z
            · have he : tx1.toList = tx2.toList := by
                have := HEQ.out
                rw [decide_eq_true z] at this
                exact eq_of_beq this
              have HJ3 : Hid (J (o0 ++ ((ks.take (m + 1)).filter fun k => decide (oT k p ≠ oT k q)).map (fun k => (⟨id, k, p, q⟩ : DC))) wq) := by
                show J _ _
                rw [HTK.out, if_pos z, List.append_nil]
                exact HJw.out
              clear z HEQ HTK
              gi_wp2
              refine ⟨(fun f h => by cases h), ?_⟩
              gi_wp2
              go_roundw
              case rel => exact ⟨m + 1, by omega, by go_num, HJ3, HIw⟩
              case measure => simp [intOf]; omega
            · have he : ¬ tx1.toList = tx2.toList := fun h => by
                have := HEQ.out
                rw [decide_eq_false z, h, beq_self_eq_true] at this
                cases this
              obtain ⟨fn, tmps, assign, body, hy, hR⟩ := YD.out _ HJw.out
              have HTN : Hid (∀ W3, J ((o0 ++ (((ks.take m).filter fun k => decide (oT k p ≠ oT k q)).map fun k => (⟨id, k, p, q⟩ : DC))) ++ [⟨id, ks[m], p, q⟩]) W3 → J (o0 ++ ((ks.take (m + 1)).filter fun k => decide (oT k p ≠ oT k q)).map (fun k => (⟨id, k, p, q⟩ : DC))) W3) := fun W3 h => by
                rw [HTK.out, if_neg z, ← List.append_assoc]
                exact h
              clear z HEQ HTK
              gi_wp2
              refine hR.mono ?_
              rintro e W3 ⟨rfl, hJ3, hK3⟩
              have HJ3 : Hid (J (o0 ++ ((ks.take (m + 1)).filter fun k => decide (oT k p ≠ oT k q)).map (fun k => (⟨id, k, p, q⟩ : DC))) W3) := HTN.out _ hJ3
              have HI3 : Hid (IO W3 be1 be2 nf Bi #[.string E1.id, .string E1.ti, .int .i64 E1.st, .int .i64 E1.lg, .string E1.f, .int .i64 E1.e, .slice r1 E1.ds.length rc1, .int .i64 E1.c, .int .i64 E1.u, .slice s1 E1.sk.length sc1, .slice m1 E1.mv.length mc1] #[.string E2.id, .string E2.ti, .int .i64 E2.st, .int .i64 E2.lg, .string E2.f, .int .i64 E2.e, .slice r2 E2.ds.length rc2, .int .i64 E2.c, .int .i64 E2.u, .slice s2 E2.sk.length sc2, .slice m2 E2.mv.length mc2] fo E1 E2 (.slice r1 E1.ds.length rc1) (.slice s1 E1.sk.length sc1) (.slice m1 E1.mv.length mc1) (.slice r2 E2.ds.length rc2) (.slice s2 E2.sk.length sc2) (.slice m2 E2.mv.length mc2) id) := HIw.out.keep hK3 HNE.out.1 HNE.out.2.1 HNF hne (HJN.out _ _ HJw.out).1
              clear hJ3 hK3
              gi_wp2
              go_roundw
              case rel => exact ⟨m + 1, by omega, by go_num, HJ3, HI3⟩
              case measure => simp [intOf]; omega
          · rw [put4_fold]
            obtain ⟨⟨q0, q1, q2, q3⟩, HJw, HIw⟩ := FIN.out (put4 wB wA.heap.size (.string id) (.string fb) (.string tx1) (.string tx2)) wA.heap.size (put4_below kB kA.size) (put4_blk _ _ _ _ zB)
            clear kA kB hbA hbB
            generalize (put4 wB wA.heap.size (.string id) (.string fb) (.string tx1) (.string tx2)) = wq at q0 q1 q2 q3 HJw HIw ⊢
            generalize wA.heap.size = bx at q0 q1 q2 q3 ⊢
            rcases Decidable.em (oT ks[m] p = oT ks[m] q) with z | z
            · have he : tx1.toList = tx2.toList := by
                have := HEQ.out
                rw [decide_eq_true z] at this
                exact eq_of_beq this
              have HJ3 : Hid (J (o0 ++ ((ks.take (m + 1)).filter fun k => decide (oT k p ≠ oT k q)).map (fun k => (⟨id, k, p, q⟩ : DC))) wq) := by
                show J _ _
                rw [HTK.out, if_pos z, List.append_nil]
                exact HJw.out
              clear z HEQ HTK
              gi_wp2
              refine ⟨(fun f h => by cases h), ?_⟩
              gi_wp2
              go_roundw
              case rel => exact ⟨m + 1, by omega, by go_num, HJ3, HIw⟩
              case measure => simp [intOf]; omega
            · have he : ¬ tx1.toList = tx2.toList := fun h => by
                have := HEQ.out
                rw [decide_eq_false z, h, beq_self_eq_true] at this
                cases this
              obtain ⟨fn, tmps, assign, body, hy, hR⟩ := YD.out _ HJw.out
              have HTN : Hid (∀ W3, J ((o0 ++ (((ks.take m).filter fun k => decide (oT k p ≠ oT k q)).map fun k => (⟨id, k, p, q⟩ : DC))) ++ [⟨id, ks[m], p, q⟩]) W3 → J (o0 ++ ((ks.take (m + 1)).filter fun k => decide (oT k p ≠ oT k q)).map (fun k => (⟨id, k, p, q⟩ : DC))) W3) := fun W3 h => by
                rw [HTK.out, if_neg z, ← List.append_assoc]
                exact h
              clear z HEQ HTK
              gi_wp2
              refine hR.mono ?_
              rintro e W3 ⟨rfl, hJ3, hK3⟩
              have HJ3 : Hid (J (o0 ++ ((ks.take (m + 1)).filter fun k => decide (oT k p ≠ oT k q)).map (fun k => (⟨id, k, p, q⟩ : DC))) W3) := HTN.out _ hJ3
              have HI3 : Hid (IO W3 be1 be2 nf Bi #[.string E1.id, .string E1.ti, .int .i64 E1.st, .int .i64 E1.lg, .string E1.f, .int .i64 E1.e, .slice r1 E1.ds.length rc1, .int .i64 E1.c, .int .i64 E1.u, .slice s1 E1.sk.length sc1, .slice m1 E1.mv.length mc1] #[.string E2.id, .string E2.ti, .int .i64 E2.st, .int .i64 E2.lg, .string E2.f, .int .i64 E2.e, .slice r2 E2.ds.length rc2, .int .i64 E2.c, .int .i64 E2.u, .slice s2 E2.sk.length sc2, .slice m2 E2.mv.length mc2] fo E1 E2 (.slice r1 E1.ds.length rc1) (.slice s1 E1.sk.length sc1) (.slice m1 E1.mv.length mc1) (.slice r2 E2.ds.length rc2) (.slice s2 E2.sk.length sc2) (.slice m2 E2.mv.length mc2) id) := HIw.out.keep hK3 HNE.out.1 HNE.out.2.1 HNF hne (HJN.out _ _ HJw.out).1
              clear hJ3 hK3
              gi_wp2
              go_roundw
              case rel => exact ⟨m + 1, by omega, by go_num, HJ3, HI3⟩
              case measure => simp [intOf]; omega
          · rw [put4_fold]
            obtain ⟨⟨q0, q1, q2, q3⟩, HJw, HIw⟩ := FIN.out (put4 wB wr.heap.size (.string id) (.string fb) (.string tx1) (.string tx2)) wr.heap.size (put4_below kB (Nat.le_refl _)) (put4_blk _ _ _ _ zB)
            clear kA kB hbA hbB
            generalize (put4 wB wr.heap.size (.string id) (.string fb) (.string tx1) (.string tx2)) = wq at q0 q1 q2 q3 HJw HIw ⊢
            generalize wr.heap.size = bx at q0 q1 q2 q3 ⊢
            rcases Decidable.em (oT ks[m] p = oT ks[m] q) with z | z
            · have he : tx1.toList = tx2.toList := by
                have := HEQ.out
                rw [decide_eq_true z] at this
                exact eq_of_beq this
              have HJ3 : Hid (J (o0 ++ ((ks.take (m + 1)).filter fun k => decide (oT k p ≠ oT k q)).map (fun k => (⟨id, k, p, q⟩ : DC))) wq) := by
                show J _ _
                rw [HTK.out, if_pos z, List.append_nil]
                exact HJw.out
              clear z HEQ HTK
              gi_wp2
              refine ⟨(fun f h => by cases h), ?_⟩
              gi_wp2
              go_roundw
              case rel => exact ⟨m + 1, by omega, by go_num, HJ3, HIw⟩
              case measure => simp [intOf]; omega
            · have he : ¬ tx1.toList = tx2.toList := fun h => by
                have := HEQ.out
                rw [decide_eq_false z, h, beq_self_eq_true] at this
                cases this
              obtain ⟨fn, tmps, assign, body, hy, hR⟩ := YD.out _ HJw.out
              have HTN : Hid (∀ W3, J ((o0 ++ (((ks.take m).filter fun k => decide (oT k p ≠ oT k q)).map fun k => (⟨id, k, p, q⟩ : DC))) ++ [⟨id, ks[m], p, q⟩]) W3 → J (o0 ++ ((ks.take (m + 1)).filter fun k => decide (oT k p ≠ oT k q)).map (fun k => (⟨id, k, p, q⟩ : DC))) W3) := fun W3 h => by
                rw [HTK.out, if_neg z, ← List.append_assoc]
                exact h
              clear z HEQ HTK
              gi_wp2
              refine hR.mono ?_
              rintro e W3 ⟨rfl, hJ3, hK3⟩
              have HJ3 : Hid (J (o0 ++ ((ks.take (m + 1)).filter fun k => decide (oT k p ≠ oT k q)).map (fun k => (⟨id, k, p, q⟩ : DC))) W3) := HTN.out _ hJ3
              have HI3 : Hid (IO W3 be1 be2 nf Bi #[.string E1.id, .string E1.ti, .int .i64 E1.st, .int .i64 E1.lg, .string E1.f, .int .i64 E1.e, .slice r1 E1.ds.length rc1, .int .i64 E1.c, .int .i64 E1.u, .slice s1 E1.sk.length sc1, .slice m1 E1.mv.length mc1] #[.string E2.id, .string E2.ti, .int .i64 E2.st, .int .i64 E2.lg, .string E2.f, .int .i64 E2.e, .slice r2 E2.ds.length rc2, .int .i64 E2.c, .int .i64 E2.u, .slice s2 E2.sk.length sc2, .slice m2 E2.mv.length mc2] fo E1 E2 (.slice r1 E1.ds.length rc1) (.slice s1 E1.sk.length sc1) (.slice m1 E1.mv.length mc1) (.slice r2 E2.ds.length rc2) (.slice s2 E2.sk.length sc2) (.slice m2 E2.mv.length mc2) id) := HIw.out.keep hK3 HNE.out.1 HNE.out.2.1 HNF hne (HJN.out _ _ HJw.out).1
              clear hJ3 hK3
              gi_wp2
              go_roundw
              case rel => exact ⟨m + 1, by omega, by go_num, HJ3, HI3⟩
              case measure => simp [intOf]; omega
        · have HJE : Hid (J (o0 ++ dl id p q) wr) := by
            have := HJ.out
            rw [List.take_of_length_le (by rw [HKN.out]; omega)] at this
            show J _ _
            rw [HDL.out, HKQ.out]
            exact this
          have hmi : ¬ ((m : Int) < 1) := by omega
          clear HJ HI
          gi_wp2
          go_end0
          exact ⟨⟨_, rfl⟩, HJE.out⟩
  | false =>
    gi_wp2
    obtain ⟨ks, hks⟩ : ∃ ks : List Nat, ks = [6] := ⟨_, rfl⟩
    obtain ⟨fo, hfo⟩ : ∃ fo : Array Value, fo = #[.string ⟨#[97, 108, 108]⟩] := ⟨_, rfl⟩
    have hf6 : ((w4.alloc fldO).alloc (.cells #[.string ⟨#[97, 108, 108]⟩] 9)).heap[w4.heap.size + 1]? = some (.cells fo 9 (0, 0)) := by rw [hfo]; exact block_at _ (by first | rfl | exact (World.size_alloc _ _).symm | exact World.size_alloc _ _)
    have HFO : Hid (∀ (m : Nat) (h : m < ks.length), fo[m]? = some (.string (fieldB ks[m]))) := fun m h => by
      subst hks hfo
      match m, h with
      | 0, _ => rfl
    have HKN : Hid (ks.length = 1) := by show _ = _; rw [hks]; rfl
    have HKS : Hid (∀ k ∈ ks, k < 7 ∧ (p = none → k = 6) ∧ (q = none → k = 6)) := fun k hk => by
      subst hks
      have z : k = 6 := List.mem_singleton.1 hk
      exact ⟨by omega, fun _ => z, fun _ => z⟩
    have HKQ : Hid (kl p q = ks) := by
      rw [hks]
      rcases HKL.out with ⟨zA, zB, z⟩ | ⟨zz, z⟩
      · first | exact absurd zA (by decide) | exact absurd zB (by decide)
      · exact z
    obtain ⟨j6, io6⟩ := PRE.out ks (w4.heap.size + 1) fo ((w4.alloc fldO).alloc (.cells #[.string ⟨#[97, 108, 108]⟩] 9)) (Nat.le_succ _) (below_then (below_alloc _ _) (below_alloc _ _)) hf6
    have J6 : Hid (J o0 ((w4.alloc fldO).alloc (.cells #[.string ⟨#[97, 108, 108]⟩] 9))) := j6
    have HNF := HNE.out.2.2 (w4.heap.size + 1) (Nat.le_succ _)
    have IO6 : Hid (_) := io6
    clear j6 io6 hf6 hks hfo PRE KE2 KE14 HL4 HL14 K4
    generalize ((w4.alloc fldO).alloc (.cells #[.string ⟨#[97, 108, 108]⟩] 9)) = w6 at J6 IO6 ⊢
    generalize w4.heap.size + 1 = nf at IO6 HNF ⊢
    gi_loopw [11, 12, 35] (fun _ _ i wr => ∃ m : Nat, m ≤ 1 ∧ i = .int .i64 m ∧ Hid (J (o0 ++ (((ks.take m).filter fun k => decide (oT k p ≠ oT k q)).map fun k => (⟨id, k, p, q⟩ : DC))) wr) ∧ Hid (IO wr be1 be2 nf Bi #[.string E1.id, .string E1.ti, .int .i64 E1.st, .int .i64 E1.lg, .string E1.f, .int .i64 E1.e, .slice r1 E1.ds.length rc1, .int .i64 E1.c, .int .i64 E1.u, .slice s1 E1.sk.length sc1, .slice m1 E1.mv.length mc1] #[.string E2.id, .string E2.ti, .int .i64 E2.st, .int .i64 E2.lg, .string E2.f, .int .i64 E2.e, .slice r2 E2.ds.length rc2, .int .i64 E2.c, .int .i64 E2.u, .slice s2 E2.sk.length sc2, .slice m2 E2.mv.length mc2] fo E1 E2 (.slice r1 E1.ds.length rc1) (.slice s1 E1.sk.length sc1) (.slice m1 E1.mv.length mc1) (.slice r2 E2.ds.length rc2) (.slice s2 E2.sk.length sc2) (.slice m2 E2.mv.length mc2) id)) (fun _ _ i _ => 1 - (intOf i).toNat)
    case atStart => exact ⟨0, Nat.zero_le _, rfl, by rw [List.take_zero, List.filter_nil, List.map_nil, List.append_nil]; exact J6.out, IO6.out⟩
    case round =>
      obtain ⟨m, hm, rfl, HJ, HI⟩ := hrel
      by_cases hlt : m < 1
      · have hmk : m < ks.length := by rw [HKN.out]; exact hlt
        have hmi : (m : Int) < 1 := by omega
        obtain ⟨hk7, hk6p, hk6q⟩ := HKS.out ks[m] (List.getElem_mem hmk)
        have cf : wr.cell? ⟨nf, m, none⟩ = some (.string (fieldB ks[m])) := by
          have := HFO.out m hmk
          simp [World.cell?, HI.out.kf, this]
        have HTK : Hid (((ks.take (m + 1)).filter fun k => decide (oT k p ≠ oT k q)).map (fun k => (⟨id, k, p, q⟩ : DC)) = (((ks.take m).filter fun k => decide (oT k p ≠ oT k q)).map fun k => (⟨id, k, p, q⟩ : DC)) ++ (if oT ks[m] p = oT ks[m] q then [] else [⟨id, ks[m], p, q⟩])) := by
          show _ = _
          rw [List.take_succ_eq_append_getElem hmk, List.filter_append, List.map_append]
          congr 1
          by_cases z : oT ks[m] p = oT ks[m] q
          · rw [if_pos z, List.filter_cons_of_neg (by simpa using z)]; rfl
          · rw [if_neg z, List.filter_cons_of_pos (by simpa using z)]; rfl
        have hBr := HJB.out _ _ HJ.out
        have T1 : Hid (∀ W', Below wr.heap.size wr W' → Calls Tryz.prog 95 #[ev E1 (.slice r1 E1.ds.length rc1) (.slice s1 E1.sk.length sc1) (.slice m1 E1.mv.length mc1), .string (fieldB ks[m])] W' fun r w' => r = .returned (.string (bs (oT ks[m] p))) ∧ Below W'.heap.size W' w') := fun W' hW' => TX.out p E1 _ _ _ ks[m] W' HEX.out HP1.out hk6p hk7 (below_then hBr hW') (HI.out.l1.step hW')
        have T2 : Hid (∀ W', Below wr.heap.size wr W' → Calls Tryz.prog 95 #[ev E2 (.slice r2 E2.ds.length rc2) (.slice s2 E2.sk.length sc2) (.slice m2 E2.mv.length mc2), .string (fieldB ks[m])] W' fun r w' => r = .returned (.string (bs (oT ks[m] q))) ∧ Below W'.heap.size W' w') := fun W' hW' => TX.out q E2 _ _ _ ks[m] W' HEY.out HP2.out hk6q hk7 (below_then hBr hW') (HI.out.l2.step hW')
        have YD : Hid (∀ W', J (o0 ++ (((ks.take m).filter fun k => decide (oT k p ≠ oT k q)).map fun k => (⟨id, k, p, q⟩ : DC))) W' → YieldAt Fence.wide (n - 1) Tryz.prog l #[.agg #[.string id, .string (fieldB ks[m]), .string (bs (oT ks[m] p)), .string (bs (oT ks[m] q))]] W' fun e W'' => e = .returned (.bool true) ∧ J ((o0 ++ (((ks.take m).filter fun k => decide (oT k p ≠ oT k q)).map fun k => (⟨id, k, p, q⟩ : DC))) ++ [⟨id, ks[m], p, q⟩]) W'' ∧ RKeep Bl l W' W'') := fun W' hW' => HYD.out _ ks[m] W' hk7 (by rw [List.length_append, List.length_map]; have := List.length_filter_le (fun k => decide (oT k p ≠ oT k q)) (ks.take m); rw [List.length_take] at this; omega) hW'
        obtain ⟨x0, x1, x2, x3, x4, x5, x6, x7, x8, x9, x10⟩ := blk11 HI.out.k1
        obtain ⟨y0, y1, y2, y3, y4, y5, y6, y7, y8, y9, y10⟩ := blk11 HI.out.k2
        have ci : wr.cell? ⟨Bi, 0, none⟩ = some (.string id) := by simp [World.cell?, HI.out.ki]
        have KS : Hid (∀ W, Below wr.heap.size wr W → Below wr.heap.size wr W ∧ W.cell? ⟨Bi, 0, none⟩ = some (.string id) ∧ W.cell? ⟨be1, 0, none⟩ = some (.string E1.id) ∧ W.cell? ⟨be1, 1, none⟩ = some (.string E1.ti) ∧ W.cell? ⟨be1, 2, none⟩ = some (.int .i64 E1.st) ∧ W.cell? ⟨be1, 3, none⟩ = some (.int .i64 E1.lg) ∧ W.cell? ⟨be1, 4, none⟩ = some (.string E1.f) ∧ W.cell? ⟨be1, 5, none⟩ = some (.int .i64 E1.e) ∧ W.cell? ⟨be1, 6, none⟩ = some (.slice r1 E1.ds.length rc1) ∧ W.cell? ⟨be1, 7, none⟩ = some (.int .i64 E1.c) ∧ W.cell? ⟨be1, 8, none⟩ = some (.int .i64 E1.u) ∧ W.cell? ⟨be1, 9, none⟩ = some (.slice s1 E1.sk.length sc1) ∧ W.cell? ⟨be1, 10, none⟩ = some (.slice m1 E1.mv.length mc1) ∧ W.cell? ⟨be2, 0, none⟩ = some (.string E2.id) ∧ W.cell? ⟨be2, 1, none⟩ = some (.string E2.ti) ∧ W.cell? ⟨be2, 2, none⟩ = some (.int .i64 E2.st) ∧ W.cell? ⟨be2, 3, none⟩ = some (.int .i64 E2.lg) ∧ W.cell? ⟨be2, 4, none⟩ = some (.string E2.f) ∧ W.cell? ⟨be2, 5, none⟩ = some (.int .i64 E2.e) ∧ W.cell? ⟨be2, 6, none⟩ = some (.slice r2 E2.ds.length rc2) ∧ W.cell? ⟨be2, 7, none⟩ = some (.int .i64 E2.c) ∧ W.cell? ⟨be2, 8, none⟩ = some (.int .i64 E2.u) ∧ W.cell? ⟨be2, 9, none⟩ = some (.slice s2 E2.sk.length sc2) ∧ W.cell? ⟨be2, 10, none⟩ = some (.slice m2 E2.mv.length mc2)) := fun W hW => ⟨hW, cell_step ci hW, cell_step x0 hW, cell_step x1 hW, cell_step x2 hW, cell_step x3 hW, cell_step x4 hW, cell_step x5 hW, cell_step x6 hW, cell_step x7 hW, cell_step x8 hW, cell_step x9 hW, cell_step x10 hW, cell_step y0 hW, cell_step y1 hW, cell_step y2 hW, cell_step y3 hW, cell_step y4 hW, cell_step y5 hW, cell_step y6 hW, cell_step y7 hW, cell_step y8 hW, cell_step y9 hW, cell_step y10 hW⟩
        unfold ev at T1 T2
        have HEQ : Hid (((bs (oT ks[m] p)).toList == (bs (oT ks[m] q)).toList) = decide (oT ks[m] p = oT ks[m] q)) := by
          show _ = _
          rw [ByteArray.toList_eq, ByteArray.toList_eq]
          show (oT ks[m] p == oT ks[m] q) = _
          by_cases z : oT ks[m] p = oT ks[m] q
          · rw [decide_eq_true z, z]; exact beq_self_eq_true _
          · rw [decide_eq_false z]; exact beq_eq_false_iff_ne.2 z
        generalize fieldB ks[m] = fb at cf T1 T2 YD
        generalize bs (oT ks[m] p) = tx1 at T1 YD HEQ
        generalize bs (oT ks[m] q) = tx2 at T2 YD HEQ
        clear hk7 hk6p hk6q hBr HFO
        have FIN : Hid (∀ (W' : World) (B : Nat), Below wr.heap.size wr W' → W'.heap[B]? = some (.cells #[.string id, .string fb, .string tx1, .string tx2] 82 (0, 0)) → (W'.cell? ⟨B, 0, none⟩ = some (.string id) ∧ W'.cell? ⟨B, 1, none⟩ = some (.string fb) ∧ W'.cell? ⟨B, 2, none⟩ = some (.string tx1) ∧ W'.cell? ⟨B, 3, none⟩ = some (.string tx2)) ∧ Hid (J (o0 ++ (((ks.take m).filter fun k => decide (oT k p ≠ oT k q)).map fun k => (⟨id, k, p, q⟩ : DC))) W') ∧ Hid (IO W' be1 be2 nf Bi #[.string E1.id, .string E1.ti, .int .i64 E1.st, .int .i64 E1.lg, .string E1.f, .int .i64 E1.e, .slice r1 E1.ds.length rc1, .int .i64 E1.c, .int .i64 E1.u, .slice s1 E1.sk.length sc1, .slice m1 E1.mv.length mc1] #[.string E2.id, .string E2.ti, .int .i64 E2.st, .int .i64 E2.lg, .string E2.f, .int .i64 E2.e, .slice r2 E2.ds.length rc2, .int .i64 E2.c, .int .i64 E2.u, .slice s2 E2.sk.length sc2, .slice m2 E2.mv.length mc2] fo E1 E2 (.slice r1 E1.ds.length rc1) (.slice s1 E1.sk.length sc1) (.slice m1 E1.mv.length mc1) (.slice r2 E2.ds.length rc2) (.slice s2 E2.sk.length sc2) (.slice m2 E2.mv.length mc2) id)) := fun W' B hW' hk => ⟨blk4 hk, HJS.out _ _ _ HJ.out hW', HI.out.step hW'⟩
        gi_upto_region 8 with (fail)
        refine wpIn_wide.2 ?_
        go_region_held3 (fun W => Below wr.heap.size wr W ∧ W.cell? ⟨Bi, 0, none⟩ = some (.string id) ∧ W.cell? ⟨be1, 0, none⟩ = some (.string E1.id) ∧ W.cell? ⟨be1, 1, none⟩ = some (.string E1.ti) ∧ W.cell? ⟨be1, 2, none⟩ = some (.int .i64 E1.st) ∧ W.cell? ⟨be1, 3, none⟩ = some (.int .i64 E1.lg) ∧ W.cell? ⟨be1, 4, none⟩ = some (.string E1.f) ∧ W.cell? ⟨be1, 5, none⟩ = some (.int .i64 E1.e) ∧ W.cell? ⟨be1, 6, none⟩ = some (.slice r1 E1.ds.length rc1) ∧ W.cell? ⟨be1, 7, none⟩ = some (.int .i64 E1.c) ∧ W.cell? ⟨be1, 8, none⟩ = some (.int .i64 E1.u) ∧ W.cell? ⟨be1, 9, none⟩ = some (.slice s1 E1.sk.length sc1) ∧ W.cell? ⟨be1, 10, none⟩ = some (.slice m1 E1.mv.length mc1) ∧ W.cell? ⟨be2, 0, none⟩ = some (.string E2.id) ∧ W.cell? ⟨be2, 1, none⟩ = some (.string E2.ti) ∧ W.cell? ⟨be2, 2, none⟩ = some (.int .i64 E2.st) ∧ W.cell? ⟨be2, 3, none⟩ = some (.int .i64 E2.lg) ∧ W.cell? ⟨be2, 4, none⟩ = some (.string E2.f) ∧ W.cell? ⟨be2, 5, none⟩ = some (.int .i64 E2.e) ∧ W.cell? ⟨be2, 6, none⟩ = some (.slice r2 E2.ds.length rc2) ∧ W.cell? ⟨be2, 7, none⟩ = some (.int .i64 E2.c) ∧ W.cell? ⟨be2, 8, none⟩ = some (.int .i64 E2.u) ∧ W.cell? ⟨be2, 9, none⟩ = some (.slice s2 E2.sk.length sc2) ∧ W.cell? ⟨be2, 10, none⟩ = some (.slice m2 E2.mv.length mc2)) ((refine KS.out _ ?_; (first | with_reducible assumption | with_reducible exact drew_below _ | with_reducible exact below_then (below_alloc _ _) (drew_below _) | with_reducible exact below_then (drew_below _) (below_alloc _ _) | with_reducible exact below_then kA (below_alloc _ _) | with_reducible exact below_then kB (below_alloc _ _) | (rw [put4_fold]; (first | with_reducible exact put4_below kB kA.size | with_reducible exact put4_below kA kB.size | with_reducible exact put4_below kB (Nat.le_refl _) | with_reducible exact put4_below kA (Nat.le_refl _))))))
          ((first
            | (go_at_call_of 95 (Value.agg #[.string E1.id, .string E1.ti, .int .i64 E1.st, .int .i64 E1.lg, .string E1.f, .int .i64 E1.e, .slice r1 E1.ds.length rc1, .int .i64 E1.c, .int .i64 E1.u, .slice s1 E1.sk.length sc1, .slice m1 E1.mv.length mc1]); refine Calls.mono (T1.out _ ?_) ?_; (first | with_reducible assumption | with_reducible exact drew_below _ | with_reducible exact below_then (below_alloc _ _) (drew_below _) | with_reducible exact below_then (drew_below _) (below_alloc _ _) | with_reducible exact below_then kB (below_alloc _ _)); rintro r wA ⟨rfl, hbA⟩; have kA : Below wr.heap.size wr wA := (by first | with_reducible exact below_then (drew_below _) hbA | with_reducible exact below_then kB hbA | with_reducible exact below_then (below_then (drew_below _) (below_alloc _ _)) hbA | with_reducible exact below_then (below_then (below_alloc _ _) (drew_below _)) hbA | with_reducible exact below_then (below_then kB (below_alloc _ _)) hbA); try (first | (have zA : wA.heap[wr.heap.size]? = some (.cells #[.string ⟨#[]⟩, .string ⟨#[]⟩, .string ⟨#[]⟩, .string ⟨#[]⟩] 82 (0, 0)) := (hbA.block _ (show wr.heap.size < (wr.alloc _).heap.size from (Nat.lt_of_lt_of_eq (Nat.lt_succ_self _) (World.size_alloc _ _).symm))).trans (block_at (W := wr) _ rfl)) | (have zA : wA.heap[wB.heap.size]? = some (.cells #[.string ⟨#[]⟩, .string ⟨#[]⟩, .string ⟨#[]⟩, .string ⟨#[]⟩] 82 (0, 0)) := (hbA.block _ (show wB.heap.size < (wB.alloc _).heap.size from (Nat.lt_of_lt_of_eq (Nat.lt_succ_self _) (World.size_alloc _ _).symm))).trans (block_at (W := wB) _ rfl)) | (have zA : wA.heap[wr.heap.size]? = some (.cells #[.string ⟨#[]⟩, .string ⟨#[]⟩, .string ⟨#[]⟩, .string ⟨#[]⟩] 82 (0, 0)) := (hbA.block _ (Array.getElem?_eq_some_iff.1 zB).1).trans zB)); try (obtain ⟨qA0, qA1, qA2, qA3⟩ := blk4 zA; have fA0 := blk11_frozen zA 0; have fA1 := blk11_frozen zA 1; have fA2 := blk11_frozen zA 2; have fA3 := blk11_frozen zA 3))
            | (go_at_call_of 95 (Value.agg #[.string E2.id, .string E2.ti, .int .i64 E2.st, .int .i64 E2.lg, .string E2.f, .int .i64 E2.e, .slice r2 E2.ds.length rc2, .int .i64 E2.c, .int .i64 E2.u, .slice s2 E2.sk.length sc2, .slice m2 E2.mv.length mc2]); refine Calls.mono (T2.out _ ?_) ?_; (first | with_reducible assumption | with_reducible exact drew_below _ | with_reducible exact below_then (below_alloc _ _) (drew_below _) | with_reducible exact below_then (drew_below _) (below_alloc _ _) | with_reducible exact below_then kA (below_alloc _ _)); rintro r wB ⟨rfl, hbB⟩; have kB : Below wr.heap.size wr wB := (by first | with_reducible exact below_then (drew_below _) hbB | with_reducible exact below_then kA hbB | with_reducible exact below_then (below_then (drew_below _) (below_alloc _ _)) hbB | with_reducible exact below_then (below_then (below_alloc _ _) (drew_below _)) hbB | with_reducible exact below_then (below_then kA (below_alloc _ _)) hbB); try (first | (have zB : wB.heap[wr.heap.size]? = some (.cells #[.string ⟨#[]⟩, .string ⟨#[]⟩, .string ⟨#[]⟩, .string ⟨#[]⟩] 82 (0, 0)) := (hbB.block _ (show wr.heap.size < (wr.alloc _).heap.size from (Nat.lt_of_lt_of_eq (Nat.lt_succ_self _) (World.size_alloc _ _).symm))).trans (block_at (W := wr) _ rfl)) | (have zB : wB.heap[wA.heap.size]? = some (.cells #[.string ⟨#[]⟩, .string ⟨#[]⟩, .string ⟨#[]⟩, .string ⟨#[]⟩] 82 (0, 0)) := (hbB.block _ (show wA.heap.size < (wA.alloc _).heap.size from (Nat.lt_of_lt_of_eq (Nat.lt_succ_self _) (World.size_alloc _ _).symm))).trans (block_at (W := wA) _ rfl)) | (have zB : wB.heap[wr.heap.size]? = some (.cells #[.string ⟨#[]⟩, .string ⟨#[]⟩, .string ⟨#[]⟩, .string ⟨#[]⟩] 82 (0, 0)) := (hbB.block _ (Array.getElem?_eq_some_iff.1 zA).1).trans zA)); try (obtain ⟨qB0, qB1, qB2, qB3⟩ := blk4 zB; have fB0 := blk11_frozen zB 0; have fB1 := blk11_frozen zB 1; have fB2 := blk11_frozen zB 2; have fB3 := blk11_frozen zB 3))))
        · obtain ⟨⟨q0, q1, q2, q3⟩, HJw, HIw⟩ := FIN.out (wB.alloc (.cells #[.string id, .string fb, .string tx1, .string tx2] 82)) wB.heap.size (below_then kB (below_alloc _ _)) (block_at _ rfl)
          clear kA kB hbA hbB
          generalize (wB.alloc (.cells #[.string id, .string fb, .string tx1, .string tx2] 82)) = wq at q0 q1 q2 q3 HJw HIw ⊢
          generalize wB.heap.size = bx at q0 q1 q2 q3 ⊢
          rcases Decidable.em (oT ks[m] p = oT ks[m] q) with z | z
          · have he : tx1.toList = tx2.toList := by
              have := HEQ.out
              rw [decide_eq_true z] at this
              exact eq_of_beq this
            have HJ3 : Hid (J (o0 ++ ((ks.take (m + 1)).filter fun k => decide (oT k p ≠ oT k q)).map (fun k => (⟨id, k, p, q⟩ : DC))) wq) := by
              show J _ _
              rw [HTK.out, if_pos z, List.append_nil]
              exact HJw.out
            clear z HEQ HTK
            gi_wp2
            refine ⟨(fun f h => by cases h), ?_⟩
            gi_wp2
            go_roundw
            case rel => exact ⟨m + 1, by omega, by go_num, HJ3, HIw⟩
            case measure => simp [intOf]; omega
          · have he : ¬ tx1.toList = tx2.toList := fun h => by
              have := HEQ.out
              rw [decide_eq_false z, h, beq_self_eq_true] at this
              cases this
            obtain ⟨fn, tmps, assign, body, hy, hR⟩ := YD.out _ HJw.out
            have HTN : Hid (∀ W3, J ((o0 ++ (((ks.take m).filter fun k => decide (oT k p ≠ oT k q)).map fun k => (⟨id, k, p, q⟩ : DC))) ++ [⟨id, ks[m], p, q⟩]) W3 → J (o0 ++ ((ks.take (m + 1)).filter fun k => decide (oT k p ≠ oT k q)).map (fun k => (⟨id, k, p, q⟩ : DC))) W3) := fun W3 h => by
              rw [HTK.out, if_neg z, ← List.append_assoc]
              exact h
            clear z HEQ HTK
            gi_wp2
            refine hR.mono ?_
            rintro e W3 ⟨rfl, hJ3, hK3⟩
            have HJ3 : Hid (J (o0 ++ ((ks.take (m + 1)).filter fun k => decide (oT k p ≠ oT k q)).map (fun k => (⟨id, k, p, q⟩ : DC))) W3) := HTN.out _ hJ3
            have HI3 : Hid (IO W3 be1 be2 nf Bi #[.string E1.id, .string E1.ti, .int .i64 E1.st, .int .i64 E1.lg, .string E1.f, .int .i64 E1.e, .slice r1 E1.ds.length rc1, .int .i64 E1.c, .int .i64 E1.u, .slice s1 E1.sk.length sc1, .slice m1 E1.mv.length mc1] #[.string E2.id, .string E2.ti, .int .i64 E2.st, .int .i64 E2.lg, .string E2.f, .int .i64 E2.e, .slice r2 E2.ds.length rc2, .int .i64 E2.c, .int .i64 E2.u, .slice s2 E2.sk.length sc2, .slice m2 E2.mv.length mc2] fo E1 E2 (.slice r1 E1.ds.length rc1) (.slice s1 E1.sk.length sc1) (.slice m1 E1.mv.length mc1) (.slice r2 E2.ds.length rc2) (.slice s2 E2.sk.length sc2) (.slice m2 E2.mv.length mc2) id) := HIw.out.keep hK3 HNE.out.1 HNE.out.2.1 HNF hne (HJN.out _ _ HJw.out).1
            clear hJ3 hK3
            gi_wp2
            go_roundw
            case rel => exact ⟨m + 1, by omega, by go_num, HJ3, HI3⟩
            case measure => simp [intOf]; omega
        · rw [put4_fold]
          obtain ⟨⟨q0, q1, q2, q3⟩, HJw, HIw⟩ := FIN.out (put4 wB wA.heap.size (.string id) (.string fb) (.string tx1) (.string tx2)) wA.heap.size (put4_below kB kA.size) (put4_blk _ _ _ _ zB)
          clear kA kB hbA hbB
          generalize (put4 wB wA.heap.size (.string id) (.string fb) (.string tx1) (.string tx2)) = wq at q0 q1 q2 q3 HJw HIw ⊢
          generalize wA.heap.size = bx at q0 q1 q2 q3 ⊢
          rcases Decidable.em (oT ks[m] p = oT ks[m] q) with z | z
          · have he : tx1.toList = tx2.toList := by
              have := HEQ.out
              rw [decide_eq_true z] at this
              exact eq_of_beq this
            have HJ3 : Hid (J (o0 ++ ((ks.take (m + 1)).filter fun k => decide (oT k p ≠ oT k q)).map (fun k => (⟨id, k, p, q⟩ : DC))) wq) := by
              show J _ _
              rw [HTK.out, if_pos z, List.append_nil]
              exact HJw.out
            clear z HEQ HTK
            gi_wp2
            refine ⟨(fun f h => by cases h), ?_⟩
            gi_wp2
            go_roundw
            case rel => exact ⟨m + 1, by omega, by go_num, HJ3, HIw⟩
            case measure => simp [intOf]; omega
          · have he : ¬ tx1.toList = tx2.toList := fun h => by
              have := HEQ.out
              rw [decide_eq_false z, h, beq_self_eq_true] at this
              cases this
            obtain ⟨fn, tmps, assign, body, hy, hR⟩ := YD.out _ HJw.out
            have HTN : Hid (∀ W3, J ((o0 ++ (((ks.take m).filter fun k => decide (oT k p ≠ oT k q)).map fun k => (⟨id, k, p, q⟩ : DC))) ++ [⟨id, ks[m], p, q⟩]) W3 → J (o0 ++ ((ks.take (m + 1)).filter fun k => decide (oT k p ≠ oT k q)).map (fun k => (⟨id, k, p, q⟩ : DC))) W3) := fun W3 h => by
              rw [HTK.out, if_neg z, ← List.append_assoc]
              exact h
            clear z HEQ HTK
            gi_wp2
            refine hR.mono ?_
            rintro e W3 ⟨rfl, hJ3, hK3⟩
            have HJ3 : Hid (J (o0 ++ ((ks.take (m + 1)).filter fun k => decide (oT k p ≠ oT k q)).map (fun k => (⟨id, k, p, q⟩ : DC))) W3) := HTN.out _ hJ3
            have HI3 : Hid (IO W3 be1 be2 nf Bi #[.string E1.id, .string E1.ti, .int .i64 E1.st, .int .i64 E1.lg, .string E1.f, .int .i64 E1.e, .slice r1 E1.ds.length rc1, .int .i64 E1.c, .int .i64 E1.u, .slice s1 E1.sk.length sc1, .slice m1 E1.mv.length mc1] #[.string E2.id, .string E2.ti, .int .i64 E2.st, .int .i64 E2.lg, .string E2.f, .int .i64 E2.e, .slice r2 E2.ds.length rc2, .int .i64 E2.c, .int .i64 E2.u, .slice s2 E2.sk.length sc2, .slice m2 E2.mv.length mc2] fo E1 E2 (.slice r1 E1.ds.length rc1) (.slice s1 E1.sk.length sc1) (.slice m1 E1.mv.length mc1) (.slice r2 E2.ds.length rc2) (.slice s2 E2.sk.length sc2) (.slice m2 E2.mv.length mc2) id) := HIw.out.keep hK3 HNE.out.1 HNE.out.2.1 HNF hne (HJN.out _ _ HJw.out).1
            clear hJ3 hK3
            gi_wp2
            go_roundw
            case rel => exact ⟨m + 1, by omega, by go_num, HJ3, HI3⟩
            case measure => simp [intOf]; omega
        · rw [put4_fold]
          obtain ⟨⟨q0, q1, q2, q3⟩, HJw, HIw⟩ := FIN.out (put4 wB wr.heap.size (.string id) (.string fb) (.string tx1) (.string tx2)) wr.heap.size (put4_below kB (Nat.le_refl _)) (put4_blk _ _ _ _ zB)
          clear kA kB hbA hbB
          generalize (put4 wB wr.heap.size (.string id) (.string fb) (.string tx1) (.string tx2)) = wq at q0 q1 q2 q3 HJw HIw ⊢
          generalize wr.heap.size = bx at q0 q1 q2 q3 ⊢
          rcases Decidable.em (oT ks[m] p = oT ks[m] q) with z | z
          · have he : tx1.toList = tx2.toList := by
              have := HEQ.out
              rw [decide_eq_true z] at this
              exact eq_of_beq this
            have HJ3 : Hid (J (o0 ++ ((ks.take (m + 1)).filter fun k => decide (oT k p ≠ oT k q)).map (fun k => (⟨id, k, p, q⟩ : DC))) wq) := by
              show J _ _
              rw [HTK.out, if_pos z, List.append_nil]
              exact HJw.out
            clear z HEQ HTK
            gi_wp2
            refine ⟨(fun f h => by cases h), ?_⟩
            gi_wp2
            go_roundw
            case rel => exact ⟨m + 1, by omega, by go_num, HJ3, HIw⟩
            case measure => simp [intOf]; omega
          · have he : ¬ tx1.toList = tx2.toList := fun h => by
              have := HEQ.out
              rw [decide_eq_false z, h, beq_self_eq_true] at this
              cases this
            obtain ⟨fn, tmps, assign, body, hy, hR⟩ := YD.out _ HJw.out
            have HTN : Hid (∀ W3, J ((o0 ++ (((ks.take m).filter fun k => decide (oT k p ≠ oT k q)).map fun k => (⟨id, k, p, q⟩ : DC))) ++ [⟨id, ks[m], p, q⟩]) W3 → J (o0 ++ ((ks.take (m + 1)).filter fun k => decide (oT k p ≠ oT k q)).map (fun k => (⟨id, k, p, q⟩ : DC))) W3) := fun W3 h => by
              rw [HTK.out, if_neg z, ← List.append_assoc]
              exact h
            clear z HEQ HTK
            gi_wp2
            refine hR.mono ?_
            rintro e W3 ⟨rfl, hJ3, hK3⟩
            have HJ3 : Hid (J (o0 ++ ((ks.take (m + 1)).filter fun k => decide (oT k p ≠ oT k q)).map (fun k => (⟨id, k, p, q⟩ : DC))) W3) := HTN.out _ hJ3
            have HI3 : Hid (IO W3 be1 be2 nf Bi #[.string E1.id, .string E1.ti, .int .i64 E1.st, .int .i64 E1.lg, .string E1.f, .int .i64 E1.e, .slice r1 E1.ds.length rc1, .int .i64 E1.c, .int .i64 E1.u, .slice s1 E1.sk.length sc1, .slice m1 E1.mv.length mc1] #[.string E2.id, .string E2.ti, .int .i64 E2.st, .int .i64 E2.lg, .string E2.f, .int .i64 E2.e, .slice r2 E2.ds.length rc2, .int .i64 E2.c, .int .i64 E2.u, .slice s2 E2.sk.length sc2, .slice m2 E2.mv.length mc2] fo E1 E2 (.slice r1 E1.ds.length rc1) (.slice s1 E1.sk.length sc1) (.slice m1 E1.mv.length mc1) (.slice r2 E2.ds.length rc2) (.slice s2 E2.sk.length sc2) (.slice m2 E2.mv.length mc2) id) := HIw.out.keep hK3 HNE.out.1 HNE.out.2.1 HNF hne (HJN.out _ _ HJw.out).1
            clear hJ3 hK3
            gi_wp2
            go_roundw
            case rel => exact ⟨m + 1, by omega, by go_num, HJ3, HI3⟩
            case measure => simp [intOf]; omega
      · have HJE : Hid (J (o0 ++ dl id p q) wr) := by
          have := HJ.out
          rw [List.take_of_length_le (by rw [HKN.out]; omega)] at this
          show J _ _
          rw [HDL.out, HKQ.out]
          exact this
        have hmi : ¬ ((m : Int) < 1) := by omega
        clear HJ HI
        gi_wp2
        go_end0
        exact ⟨⟨_, rfl⟩, HJE.out⟩
end Go.Proofs.YtjhlbkjcchejjaaGreatDoor
