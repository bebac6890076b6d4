/- Package event's fromsOf, checkLists and Check: which error an event has. -/
import Derived.Test.YtijdnmkkdofbeaaGreatDoorEvC
import Derived.Test.YtijdnmkkdofbeaaGreatDoorExpK
import Derived.RangeFuncBox
import Derived.Deep.DeepCutAuto
import Derived.Deep.RegionWith
namespace Go.Proofs.YtijdnmkkdofbeaaGreatDoor
open Go Go.RowKit Cal
attribute [local go_sem] Oper.semAt_some

theorem ow_ints {base : Nat} {W : World} {sl : Value} {ds : List Int} (h : Ow base W sl ds) (hl : ds.length ≤ 80000) : Ints W sl ds := by
  rcases h.2 with ⟨rfl, h0⟩ | ⟨g, cap, cur, rfl, hb, hg, hcap, hmax, hsz, htake⟩
  · rw [List.length_eq_zero_iff.1 h0]; exact Ints.nil W 0
  · refine ⟨_, cap, rfl, hl, hcap, fun j hj => ⟨g, rfl, (Array.getElem?_eq_some_iff.1 hg).1, ?_⟩⟩
    have := World.ownsRow.cellAt h j (by omega)
    rw [this, List.getElem?_map, List.getElem?_eq_getElem hj]; rfl
theorem one_cell (w : World) (d : Int) : ∀ (j : Nat) (v : Value), [Value.int .i64 d][j]? = some v → (w.alloc (.cells #[.int .i64 d] 3)).cell? ((⟨w.heap.size, 0, none⟩ : Addr).add j) = some v := fun j v hv => by
  obtain ⟨hj, he⟩ := List.getElem?_eq_some_iff.1 hv
  have hj0 : j = 0 := by simpa using hj
  subst hj0
  have he' : Value.int .i64 d = v := by simpa using he
  rw [← he']
  exact (Boxed.new w 3 (.int .i64 d)).cell

set_option maxHeartbeats 1000000 in
set_option maxRecDepth 100000 in
theorem fromsOf_any (ms : List (Int × Int)) (sl : Value) (w : World) (hd : Movs w sl ms) :
    Calls Tryz.prog 57 #[sl] w fun r w' => ∃ v, r = .returned v ∧ Ints w' v (ms.map Prod.fst) ∧ Below w.heap.size w w' := by
  obtain ⟨a, cap, rfl, h20, hcap, hc⟩ := hd
  obtain ⟨i0, hi, hz0, hz1, hz2⟩ := info_parts info_int
  have HC : Hid (_) := hc
  clear hc
  go_enter Tryz.func57, Tryz.ntmps57
  go_wp2
  go_loopw [3, 5, 8] (fun ov _ i wr => ∃ m : Nat, m ≤ ms.length ∧ i = .int .i64 m ∧ Hid (Below w.heap.size w wr) ∧ Hid (Ow w.heap.size wr ov ((ms.map Prod.fst).take m))) (fun _ _ i _ => ms.length - (intOf i).toNat)
  case atStart => exact ⟨0, Nat.zero_le _, rfl, Below.refl _ _, Ow.nil _ _⟩
  case round =>
    obtain ⟨m, hm, rfl, hB, HO⟩ := hrel
    by_cases hlt : m < ms.length
    · obtain ⟨blk, rfl, hblk, hcell, hcell'⟩ := HC.out m hlt
      have hc1 := cell_step hcell hB.out
      have hc2 := cell_step hcell' hB.out
      have HT : Hid ((ms.map Prod.fst).take (m + 1) = (ms.map Prod.fst).take m ++ [ms[m].1]) := by
        show _ = _
        rw [List.take_succ_eq_append_getElem (by simpa using hlt)]; simp
      have hlen : ((ms.map Prod.fst).take m).length = m := by simp; omega
      clear HC hcell hcell'
      generalize ms[m] = x at hc1 hc2 HT
      obtain ⟨x1, x2⟩ := x
      dsimp only at hc1 hc2 HT
      generalize (ms.map Prod.fst).take m = o at HO HT hlen
      obtain ⟨oa, oc, rfl⟩ := ow_form HO.out
      have hA := below_alloc wr (.cells #[.int .i64 x1, .int .i64 x2] 44)
      have hc0 : (wr.alloc (.cells #[.int .i64 x1, .int .i64 x2] 44)).cell? ⟨wr.heap.size, 0, none⟩ = some (.int .i64 x1) := by rw [World.cell?_alloc_new]; rfl
      have hsz : (wr.alloc (.cells #[.int .i64 x1, .int .i64 x2] 44)).heap.size = wr.heap.size + 1 := World.size_alloc _ _
      have hzr : w.heap.size ≤ wr.heap.size := hB.out.size
      go_upto_region 5 with (fail)
      generalize wr.alloc (.cells #[.int .i64 x1, .int .i64 x2] 44) = wq at hA hc0 hsz
      have HA : Hid (Below wr.heap.size wr wq) := hA
      have OW1 : Hid (Ow w.heap.size (wq.alloc (.cells #[.int .i64 x1] 3)) (.slice oa o.length oc) o) := Ow.step HO.out (below_then hA (below_alloc _ _))
      have NC : Hid (_) := one_cell wq x1
      have hzq : w.heap.size ≤ wq.heap.size := by omega
      clear hA hc1 hc2 hsz
      go_upto_region 6 with (first
        | (at_builtin; refine wpList_append_own _ rfl _ _ 22 rfl w.heap.size 3 i0 (.int .i64 0) 1 8 Tryz.underlying22 hi hz0 hz1 hz2 rfl (by decide) _ _ _ rfl OW1.out ⟨wq.heap.size, 0, none⟩ 1 1 [.int .i64 x1] rfl rfl NC.out (fun v hv => by rw [List.mem_singleton.1 hv]; rfl) (by unfold maxLen; omega) (by omega) (by simp; omega) ?_; intro v' w1 hown' hgrow _; obtain ⟨g', cap', rfl⟩ := ownsRow_succ hown')
        | go_in)
      have OW2 : Hid (Ow w.heap.size w1 (.slice (some ⟨g', 0, none⟩) (o.length + 1) cap') (o ++ [x1])) := by
        show World.ownsRow _ _ _ _ _ _ _
        rw [List.length_append, List.map_append]
        exact hown'
      have HB1 : Hid (Below w.heap.size w w1) := (below_then hB.out (below_then HA.out (below_alloc wq (.cells #[.int .i64 x1] 3)))).grown (show (wq.alloc (.cells #[.int .i64 x1] 3)).grownBy w1 (Value.slice oa o.length oc).ownBlock from hgrow) (by rw [World.size_alloc]; omega) (fun k q => (World.ownsRow.lt OW1.out k q).1)
      clear hown' hgrow OW1 NC HO hB HA
      go_wp2
      go_roundw
      case rel => exact ⟨m + 1, by omega, by go_num, HB1.out, by rw [HT.out, ← hlen]; exact OW2.out⟩
      case measure => simp [intOf]; omega
    · have HE : Hid ((ms.map Prod.fst).take m = ms.map Prod.fst) := List.take_of_length_le (by simp; omega)
      rw [HE.out] at HO
      obtain ⟨oa, oc, rfl⟩ := ow_form HO.out
      clear HC
      go_wp2
      go_ret
      exact ⟨_, rfl, ow_ints HO.out (by simp; omega), hB.out⟩

/-- do numbers rise? -/
def riseB : List Int → Bool
  | [] => true
  | [_] => true
  | a :: b :: r => decide (a < b) && riseB (b :: r)
theorem riseB_iff : ∀ (l : List Int), riseB l = true ↔ Rise l
  | [] => ⟨fun _ i h => absurd h (by simp), fun _ => rfl⟩
  | [a] => ⟨fun _ i h => absurd h (by simp), fun _ => rfl⟩
  | a :: b :: r => by
    unfold riseB
    rw [Bool.and_eq_true, decide_eq_true_iff, riseB_iff (b :: r)]
    constructor
    · rintro ⟨h1, h2⟩ i hi
      cases i with
      | zero => exact h1
      | succ i => exact h2 i (by simpa using hi)
    · intro h
      exact ⟨h 0 (by simp), fun i hi => h (i + 1) (by simpa using hi)⟩
theorem rise_pair : ∀ {l : List Int}, Rise l → l.Pairwise (· < ·)
  | [], _ => List.Pairwise.nil
  | a :: r, h => by
    have hr : Rise r := fun i hi => h (i + 1) (by simpa using hi)
    have ih := rise_pair hr
    rw [List.pairwise_cons]
    refine ⟨fun x hx => ?_, ih⟩
    cases r with
    | nil => cases hx
    | cons b r' =>
      have h0 : a < b := h 0 (by simp)
      rcases List.mem_cons.1 hx with rfl | q
      · exact h0
      · have := (List.pairwise_cons.1 ih).1 x q; omega

/-- the number of the error of an event's lists -/
def lk (sk : List Int) (mv : List (Int × Int)) : Int :=
  if 20 < sk.length ∨ 20 < mv.length then 7 else if (riseB sk && riseB (mv.map Prod.fst)) = false then 8 else if sk.any noDay = true then 2 else
    if mv.any (fun m => noDay m.1 || noDay m.2) = true then 2 else if mv.any (fun m => decide (m.1 ∈ sk)) = true then 6 else 0
theorem lk_bd (sk : List Int) (mv : List (Int × Int)) : lk sk mv = 0 ∨ lk sk mv = 2 ∨ lk sk mv = 6 ∨ lk sk mv = 7 ∨ lk sk mv = 8 := by
  unfold lk
  split
  · simp
  · split
    · simp
    · split
      · simp
      · split
        · simp
        · split <;> simp

set_option maxHeartbeats 2000000 in
theorem checkLists_k (sk : List Int) (mv : List (Int × Int)) (skv mvv : Value) (s : Nat → Addr) (w : World) (g : GlobK s w) (hs : Ints w skv sk) (hm : Movs w mvv mv) :
    Calls Tryz.prog 37 #[skv, mvv] w fun r w' => r = .returned (errV s (lk sk mv)) ∧ Below w.heap.size w w' := by
  have hA := below_alloc w (.cells #[skv] 22)
  have hB : Boxed (w.alloc (.cells #[skv] 22)) w.heap.size 22 skv := boxed_at _ _ rfl
  have HS : Hid (Ints (w.alloc (.cells #[skv] 22)) skv sk) := hs.step hA
  have HM : Hid (Movs (w.alloc (.cells #[skv] 22)) mvv mv) := hm.step hA
  have HG : Hid (GlobK s (w.alloc (.cells #[skv] 22))) := g.step hA
  obtain ⟨sa, sc, rfl, hs1, hs2, hs3⟩ := hs
  obtain ⟨ma, mc, rfl, hm1, hm2, hm3⟩ := hm
  clear hs3 hm3
  have HA : Hid (_) := hA
  have HB : Hid (_) := hB
  clear hA hB g
  generalize hw0 : w.alloc (.cells #[.slice sa sk.length sc] 22) = w0 at HS HM HG HA HB
  have C1 : Hid (∀ W, Below w0.heap.size w0 W → Calls Tryz.prog 56 #[.slice sa sk.length sc] W fun r w' => r = .returned (.bool (riseB sk)) ∧ Below W.heap.size W w') := fun W h => erises_any sk _ W (HS.out.step h) _ (riseB_iff sk)
  have C2 : Hid (∀ W, Below w0.heap.size w0 W → Calls Tryz.prog 57 #[.slice ma mv.length mc] W fun r w' => ∃ a c, r = .returned (.slice a mv.length c) ∧ Ints w' (.slice a mv.length c) (mv.map Prod.fst) ∧ Below W.heap.size W w') := fun W h => by
    refine (fromsOf_any mv _ W (HM.out.step h)).mono ?_
    rintro r w' ⟨v, rfl, h1, h2⟩
    obtain ⟨a, c, rfl, _⟩ := id h1
    rw [List.length_map] at h1 ⊢
    exact ⟨a, c, rfl, h1, h2⟩
  have C3 : Hid (∀ W a c, Ints W (.slice a mv.length c) (mv.map Prod.fst) → Calls Tryz.prog 56 #[.slice a mv.length c] W fun r w' => r = .returned (.bool (riseB (mv.map Prod.fst))) ∧ Below W.heap.size W w') := fun W a c h => erises_any _ _ W h _ (riseB_iff _)
  have C4 : Hid (∀ W, Below w0.heap.size w0 W → Calls Tryz.prog 58 #[.slice sa sk.length sc, .func (.func 59) #[] #[]] W fun r w' => r = .returned (.bool (sk.any noDay)) ∧ Below W.heap.size W w') := fun W h =>
    containsFuncI_any 59 #[] noDay sk _ W (HS.out.step h) (enters_of Tryz.func59 (by kernel_rfl) rfl) (fun x W' _ => cl1_any x W') _ (by rw [List.any_eq_true])
  have C5 : Hid (∀ W, Below w0.heap.size w0 W → Calls Tryz.prog 60 #[.slice ma mv.length mc, .func (.func 61) #[] #[]] W fun r w' => r = .returned (.bool (mv.any (fun m => noDay m.1 || noDay m.2))) ∧ Below W.heap.size W w') := fun W h =>
    containsFuncM_any 61 #[] (fun m => noDay m.1 || noDay m.2) mv _ W (HM.out.step h) (enters_of Tryz.func61 (by kernel_rfl) rfl) (fun x W' _ => cl2_any x W') _ (by rw [List.any_eq_true])
  have C6 : Hid (∀ W, Below w0.heap.size w0 W → Calls Tryz.prog 60 #[.slice ma mv.length mc, .func (.func 62) #[] #[.pointer (some ⟨w.heap.size, 0, none⟩)]] W fun r w' => r = .returned (.bool (mv.any (fun m => decide (m.1 ∈ sk)))) ∧ Below W.heap.size W w') := fun W h =>
    containsFuncM_any 62 #[.pointer (some ⟨w.heap.size, 0, none⟩)] (fun m => decide (m.1 ∈ sk)) mv _ W (HM.out.step h) (enters_of Tryz.func62 (by kernel_rfl) rfl) (fun x W' h' => cl3_any x w.heap.size sk _ W' ((h'.block _ (Boxed.lt (show Boxed W w.heap.size 22 _ from (h.block _ (Boxed.lt HB.out)).trans HB.out))).trans ((h.block _ (Boxed.lt HB.out)).trans HB.out)) ((HS.out.step h).step h')) _ (by rw [List.any_eq_true])
  have LK : Hid (lk sk mv = if 20 < sk.length ∨ 20 < mv.length then 7 else if (riseB sk && riseB (mv.map Prod.fst)) = false then 8 else if sk.any noDay = true then 2 else
    if mv.any (fun m => noDay m.1 || noDay m.2) = true then 2 else if mv.any (fun m => decide (m.1 ∈ sk)) = true then 6 else 0) := rfl
  generalize lk sk mv = k at LK ⊢
  generalize riseB sk = b1 at C1 LK
  generalize riseB (mv.map Prod.fst) = b2 at C3 LK
  generalize sk.any noDay = b3 at C4 LK
  generalize mv.any (fun m => noDay m.1 || noDay m.2) = b4 at C5 LK
  generalize mv.any (fun m => decide (m.1 ∈ sk)) = b5 at C6 LK
  have x1 := Boxed.cell HB.out
  have CE : Hid (∀ W, Below w0.heap.size w0 W → W.cell? ⟨w.heap.size, 0, none⟩ = some (.slice sa sk.length sc)) := fun W h => cell_step x1 h
  have hsk : (sk.length : Int) ≤ 80000 := by omega
  have hmv : (mv.length : Int) ≤ 80000 := by omega
  clear HS HM HB hs2 hm2
  by_cases q1 : 20 < sk.length ∨ 20 < mv.length
  · rw [if_pos q1] at LK
    have EV : Hid (errV s k = .iface 181 (.pointer (some (s 6)))) := errV_of LK.out (by decide)
    have r6 := HG.out.c6
    clear C1 C2 C3 C4 C5 C6 LK HG CE
    have q2 : 20 < sk.length ∨ (¬ 20 < sk.length ∧ 20 < mv.length) := by omega
    clear q1
    rcases q2 with q1 | ⟨q1, q2⟩
    all_goals
      go_enter Tryz.func37, Tryz.ntmps37
      go_wp2
      go_ret
      exact ⟨(by rw [EV.out]; rfl), HA.out⟩
  · rw [if_neg q1] at LK
    obtain ⟨q2, q3⟩ : (sk.length : Int) ≤ 20 ∧ (mv.length : Int) ≤ 20 := by omega
    clear q1
    cases b1 with
    | false =>
      have EV : Hid (errV s k = .iface 181 (.pointer (some (s 7)))) := errV_of (show k = 8 from LK.out) (by decide)
      clear C2 C3 C4 C5 C6 LK CE
      go_enter Tryz.func37, Tryz.ntmps37
      go_wp2_with (go_at_call 56; refine (C1.out _ (Below.refl _ _)).mono ?_; rintro r w1 ⟨rfl, hb1⟩; have r7 := (HG.out.step hb1).c7)
      go_ret
      exact ⟨(by rw [EV.out]; rfl), below_then HA.out hb1⟩
    | true =>
    cases b2 with
    | false =>
      have EV : Hid (errV s k = .iface 181 (.pointer (some (s 7)))) := errV_of (show k = 8 from LK.out) (by decide)
      clear C4 C5 C6 LK CE
      go_enter Tryz.func37, Tryz.ntmps37
      go_wp2_with (first
        | (go_at_call_of 56 (Value.slice sa sk.length sc); refine (C1.out _ (Below.refl _ _)).mono ?_; rintro r w1 ⟨rfl, hb1⟩; clear C1)
        | (go_at_call 57; refine (C2.out _ hb1).mono ?_; rintro r w2 ⟨fa, fc, rfl, hf, hb2⟩)
        | (go_at_call 56; refine (C3.out _ _ _ hf).mono ?_; rintro r w3 ⟨rfl, hb3⟩; have r7 := (HG.out.step (below_then hb1 (below_then hb2 hb3))).c7))
      go_ret
      exact ⟨(by rw [EV.out]; rfl), below_then HA.out (below_then hb1 (below_then hb2 hb3))⟩
    | true =>
    have LK' : Hid (k = if b3 = true then 2 else if b4 = true then 2 else if b5 = true then 6 else 0) := LK.out
    clear LK
    cases b3 with
    | true =>
      have EV : Hid (errV s k = .iface 181 (.pointer (some (s 1)))) := errV_of (show k = 2 from LK'.out) (by decide)
      clear C5 C6 LK'
      go_enter Tryz.func37, Tryz.ntmps37
      go_wp2_with (first
        | (go_at_call_of 56 (Value.slice sa sk.length sc); refine (C1.out _ (Below.refl _ _)).mono ?_; rintro r w1 ⟨rfl, hb1⟩; clear C1)
        | (go_at_call 57; refine (C2.out _ hb1).mono ?_; rintro r w2 ⟨fa, fc, rfl, hf, hb2⟩)
        | (go_at_call 56; refine (C3.out _ _ _ hf).mono ?_; rintro r w3 ⟨rfl, hb3⟩; have h3 := below_then hb1 (below_then hb2 hb3); have x3 := CE.out _ h3)
        | (go_at_call 58; refine (C4.out _ h3).mono ?_; rintro r w4 ⟨rfl, hb4⟩; have h4 := below_then h3 hb4; have r1 := (HG.out.step h4).c1))
      go_ret
      exact ⟨(by rw [EV.out]; rfl), below_then HA.out h4⟩
    | false =>
    have LK2 : Hid (k = if b4 = true then 2 else if b5 = true then 6 else 0) := LK'.out
    clear LK'
    cases b4 with
    | true =>
      have EV : Hid (errV s k = .iface 181 (.pointer (some (s 1)))) := errV_of (show k = 2 from LK2.out) (by decide)
      clear C6 LK2
      go_enter Tryz.func37, Tryz.ntmps37
      go_wp2_with (first
        | (go_at_call_of 56 (Value.slice sa sk.length sc); refine (C1.out _ (Below.refl _ _)).mono ?_; rintro r w1 ⟨rfl, hb1⟩; clear C1)
        | (go_at_call 57; refine (C2.out _ hb1).mono ?_; rintro r w2 ⟨fa, fc, rfl, hf, hb2⟩)
        | (go_at_call 56; refine (C3.out _ _ _ hf).mono ?_; rintro r w3 ⟨rfl, hb3⟩; have h3 := below_then hb1 (below_then hb2 hb3); have x3 := CE.out _ h3)
        | (go_at_call 58; refine (C4.out _ h3).mono ?_; rintro r w4 ⟨rfl, hb4⟩; have h4 := below_then h3 hb4)
        | (go_at_call 60; refine (C5.out _ h4).mono ?_; rintro r w5 ⟨rfl, hb5⟩; have h5 := below_then h4 hb5; have r1 := (HG.out.step h5).c1))
      go_ret
      exact ⟨(by rw [EV.out]; rfl), below_then HA.out h5⟩
    | false =>
    have LK3 : Hid (k = if b5 = true then 6 else 0) := LK2.out
    clear LK2
    have EV : Hid (errV s k = if b5 = true then .iface 181 (.pointer (some (s 5))) else .nilIface) := by
      show _ = _
      rw [LK3.out]
      cases b5 <;> rfl
    cases b5
    all_goals
      clear LK3
      go_enter Tryz.func37, Tryz.ntmps37
      go_wp2_with (first
        | (go_at_call_of 56 (Value.slice sa sk.length sc); refine (C1.out _ (Below.refl _ _)).mono ?_; rintro r w1 ⟨rfl, hb1⟩; clear C1)
        | (go_at_call 57; refine (C2.out _ hb1).mono ?_; rintro r w2 ⟨fa, fc, rfl, hf, hb2⟩)
        | (go_at_call 56; refine (C3.out _ _ _ hf).mono ?_; rintro r w3 ⟨rfl, hb3⟩; have h3 := below_then hb1 (below_then hb2 hb3); have x3 := CE.out _ h3)
        | (go_at_call 58; refine (C4.out _ h3).mono ?_; rintro r w4 ⟨rfl, hb4⟩; have h4 := below_then h3 hb4)
        | (go_at_call 60; refine (C6.out _ h5).mono ?_; rintro r w6 ⟨rfl, hb6⟩; have h6 := below_then h5 hb6; have r5 := (HG.out.step h6).c5)
        | (go_at_call 60; refine (C5.out _ h4).mono ?_; rintro r w5 ⟨rfl, hb5⟩; have h5 := below_then h4 hb5))
      go_ret
      exact ⟨(by rw [EV.out]; rfl), below_then HA.out h6⟩
end Go.Proofs.YtijdnmkkdofbeaaGreatDoor
