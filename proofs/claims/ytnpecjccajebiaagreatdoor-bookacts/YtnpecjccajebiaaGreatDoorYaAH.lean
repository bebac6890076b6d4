/- Package event's fromsOf, checkLists and Check: which error an event has. -/
import Derived.Test.YtnpecjccajebiaaGreatDoorYaAD
import Derived.Test.YtnpecjccajebiaaGreatDoorYaAG
import Derived.RangeFuncBox
import Derived.Deep.DeepCutAuto
import Derived.Deep.RegionWith
import Derived.Test.YtnpecjccajebiaaGreatDoorMathW
import Derived.Lib.ItoaNum
import Derived.Lib.ItoaMem
namespace Go.Proofs.YtnpecjccajebiaaGreatDoor
open Go Go.RowKit Cal
attribute [local go_sem] Oper.semAt_some

theorem ow_ints {base : Nat} {W : World} {sl : Value} {ds : List Int} (h : Ow base W sl ds) (hl : ds.length ≤ 80000) : Ints W sl ds := by
  rcases h.2 with ⟨rfl, h0⟩ | ⟨g, cap, cur, rfl, hb, hg, hcap, hmax, hsz, htake⟩
  · rw [List.length_eq_zero_iff.1 h0]; exact Ints.nil W 0
  · refine ⟨_, cap, rfl, hl, hcap, fun j hj => ⟨g, rfl, (Array.getElem?_eq_some_iff.1 hg).1, ?_⟩⟩
    have := World.ownsRow.cellAt h j (by omega)
    rw [this, List.getElem?_map, List.getElem?_eq_getElem hj]; rfl
theorem one_cell (w : World) (d : Int) : ∀ (j : Nat) (v : Value), [Value.int .i64 d][j]? = some v → (w.alloc (.cells #[.int .i64 d] 3)).cell? ((⟨w.heap.size, 0, none⟩ : Addr).add j) = some v := fun j v hv => by
  obtain ⟨hj, he⟩ := List.getElem?_eq_some_iff.1 hv
  have hj0 : j = 0 := by simpa using hj
  subst hj0
  have he' : Value.int .i64 d = v := by simpa using he
  rw [← he']
  exact (Boxed.new w 3 (.int .i64 d)).cell

set_option maxHeartbeats 1000000 in
set_option maxRecDepth 100000 in
theorem fromsOf_any (ms : List (Int × Int)) (sl : Value) (w : World) (hd : Movs w sl ms) :
    Calls Tryz.prog 110 #[sl] w fun r w' => ∃ v, r = .returned v ∧ Ints w' v (ms.map Prod.fst) ∧ Below w.heap.size w w' := by
  obtain ⟨a, cap, rfl, h20, hcap, hc⟩ := hd
  obtain ⟨i0, hi, hz0, hz1, hz2⟩ := info_parts info_int
  have HC : Hid (_) := hc
  clear hc
  go_enter Tryz.func110, Tryz.ntmps110
  go_wp2
  go_loopw [3, 5, 8] (fun ov _ i wr => ∃ m : Nat, m ≤ ms.length ∧ i = .int .i64 m ∧ Hid (Below w.heap.size w wr) ∧ Hid (Ow w.heap.size wr ov ((ms.map Prod.fst).take m))) (fun _ _ i _ => ms.length - (intOf i).toNat)
  case atStart => exact ⟨0, Nat.zero_le _, rfl, Below.refl _ _, Ow.nil _ _⟩
  case round =>
    obtain ⟨m, hm, rfl, hB, HO⟩ := hrel
    by_cases hlt : m < ms.length
    · obtain ⟨blk, rfl, hblk, hcell, hcell'⟩ := HC.out m hlt
      have hc1 := cell_step hcell hB.out
      have hc2 := cell_step hcell' hB.out
      have HT : Hid ((ms.map Prod.fst).take (m + 1) = (ms.map Prod.fst).take m ++ [ms[m].1]) := by
        show _ = _
        rw [List.take_succ_eq_append_getElem (by simpa using hlt)]; simp
      have hlen : ((ms.map Prod.fst).take m).length = m := by simp; omega
      clear HC hcell hcell'
      generalize ms[m] = x at hc1 hc2 HT
      obtain ⟨x1, x2⟩ := x
      dsimp only at hc1 hc2 HT
      generalize (ms.map Prod.fst).take m = o at HO HT hlen
      obtain ⟨oa, oc, rfl⟩ := ow_form HO.out
      have hA := below_alloc wr (.cells #[.int .i64 x1, .int .i64 x2] 104)
      have hc0 : (wr.alloc (.cells #[.int .i64 x1, .int .i64 x2] 104)).cell? ⟨wr.heap.size, 0, none⟩ = some (.int .i64 x1) := by rw [World.cell?_alloc_new]; rfl
      have hsz : (wr.alloc (.cells #[.int .i64 x1, .int .i64 x2] 104)).heap.size = wr.heap.size + 1 := World.size_alloc _ _
      have hzr : w.heap.size ≤ wr.heap.size := hB.out.size
      go_upto_region 5 with (fail)
      generalize wr.alloc (.cells #[.int .i64 x1, .int .i64 x2] 104) = wq at hA hc0 hsz
      have HA : Hid (Below wr.heap.size wr wq) := hA
      have OW1 : Hid (Ow w.heap.size (wq.alloc (.cells #[.int .i64 x1] 3)) (.slice oa o.length oc) o) := Ow.step HO.out (below_then hA (below_alloc _ _))
      have NC : Hid (_) := one_cell wq x1
      have hzq : w.heap.size ≤ wq.heap.size := by omega
      clear hA hc1 hc2 hsz
      go_upto_region 6 with (first
        | (at_builtin; refine wpList_append_own _ rfl _ _ 39 rfl w.heap.size 3 i0 (.int .i64 0) 1 8 Tryz.underlying39 hi hz0 hz1 hz2 rfl (by decide) _ _ _ rfl OW1.out ⟨wq.heap.size, 0, none⟩ 1 1 [.int .i64 x1] rfl rfl NC.out (fun v hv => by rw [List.mem_singleton.1 hv]; rfl) (by unfold maxLen; omega) (by omega) (by simp; omega) ?_; intro v' w1 hown' hgrow _; obtain ⟨g', cap', rfl⟩ := ownsRow_succ hown')
        | go_in)
      have OW2 : Hid (Ow w.heap.size w1 (.slice (some ⟨g', 0, none⟩) (o.length + 1) cap') (o ++ [x1])) := by
        show World.ownsRow _ _ _ _ _ _ _
        rw [List.length_append, List.map_append]
        exact hown'
      have HB1 : Hid (Below w.heap.size w w1) := (below_then hB.out (below_then HA.out (below_alloc wq (.cells #[.int .i64 x1] 3)))).grown (show (wq.alloc (.cells #[.int .i64 x1] 3)).grownBy w1 (Value.slice oa o.length oc).ownBlock from hgrow) (by rw [World.size_alloc]; omega) (fun k q => (World.ownsRow.lt OW1.out k q).1)
      clear hown' hgrow OW1 NC HO hB HA
      go_wp2
      go_roundw
      case rel => exact ⟨m + 1, by omega, by go_num, HB1.out, by rw [HT.out, ← hlen]; exact OW2.out⟩
      case measure => simp [intOf]; omega
    · have HE : Hid ((ms.map Prod.fst).take m = ms.map Prod.fst) := List.take_of_length_le (by simp; omega)
      rw [HE.out] at HO
      obtain ⟨oa, oc, rfl⟩ := ow_form HO.out
      clear HC
      go_wp2
      go_ret
      exact ⟨_, rfl, ow_ints HO.out (by simp; omega), hB.out⟩

/-- do numbers rise? -/
def riseB : List Int → Bool
  | [] => true
  | [_] => true
  | a :: b :: r => decide (a < b) && riseB (b :: r)
theorem riseB_iff : ∀ (l : List Int), riseB l = true ↔ Rise l
  | [] => ⟨fun _ i h => absurd h (by simp), fun _ => rfl⟩
  | [a] => ⟨fun _ i h => absurd h (by simp), fun _ => rfl⟩
  | a :: b :: r => by
    unfold riseB
    rw [Bool.and_eq_true, decide_eq_true_iff, riseB_iff (b :: r)]
    constructor
    · rintro ⟨h1, h2⟩ i hi
      cases i with
      | zero => exact h1
      | succ i => exact h2 i (by simpa using hi)
    · intro h
      exact ⟨h 0 (by simp), fun i hi => h (i + 1) (by simpa using hi)⟩
theorem rise_pair : ∀ {l : List Int}, Rise l → l.Pairwise (· < ·)
  | [], _ => List.Pairwise.nil
  | a :: r, h => by
    have hr : Rise r := fun i hi => h (i + 1) (by simpa using hi)
    have ih := rise_pair hr
    rw [List.pairwise_cons]
    refine ⟨fun x hx => ?_, ih⟩
    cases r with
    | nil => cases hx
    | cons b r' =>
      have h0 : a < b := h 0 (by simp)
      rcases List.mem_cons.1 hx with rfl | q
      · exact h0
      · have := (List.pairwise_cons.1 ih).1 x q; omega

/-- the number of the error of an event's lists -/
def lk (sk : List Int) (mv : List (Int × Int)) : Int :=
  if 20 < sk.length ∨ 20 < mv.length then 7 else if (riseB sk && riseB (mv.map Prod.fst)) = false then 8 else if sk.any noDay = true then 2 else
    if mv.any (fun m => noDay m.1 || noDay m.2) = true then 2 else if mv.any (fun m => decide (m.1 ∈ sk)) = true then 6 else 0
theorem lk_bd (sk : List Int) (mv : List (Int × Int)) : lk sk mv = 0 ∨ lk sk mv = 2 ∨ lk sk mv = 6 ∨ lk sk mv = 7 ∨ lk sk mv = 8 := by
  unfold lk
  split
  · simp
  · split
    · simp
    · split
      · simp
      · split
        · simp
        · split <;> simp

set_option maxHeartbeats 2000000 in
theorem checkLists_k (sk : List Int) (mv : List (Int × Int)) (skv mvv : Value) (s : Nat → Addr) (w : World) (g : GlobK s w) (hs : Ints w skv sk) (hm : Movs w mvv mv) :
    Calls Tryz.prog 75 #[skv, mvv] w fun r w' => r = .returned (errV s (lk sk mv)) ∧ Below w.heap.size w w' := by
  have hA := below_alloc w (.cells #[skv] 39)
  have hB : Boxed (w.alloc (.cells #[skv] 39)) w.heap.size 39 skv := boxed_at _ _ rfl
  have HS : Hid (Ints (w.alloc (.cells #[skv] 39)) skv sk) := hs.step hA
  have HM : Hid (Movs (w.alloc (.cells #[skv] 39)) mvv mv) := hm.step hA
  have HG : Hid (GlobK s (w.alloc (.cells #[skv] 39))) := g.step hA
  obtain ⟨sa, sc, rfl, hs1, hs2, hs3⟩ := hs
  obtain ⟨ma, mc, rfl, hm1, hm2, hm3⟩ := hm
  clear hs3 hm3
  have HA : Hid (_) := hA
  have HB : Hid (_) := hB
  clear hA hB g
  generalize hw0 : w.alloc (.cells #[.slice sa sk.length sc] 39) = w0 at HS HM HG HA HB
  have C1 : Hid (∀ W, Below w0.heap.size w0 W → Calls Tryz.prog 109 #[.slice sa sk.length sc] W fun r w' => r = .returned (.bool (riseB sk)) ∧ Below W.heap.size W w') := fun W h => erises_any sk _ W (HS.out.step h) _ (riseB_iff sk)
  have C2 : Hid (∀ W, Below w0.heap.size w0 W → Calls Tryz.prog 110 #[.slice ma mv.length mc] W fun r w' => ∃ a c, r = .returned (.slice a mv.length c) ∧ Ints w' (.slice a mv.length c) (mv.map Prod.fst) ∧ Below W.heap.size W w') := fun W h => by
    refine (fromsOf_any mv _ W (HM.out.step h)).mono ?_
    rintro r w' ⟨v, rfl, h1, h2⟩
    obtain ⟨a, c, rfl, _⟩ := id h1
    rw [List.length_map] at h1 ⊢
    exact ⟨a, c, rfl, h1, h2⟩
  have C3 : Hid (∀ W a c, Ints W (.slice a mv.length c) (mv.map Prod.fst) → Calls Tryz.prog 109 #[.slice a mv.length c] W fun r w' => r = .returned (.bool (riseB (mv.map Prod.fst))) ∧ Below W.heap.size W w') := fun W a c h => erises_any _ _ W h _ (riseB_iff _)
  have C4 : Hid (∀ W, Below w0.heap.size w0 W → Calls Tryz.prog 111 #[.slice sa sk.length sc, .func (.func 112) #[] #[]] W fun r w' => r = .returned (.bool (sk.any noDay)) ∧ Below W.heap.size W w') := fun W h =>
    containsFuncI_any 112 #[] noDay sk _ W (HS.out.step h) (enters_of Tryz.func112 (by kernel_rfl) rfl) (fun x W' _ => cl1_any x W') _ (by rw [List.any_eq_true])
  have C5 : Hid (∀ W, Below w0.heap.size w0 W → Calls Tryz.prog 113 #[.slice ma mv.length mc, .func (.func 114) #[] #[]] W fun r w' => r = .returned (.bool (mv.any (fun m => noDay m.1 || noDay m.2))) ∧ Below W.heap.size W w') := fun W h =>
    containsFuncM_any 114 #[] (fun m => noDay m.1 || noDay m.2) mv _ W (HM.out.step h) (enters_of Tryz.func114 (by kernel_rfl) rfl) (fun x W' _ => cl2_any x W') _ (by rw [List.any_eq_true])
  have C6 : Hid (∀ W, Below w0.heap.size w0 W → Calls Tryz.prog 113 #[.slice ma mv.length mc, .func (.func 115) #[] #[.pointer (some ⟨w.heap.size, 0, none⟩)]] W fun r w' => r = .returned (.bool (mv.any (fun m => decide (m.1 ∈ sk)))) ∧ Below W.heap.size W w') := fun W h =>
    containsFuncM_any 115 #[.pointer (some ⟨w.heap.size, 0, none⟩)] (fun m => decide (m.1 ∈ sk)) mv _ W (HM.out.step h) (enters_of Tryz.func115 (by kernel_rfl) rfl) (fun x W' h' => cl3_any x w.heap.size sk _ W' ((h'.block _ (Boxed.lt (show Boxed W w.heap.size 39 _ from (h.block _ (Boxed.lt HB.out)).trans HB.out))).trans ((h.block _ (Boxed.lt HB.out)).trans HB.out)) ((HS.out.step h).step h')) _ (by rw [List.any_eq_true])
  have LK : Hid (lk sk mv = if 20 < sk.length ∨ 20 < mv.length then 7 else if (riseB sk && riseB (mv.map Prod.fst)) = false then 8 else if sk.any noDay = true then 2 else
    if mv.any (fun m => noDay m.1 || noDay m.2) = true then 2 else if mv.any (fun m => decide (m.1 ∈ sk)) = true then 6 else 0) := rfl
  generalize lk sk mv = k at LK ⊢
  generalize riseB sk = b1 at C1 LK
  generalize riseB (mv.map Prod.fst) = b2 at C3 LK
  generalize sk.any noDay = b3 at C4 LK
  generalize mv.any (fun m => noDay m.1 || noDay m.2) = b4 at C5 LK
  generalize mv.any (fun m => decide (m.1 ∈ sk)) = b5 at C6 LK
  have x1 := Boxed.cell HB.out
  have CE : Hid (∀ W, Below w0.heap.size w0 W → W.cell? ⟨w.heap.size, 0, none⟩ = some (.slice sa sk.length sc)) := fun W h => cell_step x1 h
  have hsk : (sk.length : Int) ≤ 80000 := by omega
  have hmv : (mv.length : Int) ≤ 80000 := by omega
  clear HS HM HB hs2 hm2
  by_cases q1 : 20 < sk.length ∨ 20 < mv.length
  · rw [if_pos q1] at LK
    have EV : Hid (errV s k = .iface 288 (.pointer (some (s 6)))) := errV_of LK.out (by decide)
    have r6 := HG.out.c6
    clear C1 C2 C3 C4 C5 C6 LK HG CE
    have q2 : 20 < sk.length ∨ (¬ 20 < sk.length ∧ 20 < mv.length) := by omega
    clear q1
    rcases q2 with q1 | ⟨q1, q2⟩
    all_goals
      go_enter Tryz.func75, Tryz.ntmps75
      go_wp2
      go_ret
      exact ⟨(by rw [EV.out]; rfl), HA.out⟩
  · rw [if_neg q1] at LK
    obtain ⟨q2, q3⟩ : (sk.length : Int) ≤ 20 ∧ (mv.length : Int) ≤ 20 := by omega
    clear q1
    cases b1 with
    | false =>
      have EV : Hid (errV s k = .iface 288 (.pointer (some (s 7)))) := errV_of (show k = 8 from LK.out) (by decide)
      clear C2 C3 C4 C5 C6 LK CE
      go_enter Tryz.func75, Tryz.ntmps75
      go_wp2_with (go_at_call 109; refine (C1.out _ (Below.refl _ _)).mono ?_; rintro r w1 ⟨rfl, hb1⟩; have r7 := (HG.out.step hb1).c7)
      go_ret
      exact ⟨(by rw [EV.out]; rfl), below_then HA.out hb1⟩
    | true =>
    cases b2 with
    | false =>
      have EV : Hid (errV s k = .iface 288 (.pointer (some (s 7)))) := errV_of (show k = 8 from LK.out) (by decide)
      clear C4 C5 C6 LK CE
      go_enter Tryz.func75, Tryz.ntmps75
      go_wp2_with (first
        | (go_at_call_of 109 (Value.slice sa sk.length sc); refine (C1.out _ (Below.refl _ _)).mono ?_; rintro r w1 ⟨rfl, hb1⟩; clear C1)
        | (go_at_call 110; refine (C2.out _ hb1).mono ?_; rintro r w2 ⟨fa, fc, rfl, hf, hb2⟩)
        | (go_at_call 109; refine (C3.out _ _ _ hf).mono ?_; rintro r w3 ⟨rfl, hb3⟩; have r7 := (HG.out.step (below_then hb1 (below_then hb2 hb3))).c7))
      go_ret
      exact ⟨(by rw [EV.out]; rfl), below_then HA.out (below_then hb1 (below_then hb2 hb3))⟩
    | true =>
    have LK' : Hid (k = if b3 = true then 2 else if b4 = true then 2 else if b5 = true then 6 else 0) := LK.out
    clear LK
    cases b3 with
    | true =>
      have EV : Hid (errV s k = .iface 288 (.pointer (some (s 1)))) := errV_of (show k = 2 from LK'.out) (by decide)
      clear C5 C6 LK'
      go_enter Tryz.func75, Tryz.ntmps75
      go_wp2_with (first
        | (go_at_call_of 109 (Value.slice sa sk.length sc); refine (C1.out _ (Below.refl _ _)).mono ?_; rintro r w1 ⟨rfl, hb1⟩; clear C1)
        | (go_at_call 110; refine (C2.out _ hb1).mono ?_; rintro r w2 ⟨fa, fc, rfl, hf, hb2⟩)
        | (go_at_call 109; refine (C3.out _ _ _ hf).mono ?_; rintro r w3 ⟨rfl, hb3⟩; have h3 := below_then hb1 (below_then hb2 hb3); have x3 := CE.out _ h3)
        | (go_at_call 111; refine (C4.out _ h3).mono ?_; rintro r w4 ⟨rfl, hb4⟩; have h4 := below_then h3 hb4; have r1 := (HG.out.step h4).c1))
      go_ret
      exact ⟨(by rw [EV.out]; rfl), below_then HA.out h4⟩
    | false =>
    have LK2 : Hid (k = if b4 = true then 2 else if b5 = true then 6 else 0) := LK'.out
    clear LK'
    cases b4 with
    | true =>
      have EV : Hid (errV s k = .iface 288 (.pointer (some (s 1)))) := errV_of (show k = 2 from LK2.out) (by decide)
      clear C6 LK2
      go_enter Tryz.func75, Tryz.ntmps75
      go_wp2_with (first
        | (go_at_call_of 109 (Value.slice sa sk.length sc); refine (C1.out _ (Below.refl _ _)).mono ?_; rintro r w1 ⟨rfl, hb1⟩; clear C1)
        | (go_at_call 110; refine (C2.out _ hb1).mono ?_; rintro r w2 ⟨fa, fc, rfl, hf, hb2⟩)
        | (go_at_call 109; refine (C3.out _ _ _ hf).mono ?_; rintro r w3 ⟨rfl, hb3⟩; have h3 := below_then hb1 (below_then hb2 hb3); have x3 := CE.out _ h3)
        | (go_at_call 111; refine (C4.out _ h3).mono ?_; rintro r w4 ⟨rfl, hb4⟩; have h4 := below_then h3 hb4)
        | (go_at_call 113; refine (C5.out _ h4).mono ?_; rintro r w5 ⟨rfl, hb5⟩; have h5 := below_then h4 hb5; have r1 := (HG.out.step h5).c1))
      go_ret
      exact ⟨(by rw [EV.out]; rfl), below_then HA.out h5⟩
    | false =>
    have LK3 : Hid (k = if b5 = true then 6 else 0) := LK2.out
    clear LK2
    have EV : Hid (errV s k = if b5 = true then .iface 288 (.pointer (some (s 5))) else .nilIface) := by
      show _ = _
      rw [LK3.out]
      cases b5 <;> rfl
    cases b5
    all_goals
      clear LK3
      go_enter Tryz.func75, Tryz.ntmps75
      go_wp2_with (first
        | (go_at_call_of 109 (Value.slice sa sk.length sc); refine (C1.out _ (Below.refl _ _)).mono ?_; rintro r w1 ⟨rfl, hb1⟩; clear C1)
        | (go_at_call 110; refine (C2.out _ hb1).mono ?_; rintro r w2 ⟨fa, fc, rfl, hf, hb2⟩)
        | (go_at_call 109; refine (C3.out _ _ _ hf).mono ?_; rintro r w3 ⟨rfl, hb3⟩; have h3 := below_then hb1 (below_then hb2 hb3); have x3 := CE.out _ h3)
        | (go_at_call 111; refine (C4.out _ h3).mono ?_; rintro r w4 ⟨rfl, hb4⟩; have h4 := below_then h3 hb4)
        | (go_at_call 113; refine (C6.out _ h5).mono ?_; rintro r w6 ⟨rfl, hb6⟩; have h6 := below_then h5 hb6; have r5 := (HG.out.step h6).c5)
        | (go_at_call 113; refine (C5.out _ h4).mono ?_; rintro r w5 ⟨rfl, hb5⟩; have h5 := below_then h4 hb5))
      go_ret
      exact ⟨(by rw [EV.out]; rfl), below_then HA.out h6⟩
end Go.Proofs.YtnpecjccajebiaaGreatDoor

/- Package event's Check: which error an event has. -/
namespace Go.Proofs.YtnpecjccajebiaaGreatDoor
open Go Go.RowKit Cal
attribute [local go_sem] Oper.semAt_some

/-- an event's plain data -/
structure EV where
  id : ByteArray
  ti : ByteArray
  st : Int
  lg : Int
  f : ByteArray
  e : Int
  ds : List Int
  c : Int
  u : Int
  sk : List Int
  mv : List (Int × Int)
/-- an event as a value -/
def ev (E : EV) (sl sk mv : Value) : Value := .agg #[.string E.id, .string E.ti, .int .i64 E.st, .int .i64 E.lg, .string E.f, .int .i64 E.e, sl, .int .i64 E.c, .int .i64 E.u, sk, mv]
/-- the box of an event -/
def EB (W : World) (B : Nat) (E : EV) (sl sk mv : Value) : Prop := W.heap[B]? = some (.cells #[.string E.id, .string E.ti, .int .i64 E.st, .int .i64 E.lg, .string E.f, .int .i64 E.e, sl, .int .i64 E.c, .int .i64 E.u, sk, mv] 44 (0, 0))
theorem EB.lt {W : World} {B : Nat} {E : EV} {sl sk mv : Value} (h : EB W B E sl sk mv) : B < W.heap.size := (Array.getElem?_eq_some_iff.1 h).1
theorem EB.step {W W' : World} {B : Nat} {E : EV} {sl sk mv : Value} (h : EB W B E sl sk mv) (hb : Below W.heap.size W W') : EB W' B E sl sk mv := (hb.block _ h.lt).trans h
theorem EB.new (w : World) (E : EV) (sl sk mv : Value) : EB (w.alloc (.cells #[.string E.id, .string E.ti, .int .i64 E.st, .int .i64 E.lg, .string E.f, .int .i64 E.e, sl, .int .i64 E.c, .int .i64 E.u, sk, mv] 44)) w.heap.size E sl sk mv := block_at _ rfl
theorem blk11 {W : World} {n : Nat} {v0 v1 v2 v3 v4 v5 v6 v7 v8 v9 v10 : Value} {t : TypeId} (h : W.heap[n]? = some (.cells #[v0, v1, v2, v3, v4, v5, v6, v7, v8, v9, v10] t (0, 0))) :
    W.cell? ⟨n, 0, none⟩ = some v0 ∧ W.cell? ⟨n, 1, none⟩ = some v1 ∧ W.cell? ⟨n, 2, none⟩ = some v2 ∧ W.cell? ⟨n, 3, none⟩ = some v3 ∧ W.cell? ⟨n, 4, none⟩ = some v4 ∧ W.cell? ⟨n, 5, none⟩ = some v5 ∧
      W.cell? ⟨n, 6, none⟩ = some v6 ∧ W.cell? ⟨n, 7, none⟩ = some v7 ∧ W.cell? ⟨n, 8, none⟩ = some v8 ∧ W.cell? ⟨n, 9, none⟩ = some v9 ∧ W.cell? ⟨n, 10, none⟩ = some v10 := by
  refine ⟨?_, ?_, ?_, ?_, ?_, ?_, ?_, ?_, ?_, ?_, ?_⟩ <;> simp [World.cell?, h]

/-- the bounds of a start and of a length -/
def bE (st lg : Int) : Prop := (0 ≤ st ∧ st ≤ 73048) ∧ 1 ≤ lg ∧ lg ≤ 60
/-- the number of an event's error -/
def EvK (E : EV) (k : Int) : Prop :=
  (¬ okID E.id ∧ k = 4) ∨ (okID E.id ∧ ¬ okTi E.ti ∧ k = 1) ∨ (okID E.id ∧ okTi E.ti ∧ ¬ bE E.st E.lg ∧ k = 2) ∨
    (okID E.id ∧ okTi E.ti ∧ bE E.st E.lg ∧ ∃ kr, ErrK E.f E.e E.ds E.c E.u kr ∧ ((kr ≠ 0 ∧ k = kr) ∨ (kr = 0 ∧ k = lk E.sk E.mv)))
/-- an event that is well -/
structure EW (E : EV) : Prop where
  id : okID E.id
  ti : okTi E.ti
  bd : bE E.st E.lg
  rl : Well (rd E.f E.e E.ds E.c E.u)
  ls : lk E.sk E.mv = 0
theorem evK_ex (E : EV) : ∃ k, EvK E k := by
  by_cases h1 : okID E.id
  · by_cases h2 : okTi E.ti
    · by_cases h3 : bE E.st E.lg
      · obtain ⟨kr, hk⟩ := errK_ex E.f E.e E.ds E.c E.u
        by_cases h4 : kr = 0
        · exact ⟨_, .inr (.inr (.inr ⟨h1, h2, h3, kr, hk, .inr ⟨h4, rfl⟩⟩))⟩
        · exact ⟨_, .inr (.inr (.inr ⟨h1, h2, h3, kr, hk, .inl ⟨h4, rfl⟩⟩))⟩
      · exact ⟨_, .inr (.inr (.inl ⟨h1, h2, h3, rfl⟩))⟩
    · exact ⟨_, .inr (.inl ⟨h1, h2, rfl⟩)⟩
  · exact ⟨_, .inl ⟨h1, rfl⟩⟩
theorem evK_0 {E : EV} {k : Int} (h : EvK E k) : k = 0 ↔ EW E := by
  rcases h with ⟨h1, rfl⟩ | ⟨h1, h2, rfl⟩ | ⟨h1, h2, h3, rfl⟩ | ⟨h1, h2, h3, kr, hk, (⟨h4, rfl⟩ | ⟨rfl, rfl⟩)⟩
  · exact ⟨fun q => absurd q (by decide), fun q => absurd q.id h1⟩
  · exact ⟨fun q => absurd q (by decide), fun q => absurd q.ti h2⟩
  · exact ⟨fun q => absurd q (by decide), fun q => absurd q.bd h3⟩
  · exact ⟨fun q => absurd q h4, fun q => absurd ((errK_0 hk).2 q.rl) h4⟩
  · exact ⟨fun q => ⟨h1, h2, h3, (errK_0 hk).1 rfl, q⟩, fun q => q.ls⟩
theorem evK_bd {E : EV} {k : Int} (h : EvK E k) : k = 0 ∨ (1 ≤ k ∧ k ≤ 8) := by
  rcases h with ⟨h1, rfl⟩ | ⟨h1, h2, rfl⟩ | ⟨h1, h2, h3, rfl⟩ | ⟨h1, h2, h3, kr, hk, (⟨h4, rfl⟩ | ⟨rfl, rfl⟩)⟩
  · omega
  · omega
  · omega
  · have := errK_bd hk; omega
  · have := lk_bd E.sk E.mv; omega
theorem errV_ne {s : Nat → Addr} {k : Int} (h : k ≠ 0) : ∃ p, errV s k = .iface 288 (.pointer (some p)) := by
  unfold errV; rw [if_neg h]; exact ⟨_, rfl⟩

set_option maxHeartbeats 2000000 in
theorem evCheck_k (E : EV) (sl skv mvv : Value) (k : Int) (s : Nat → Addr) (w : World) (g : GlobK s w) (hd : Days w sl E.ds) (hs : Ints w skv E.sk) (hm : Movs w mvv E.mv) (h30 : E.id.size ≤ 60) (h60 : E.ti.size ≤ 60) (hk : EvK E k) :
    Calls Tryz.prog 42 #[ev E sl skv mvv] w fun r w' => r = .returned (errV s k) ∧ Below w.heap.size w w' := by
  have hA := below_alloc w (.cells #[.string E.id, .string E.ti, .int .i64 E.st, .int .i64 E.lg, .string E.f, .int .i64 E.e, sl, .int .i64 E.c, .int .i64 E.u, skv, mvv] 44)
  have hB := EB.new w E sl skv mvv
  obtain ⟨id, ti, st, lg, f, e, ds, c, u, sk, mv⟩ := E
  dsimp only at *
  unfold ev EB at *
  dsimp only at *
  have HG : Hid (GlobK s _) := g.step hA
  have HD : Hid (Days _ sl ds) := hd.step hA
  have HS : Hid (Ints _ skv sk) := hs.step hA
  have HM : Hid (Movs _ mvv mv) := hm.step hA
  obtain ⟨ra, rc, rfl, _⟩ := hd
  obtain ⟨sa, sc, rfl, _⟩ := hs
  obtain ⟨ma, mc, rfl, _⟩ := hm
  have HA : Hid (_) := hA
  clear hA g
  generalize hw0 : w.alloc (.cells #[.string id, .string ti, .int .i64 st, .int .i64 lg, .string f, .int .i64 e, .slice ra ds.length rc, .int .i64 c, .int .i64 u, .slice sa sk.length sc, .slice ma mv.length mc] 44) = w0 at HG HD HS HM HA hB
  obtain ⟨x0, x1, x2, x3, x4, x5, x6, x7, x8, x9, x10⟩ := blk11 hB
  have BX : Hid (∀ W, Below w0.heap.size w0 W → _) := fun W h => blk11 ((h.block _ (Array.getElem?_eq_some_iff.1 hB).1).trans hB)
  have HK : Hid (EvK _ k) := hk
  clear hk hB
  by_cases h1 : okID id
  case neg =>
    have EK : Hid (errV s k = .iface 288 (.pointer (some (s 3)))) := by
      refine errV_of (m := 4) ?_ (by decide)
      rcases HK.out with q | q | q | q
      · exact q.2
      · exact absurd q.1 h1
      · exact absurd q.1 h1
      · exact absurd q.1 h1
    have r3 := HG.out.c3
    have I : Hid (∀ W, _) := fun W => isID_any id W h30 false ⟨fun q => absurd q (by decide), fun q => absurd q h1⟩
    clear HK HD HS HM BX h1 HG
    go_enter Tryz.func42, Tryz.ntmps42
    go_wp2_with (go_at_call 72; refine (I.out _).mono ?_; rintro r w1 ⟨rfl, rfl⟩)
    go_ret
    exact ⟨(by rw [EK.out]; rfl), HA.out⟩
  case pos =>
  have I : Hid (∀ W, _) := fun W => isID_any id W h30 true ⟨fun _ => h1, fun _ => rfl⟩
  by_cases h2 : okTi ti
  case neg =>
    have EK : Hid (errV s k = .iface 288 (.pointer (some (s 0)))) := by
      refine errV_of (m := 1) ?_ (by decide)
      rcases HK.out with q | q | q | q
      · exact absurd h1 q.1
      · exact q.2.2
      · exact absurd q.2.1 h2
      · exact absurd q.2.1 h2
    have T : Hid (∀ W, _) := fun W => isTitle_any ti W h60 false ⟨fun q => absurd q (by decide), fun q => absurd q h2⟩
    clear HK HD HS HM BX h1 h2
    go_enter Tryz.func42, Tryz.ntmps42
    go_wp2_with (first
      | (go_at_call 72; refine (I.out _).mono ?_; rintro r w1 ⟨rfl, rfl⟩)
      | (go_at_call 73; refine (T.out _).mono ?_; rintro r w1 ⟨rfl, hb1⟩; have r0 := (HG.out.step hb1).c0))
    go_ret
    exact ⟨(by rw [EK.out]; rfl), below_then HA.out hb1⟩
  case pos =>
  have T : Hid (∀ W, _) := fun W => isTitle_any ti W h60 true ⟨fun _ => h2, fun _ => rfl⟩
  have D : Hid (∀ W, Calls Tryz.prog 46 #[.int .i64 st] W fun r w' => r = .returned (.bool (decide (0 ≤ st ∧ st ≤ 73048))) ∧ w' = W) := fun W => eisDay_any st W _ (by simp)
  by_cases h3 : bE st lg
  case neg =>
    have EK : Hid (errV s k = .iface 288 (.pointer (some (s 1)))) := by
      refine errV_of (m := 2) ?_ (by decide)
      rcases HK.out with q | q | q | q
      · exact absurd h1 q.1
      · exact absurd h2 q.2.1
      · exact q.2.2.2
      · exact absurd q.2.2.1 h3
    have h4 : decide (0 ≤ st ∧ st ≤ 73048) = false ∨ (decide (0 ≤ st ∧ st ≤ 73048) = true ∧ lg < 1) ∨ (decide (0 ≤ st ∧ st ≤ 73048) = true ∧ 1 ≤ lg ∧ 60 < lg) := by
      unfold bE at h3
      rw [decide_eq_false_iff_not, decide_eq_true_iff]
      omega
    clear HK HD HS HM h1 h2 h3
    generalize decide (0 ≤ st ∧ st ≤ 73048) = b at D h4
    rcases h4 with rfl | ⟨rfl, h4⟩ | ⟨rfl, h4, h5⟩
    all_goals
      go_enter Tryz.func42, Tryz.ntmps42
      go_wp2_with (first
        | (go_at_call 72; refine (I.out _).mono ?_; rintro r w1 ⟨rfl, rfl⟩)
        | (go_at_call 73; refine (T.out _).mono ?_; rintro r w1 ⟨rfl, hb1⟩; have r1 := (HG.out.step hb1).c1; obtain ⟨y0, y1, y2, y3, y4, y5, y6, y7, y8, y9, y10⟩ := BX.out _ hb1)
        | (go_at_call 46; refine (D.out _).mono ?_; rintro r w2 ⟨rfl, rfl⟩))
      go_ret
      exact ⟨(by rw [EK.out]; rfl), below_then HA.out hb1⟩
  case pos =>
  have hd1 : decide (0 ≤ st ∧ st ≤ 73048) = true := decide_eq_true h3.1
  rw [hd1] at D
  obtain ⟨hl1, hl2⟩ : 1 ≤ lg ∧ lg ≤ 60 := h3.2
  have EX : Hid (∃ kr, ErrK f e ds c u kr ∧ ((kr ≠ 0 ∧ k = kr) ∨ (kr = 0 ∧ k = lk sk mv))) := by
    rcases HK.out with q | q | q | q
    · exact absurd h1 q.1
    · exact absurd h2 q.2.1
    · exact absurd h3 q.2.2.1
    · exact q.2.2.2
  obtain ⟨kr, hkr, hcase⟩ := EX.out
  have RC : Hid (∀ W, Below w0.heap.size w0 W → Calls Tryz.prog 74 #[.agg #[.string f, .int .i64 e, .slice ra ds.length rc, .int .i64 c, .int .i64 u]] W fun r w' => r = .returned (errV s kr) ∧ Below W.heap.size W w') := fun W h => rcheck_k f e _ c u ds kr s W (HG.out.step h) (HD.out.step h) hkr
  have LC : Hid (∀ W, Below w0.heap.size w0 W → Calls Tryz.prog 75 #[.slice sa sk.length sc, .slice ma mv.length mc] W fun r w' => r = .returned (errV s (lk sk mv)) ∧ Below W.heap.size W w') := fun W h => checkLists_k sk mv _ _ s W (HG.out.step h) (HS.out.step h) (HM.out.step h)
  clear HK h1 h2 h3 hd1 hkr HD HS HM EX
  rcases hcase with ⟨q1, q2⟩ | ⟨q1, q2⟩
  · obtain ⟨p, hp⟩ := errV_ne (s := s) q1
    have EK : Hid (errV s k = .iface 288 (.pointer (some p))) := by show _ = _; rw [q2]; exact hp
    rw [hp] at RC
    clear q1 q2 LC hp
    go_enter Tryz.func42, Tryz.ntmps42
    go_wp2_with (first
      | (go_at_call 72; refine (I.out _).mono ?_; rintro r w1 ⟨rfl, rfl⟩)
      | (go_at_call 73; refine (T.out _).mono ?_; rintro r w1 ⟨rfl, hb1⟩; obtain ⟨y0, y1, y2, y3, y4, y5, y6, y7, y8, y9, y10⟩ := BX.out _ hb1)
      | (go_at_call 46; refine (D.out _).mono ?_; rintro r w2 ⟨rfl, rfl⟩)
      | (go_at_call 74; refine (RC.out _ hb1).mono ?_; rintro r w2 ⟨rfl, hb2⟩))
    go_ret
    exact ⟨(by rw [EK.out]; rfl), below_then HA.out (below_then hb1 hb2)⟩
  · rw [q1, errV_0] at RC
    rw [← q2] at LC
    clear q1 q2
    generalize errV s k = er at LC ⊢
    go_enter Tryz.func42, Tryz.ntmps42
    go_wp2_with (first
      | (go_at_call 72; refine (I.out _).mono ?_; rintro r w1 ⟨rfl, rfl⟩)
      | (go_at_call 73; refine (T.out _).mono ?_; rintro r w1 ⟨rfl, hb1⟩; obtain ⟨y0, y1, y2, y3, y4, y5, y6, y7, y8, y9, y10⟩ := BX.out _ hb1)
      | (go_at_call 46; refine (D.out _).mono ?_; rintro r w2 ⟨rfl, rfl⟩)
      | (go_at_call 74; refine (RC.out _ hb1).mono ?_; rintro r w2 ⟨rfl, hb2⟩; have h2 := below_then hb1 hb2; obtain ⟨z0, z1, z2, z3, z4, z5, z6, z7, z8, z9, z10⟩ := BX.out _ h2)
      | (go_at_call 75; refine (LC.out _ h2).mono ?_; rintro r w3 ⟨rfl, hb3⟩))
    go_ret
    exact ⟨rfl, below_then HA.out (below_then h2 hb3)⟩
theorem lk_of {sk : List Int} {mv : List (Int × Int)} (h : lk sk mv = 0) : sk.length ≤ 20 ∧ mv.length ≤ 20 ∧ Rise sk ∧ (mv.map Prod.fst).Pairwise (· < ·) ∧ (∀ x ∈ sk, 0 ≤ x ∧ x ≤ 73048) ∧ (∀ m ∈ mv, (0 ≤ m.1 ∧ m.1 ≤ 73048) ∧ 0 ≤ m.2 ∧ m.2 ≤ 73048) ∧ ∀ m ∈ mv, m.1 ∉ sk := by
  unfold lk at h
  split at h
  · omega
  · split at h
    · omega
    · split at h
      · omega
      · split at h
        · omega
        · split at h
          · omega
          · rename_i q1 q2 q3 q4 q5
            rw [Bool.not_eq_false, Bool.and_eq_true, riseB_iff, riseB_iff] at q2
            refine ⟨by omega, by omega, q2.1, rise_pair q2.2, fun x hx => ?_, fun m hm => ?_, fun m hm q => q5 ?_⟩
            · have : ¬ noDay x = true := fun q => q3 (List.any_eq_true.2 ⟨x, hx, q⟩)
              unfold noDay at this
              simpa using this
            · have : ¬ (noDay m.1 || noDay m.2) = true := fun q => q4 (List.any_eq_true.2 ⟨m, hm, q⟩)
              unfold noDay at this
              simp at this
              omega
            · exact List.any_eq_true.2 ⟨m, hm, by simpa using q⟩
end Go.Proofs.YtnpecjccajebiaaGreatDoor

/- Plain mathematics of a day's text: ten signs, four digits, two and two, a line between; and how these signs are read. -/
namespace Go.Proofs.YtnpecjccajebiaaGreatDoor.Cal
open Go

/-- a digit's sign -/
def dgt (k : Int) : UInt8 := UInt8.ofNat (48 + k.toNat)
/-- two digits -/
def two (k : Int) : List UInt8 := [dgt (k / 10), dgt (k % 10)]
/-- four digits -/
def four (k : Int) : List UInt8 := [dgt (k / 1000), dgt (k / 100 % 10), dgt (k / 10 % 10), dgt (k % 10)]
/-- a date's text -/
def txt (y m d : Int) : List UInt8 := four y ++ [45] ++ two m ++ [45] ++ two d

theorem itoa_four (y : Int) (h0 : 1000 ≤ y) (h1 : y ≤ 9999) : Lib.itoa y = four y := by
  obtain ⟨u, rfl⟩ : ∃ u : Nat, y = u := ⟨y.toNat, by omega⟩
  rw [Lib.itoa_nonneg, Lib.decDigits, dif_neg (by omega), Lib.decDigits, dif_neg (by omega), Lib.decDigits_two (by omega) (by omega)]
  unfold four dgt
  have e1 : u / 10 / 10 / 10 = ((u : Int) / 1000).toNat := by omega
  have e2 : u / 10 / 10 % 10 = ((u : Int) / 100 % 10).toNat := by omega
  have e3 : u / 10 % 10 = ((u : Int) / 10 % 10).toNat := by omega
  have e4 : u % 10 = ((u : Int) % 10).toNat := by omega
  rw [e1, e2, e3, e4]; rfl
theorem dec_low (k : Nat) (h : k < 10) : [48] ++ Lib.decDigits k = two k := by
  rw [Lib.decDigits_one h]; unfold two dgt
  have e1 : ((k : Int) / 10).toNat = 0 := by omega
  have e2 : ((k : Int) % 10).toNat = k := by omega
  rw [e1, e2]; rfl
theorem dec_two (k : Nat) (h0 : ¬ k < 10) (h1 : k < 100) : Lib.decDigits k = two k := by
  rw [Lib.decDigits_two h0 h1]; unfold two dgt
  have e1 : ((k : Int) / 10).toNat = k / 10 := by omega
  have e2 : ((k : Int) % 10).toNat = k % 10 := by omega
  rw [e1, e2]
theorem two_length (k : Int) : (two k).length = 2 := rfl
theorem four_length (k : Int) : (four k).length = 4 := rfl
theorem txt_length (y m d : Int) : (txt y m d).length = 10 := rfl
theorem dgt_nat (k : Int) (h0 : 0 ≤ k) (h1 : k ≤ 9) : (dgt k).toNat = 48 + k.toNat := by
  unfold dgt; rw [UInt8.toNat_ofNat']; omega
end Go.Proofs.YtnpecjccajebiaaGreatDoor.Cal
