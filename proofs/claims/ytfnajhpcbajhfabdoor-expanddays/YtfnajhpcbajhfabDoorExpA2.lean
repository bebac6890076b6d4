/- The document's own AllDays and IsOne -/
import Derived.Test.YtfnajhpcbajhfabDoorExpR
import Derived.Test.YtfnajhpcbajhfabDoorExpD
import Derived.Deep.DeepCutAuto
namespace Go.Proofs.YtfnajhpcbajhfabDoor
open Go.RowKit Cal

/-- the days from a to b that p lets through -/
def upTo (p : Int → Bool) (a b : Int) : List Int := fr p a (b + 1 - a).toNat
theorem upTo_end {p : Int → Bool} {a b : Int} (h : b < a) : upTo p a b = [] := by
  unfold upTo
  rw [show (b + 1 - a).toNat = 0 by omega]; rfl
theorem upTo_step {p : Int → Bool} {a b : Int} (h : a ≤ b) : upTo p a b = if p a = true then a :: upTo p (a + 1) b else upTo p (a + 1) b := by
  unfold upTo
  rw [show (b + 1 - a).toNat = (b + 1 - (a + 1)).toNat + 1 by omega]; rfl
theorem upTo_miss {p : Int → Bool} {a b : Int} (h : p a = false) : upTo p a b = upTo p (a + 1) b := by
  rcases Int.lt_or_le b a with h1 | h1
  · rw [upTo_end h1, upTo_end (by omega)]
  · rw [upTo_step h1, if_neg (by rw [h]; decide)]
theorem upTo_skip {p : Int → Bool} {b : Int} : ∀ (n : Nat) (a : Int), (∀ x, a ≤ x → x < a + n → x ≤ b → p x = false) → upTo p a b = upTo p (a + n) b
  | 0, a, _ => by simp
  | n + 1, a, h => by
    have e : a + 1 + (n : Int) = a + ((n + 1 : Nat) : Int) := by omega
    rcases Int.lt_or_le b a with h1 | h1
    · rw [upTo_end h1, upTo_end (by omega)]
    · rw [upTo_miss (h a (by omega) (by omega) h1), upTo_skip n (a + 1) (fun x q1 q2 q3 => h x (by omega) (by omega) q3), e]
theorem upTo_to {p : Int → Bool} {a c b : Int} (h : a ≤ c) (hp : ∀ x, a ≤ x → x < c → x ≤ b → p x = false) : upTo p a b = upTo p c b := by
  have := upTo_skip (p := p) (b := b) (c - a).toNat a (fun x h1 h2 h3 => hp x h1 (by omega) h3)
  rw [this]; congr 1; omega
theorem upTo_last (p : Int → Bool) (a : Int) : upTo p a 73048 = From p a := by
  unfold upTo From
  congr 1
theorem mem_upTo {p : Int → Bool} {x a b : Int} : x ∈ upTo p a b ↔ a ≤ x ∧ x ≤ b ∧ p x = true := by
  unfold upTo
  rw [mem_fr]
  constructor
  · rintro ⟨h1, h2, h3⟩; exact ⟨h1, by omega, h3⟩
  · rintro ⟨h1, h2, h3⟩; exact ⟨h1, by omega, h3⟩

/-- two candidates by months lie as far apart as a rule's step says -/
theorem pM_apart {s e d d' : Int} (hs0 : 0 ≤ s) (hs1 : s ≤ 73048) (h : pM s e d = true) (h' : pM s e d' = true) (hlt : d < d') : d + 28 ≤ d' := by
  obtain ⟨y, m, x, hv, hy⟩ := exists_date s hs0 hs1
  obtain ⟨e1, e2, j0, j1⟩ := mo_of hv
  generalize (y - 2000) * 12 + m - 1 = j at e1 e2 j0 j1
  have hx0 : 1 ≤ x := hv.2.2.2.2.1
  have hx1 : x ≤ dim (yA j) (mA j) := by rw [e1, e2]; exact hv.2.2.2.2.2
  have hs' : s = num (yA j) (mA j) x := by rw [e1, e2]; exact hy.symm
  rw [hs', pM_at j0 j1 hx0 hx1] at h h'
  obtain ⟨i, i0, i1, i2, i3, i4⟩ := h
  obtain ⟨k, k0, k1, k2, k3, k4⟩ := h'
  rw [num_F] at i4 k4
  have hik : i < k := by
    rcases Int.lt_or_le i k with q | q
    · exact q
    · have := F_le (s := k) (t := i) (by omega) q (by omega); omega
  have f1 := F_succ (s := i) (by omega) i1
  obtain ⟨a, b, c, g⟩ := yA_in (s := i) (by omega) i1
  have f2 := dim_lo (yA i) (mA i) a b c g
  have f3 := F_le (s := i + 1) (t := k) (by omega) (by omega) (by omega)
  omega
theorem F_year (i : Int) : F i + 365 ≤ F (i + 12) := by
  have e1 : yA (i + 12) = yA i + 1 := by unfold yA; omega
  have e2 : mA (i + 12) = mA i := by unfold mA; omega
  unfold F
  rw [e1, e2, dby_succ]
  unfold yd cum
  have l1 := lp_01 (yA i)
  have l2 := lp_01 (yA i + 1)
  split <;> omega
theorem pY_apart {s e d d' : Int} (hs0 : 0 ≤ s) (hs1 : s ≤ 73048) (h : pM s (e * 12) d = true) (h' : pM s (e * 12) d' = true) (hlt : d < d') : d + 365 ≤ d' := by
  obtain ⟨y, m, x, hv, hy⟩ := exists_date s hs0 hs1
  obtain ⟨e1, e2, j0, j1⟩ := mo_of hv
  generalize (y - 2000) * 12 + m - 1 = j at e1 e2 j0 j1
  have hx0 : 1 ≤ x := hv.2.2.2.2.1
  have hx1 : x ≤ dim (yA j) (mA j) := by rw [e1, e2]; exact hv.2.2.2.2.2
  have hs' : s = num (yA j) (mA j) x := by rw [e1, e2]; exact hy.symm
  rw [hs', pM_at j0 j1 hx0 hx1] at h h'
  obtain ⟨i, i0, i1, i2, i3, i4⟩ := h
  obtain ⟨k, k0, k1, k2, k3, k4⟩ := h'
  rw [num_F] at i4 k4
  have hik : i < k := by
    rcases Int.lt_or_le i k with q | q
    · exact q
    · have := F_le (s := k) (t := i) (by omega) q (by omega); omega
  have d1 : (12 : Int) ∣ i - j := Int.dvd_trans ⟨e, by omega⟩ (Int.dvd_of_emod_eq_zero i2)
  have d2 : (12 : Int) ∣ k - j := Int.dvd_trans ⟨e, by omega⟩ (Int.dvd_of_emod_eq_zero k2)
  have f1 := F_year i
  have f3 := F_le (s := i + 12) (t := k) (by omega) (by omega) (by omega)
  omega
theorem stp_pos (f : List UInt8) : 1 ≤ stp f ∧ stp f ≤ 365 := by
  unfold stp
  split
  · omega
  · split <;> omega
/-- behind a candidate there is none for as long as the step says -/
theorem step_gap {f : List UInt8} {s e d x : Int} {ds : List Int} (hs0 : 0 ≤ s) (hs1 : s ≤ 73048) (h : cnd f s e ds d = true) (h1 : d < x) (h2 : x < d + stp f) : cnd f s e ds x = false := by
  rw [← Bool.not_eq_true]
  intro hx
  unfold stp at h2
  by_cases g3 : f = monthlyW
  · rw [if_pos g3] at h2
    unfold cnd at h hx
    rw [if_neg (by rw [g3]; decide), if_neg (by rw [g3]; decide), if_pos g3] at h hx
    have := pM_apart hs0 hs1 h hx h1
    omega
  · rw [if_neg g3] at h2
    by_cases g4 : f = yearlyW
    · rw [if_pos g4] at h2
      unfold cnd at h hx
      rw [if_neg (by rw [g4]; decide), if_neg (by rw [g4]; decide), if_neg g3, if_pos g4] at h hx
      have := pY_apart hs0 hs1 h hx h1
      omega
    · rw [if_neg g4] at h2
      omega

theorem cutK_low {c : Int} {k : Nat} {u : Int} {p : Int → Bool} {d b : Int} (h0 : 0 ≤ u) (h : u < d) : cutK c k u (upTo p d b) = [] := by
  cases hl : upTo p d b with
  | nil => exact cutK_nil c k u
  | cons x r =>
    have hx : x ∈ upTo p d b := by rw [hl]; exact List.mem_cons_self
    have := (mem_upTo.1 hx).1
    exact cutK_over h0 (by omega)
theorem cutK_most {c : Int} {k : Nat} {u : Int} {l : List Int} (hc : 0 < c) (h : c ≤ k) : cutK c k u l = [] := by
  unfold cutK
  rw [if_pos hc, show (c - k).toNat = 0 by omega]; rfl
set_option maxHeartbeats 2000000 in
set_option maxRecDepth 100000 in
theorem allDays_to (f : ByteArray) (e : Int) (sl : Value) (c u : Int) (ds : List Int) (s b bb : Int) (w : World) (hg : Got w sl ds) (hw : Well (rd f e ds c u)) (h20 : ds.length ≤ 20) (hs0 : 0 ≤ s) (hs1 : s ≤ 73048) (hb : b ≤ 73048) (hbb : b = bb ∨ (b = 73048 ∧ 73048 < bb)) :
    Calls Tryd.prog 16 #[.int .i64 s, rv f e sl c u, .int .i64 bb] w fun r w' => ∃ v, r = .returned v ∧ Ow w.heap.size w' v (cut c u (upTo (cnd f.toList s e ds) s b)) ∧ Below w.heap.size w w' := by
  have HG : Hid (Got w sl ds) := hg
  obtain ⟨a, cap, rfl, _, _⟩ := hg
  have HBB : Hid (b = bb ∨ (b = 73048 ∧ 73048 < bb)) := hbb
  clear hbb
  obtain ⟨i0, hi, hz0, hz1, hz2⟩ := info_parts info_int
  have hc0 : 0 ≤ c := hw.co.1
  have hc1 : c ≤ 1000 := hw.co.2
  have hu0 : -1 ≤ u := hw.un.1
  have hu1 : u ≤ 73048 := hw.un.2
  have IC : Hid (∀ (d : Int) (W : World), Below w.heap.size w W → s ≤ d → d ≤ 73048 → Calls Tryd.prog 24 #[.int .i64 s, .agg #[.string f, .int .i64 e, .slice a ds.length cap, .int .i64 c, .int .i64 u], .int .i64 d] W fun r w' => r = .returned (.bool (cnd f.toList s e ds d)) ∧ Below W.heap.size W w') :=
    fun d W h h1 h2 => isCand_any f e _ c u ds s d W (HG.out.step h) hw h20 hs0 h1 h2
  have ST : Hid (∀ W, Calls Tryd.prog 25 #[.agg #[.string f, .int .i64 e, .slice a ds.length cap, .int .i64 c, .int .i64 u]] W fun r w' => r = .returned (.int .i64 (stp f.toList)) ∧ Below W.heap.size W w') := fun W => stepOf_any f e a ds.length cap c u W
  have GAP : Hid (∀ d x, cnd f.toList s e ds d = true → d < x → x < d + stp f.toList → cnd f.toList s e ds x = false) := fun d x h h1 h2 => step_gap hs0 hs1 h h1 h2
  obtain ⟨hst1, hst2⟩ := stp_pos f.toList
  have ON : Hid (f.toList = onceW → ∀ d, s < d → cnd f.toList s e ds d = false) := fun h d hd => by
    unfold cnd
    rw [if_neg (by rw [h]; decide), if_neg (by rw [h]; decide), if_neg (by rw [h]; decide), if_neg (by rw [h]; decide), decide_eq_false_iff_not]
    omega
  have ON2 : Hid (f.toList = onceW → cnd f.toList s e ds s = true) := fun h => by
    unfold cnd
    rw [if_neg (by rw [h]; decide), if_neg (by rw [h]; decide), if_neg (by rw [h]; decide), if_neg (by rw [h]; decide), decide_eq_true_iff]
  have EQ : Hid (cut c u (upTo (cnd f.toList s e ds) s b) = [] ++ cutK c 0 u (upTo (cnd f.toList s e ds) s b)) := by
    show _ = _
    rw [cutK_zero]; rfl
  clear hw
  generalize stp f.toList = st at ST GAP hst1 hst2
  generalize cnd f.toList s e ds = p at IC GAP ON ON2 EQ ⊢
  generalize cut c u (upTo p s b) = L at EQ ⊢
  have k0 : RB (w.alloc (.cells #[.string f, .int .i64 e, .slice a ds.length cap, .int .i64 c, .int .i64 u] 24)) w.heap.size f e (.slice a ds.length cap) c u := block_at _ rfl
  have K0 : Hid (_) := k0
  have HA : Hid (Below w.heap.size w (w.alloc (.cells #[.string f, .int .i64 e, .slice a ds.length cap, .int .i64 c, .int .i64 u] 24))) := below_alloc _ _
  have hsA : (w.alloc (.cells #[.string f, .int .i64 e, .slice a ds.length cap, .int .i64 c, .int .i64 u] 24)).heap.size = w.heap.size + 1 := World.size_alloc _ _
  have OW0 : Hid (Ow (w.heap.size + 1) (w.alloc (.cells #[.string f, .int .i64 e, .slice a ds.length cap, .int .i64 c, .int .i64 u] 24)) (.slice none 0 0) []) := Ow.nil _ _
  clear k0
  unfold rv
  go_enter Tryd.func16, Tryd.ntmps16
  go_wp2
  generalize w.alloc (.cells #[.string f, .int .i64 e, .slice a ds.length cap, .int .i64 c, .int .i64 u] 24) = w0 at K0 HA hsA OW0
  go_loopw [7, 8] (fun ov dv wr => ∃ (o : List Int) (d : Int), dv = .int .i64 d ∧ s ≤ d ∧ d ≤ 73500 ∧ (o.length : Int) ≤ d - s ∧ Hid (Ow (w.heap.size + 1) wr ov o) ∧ Hid (L = o ++ cutK c o.length u (upTo p d b)) ∧ Hid (Below (w.heap.size + 1) w0 wr)) (fun _ dv _ => (73501 - intOf dv).toNat)
  case atStart => exact ⟨[], s, rfl, Int.le_refl _, by omega, by simp, OW0.out, EQ.out, Below.refl _ _⟩
  case round =>
    obtain ⟨o, d, rfl, hd0, hd1, hol, how, hL, hbw⟩ := hrel
    obtain ⟨oa, oc, rfl⟩ := ow_form how.out
    have RBW : Hid (RB wr w.heap.size f e (.slice a ds.length cap) c u) := (hbw.out.block _ (by omega)).trans K0.out
    have HB : Hid (Below w.heap.size w wr) := HA.out.trans (hbw.out.mono (by omega))
    obtain ⟨x0, x1, x2, x3, x4⟩ := blk5 RBW.out
    have hret : ∀ wf : World, Below wr.heap.size wr wf → cutK c o.length u (upTo p d b) = [] → ∃ v, Ending.returned (.slice oa o.length oc) = .returned v ∧ Ow w.heap.size wf v L ∧ Below w.heap.size w wf := fun wf hf he => by
      refine ⟨_, rfl, ?_, below_then HB.out hf⟩
      rw [hL.out, he, List.append_nil]
      exact own_base (Ow.step how.out hf) (by omega)
    have RET : Hid (_) := hret
    clear hret
    by_cases hdb : d ≤ b
    · have hdB : d ≤ bb := by have := HBB.out; omega
      have hd7 : d ≤ 73048 := by omega
      have hun : (0 ≤ u ∧ u < d) ∨ u < 0 ∨ (0 ≤ u ∧ d ≤ u) := by omega
      have hcn : (0 < c ∧ c ≤ o.length) ∨ c ≤ 0 ∨ (0 < c ∧ (o.length : Int) < c) := by omega
      rcases hun with ⟨q1, q2⟩ | hun
      · have HE : Hid (cutK c o.length u (upTo p d b) = []) := cutK_low q1 q2
        go_wp2
        go_ret
        exact RET.out _ (Below.refl _ _) HE.out
      · rcases hcn with ⟨q1, q2⟩ | hcn
        · have HE : Hid (cutK c o.length u (upTo p d b) = []) := cutK_most q1 q2
          rcases hun with q3 | ⟨q3, q4⟩
          all_goals
            go_wp2
            go_ret
            exact RET.out _ (Below.refl _ _) HE.out
        · have hno : ¬ (0 ≤ u ∧ u < d) := by omega
          have hck : 0 < c → (o.length : Int) < c := by omega
          have hic := IC.out d wr HB.out hd0 (by omega)
          cases hp : p d with
          | true =>
            rw [hp] at hic
            have HIC : Hid (_) := hic
            have HN : Hid (L = (o ++ [d]) ++ cutK c (o ++ [d]).length u (upTo p (d + st) b)) := by
              show _ = _
              rw [hL.out, upTo_step hdb, if_pos hp, cutK_on hck hno, List.length_append, List.append_assoc, upTo_to (a := d + 1) (c := d + st) (by omega) (fun x g1 g2 _ => GAP.out d x hp (by omega) g2)]
              rfl
            clear hic hp RET hno hck
            rcases hun with q3 | ⟨q3, q4⟩ <;> rcases hcn with q5 | ⟨q5, q6⟩
            all_goals
              go_upto_region 7 with (go_at_call 24; refine Calls.mono HIC.out ?_; rintro r wi ⟨rfl, hbi⟩)
              have hzi : wr.heap.size ≤ wi.heap.size := hbi.size
              have hzr : w.heap.size + 1 ≤ wr.heap.size := by have := hbw.out.size; omega
              have howi : Ow (w.heap.size + 1) wi (.slice oa o.length oc) o := Ow.step how.out hbi
              have OWI : Hid (Ow (w.heap.size + 1) (wi.alloc (.cells #[.int .i64 d] 3)) (.slice oa o.length oc) o) := Ow.step howi (below_alloc _ _)
              have NC : Hid (∀ j v, [Value.int .i64 d][j]? = some v → (wi.alloc (.cells #[.int .i64 d] 3)).cell? ((⟨wi.heap.size, 0, none⟩ : Addr).add j) = some v) := fun j v hv => by
                obtain ⟨hj, he⟩ := List.getElem?_eq_some_iff.1 hv
                have hj0 : j = 0 := by simpa using hj
                subst hj0
                have he' : Value.int .i64 d = v := by simpa using he
                rw [← he']
                exact (Boxed.new wi 3 (.int .i64 d)).cell
              clear x0 x1 x2 x3 x4
              go_upto_region 8 with (first
                | (at_builtin; refine wpList_append_own _ rfl _ _ 22 rfl (w.heap.size + 1) 3 i0 (.int .i64 0) 1 8 Tryd.underlying22 hi hz0 hz1 hz2 rfl (by decide) _ _ _ rfl OWI.out ⟨wi.heap.size, 0, none⟩ 1 1 [.int .i64 d] rfl rfl NC.out (fun v hv => by rw [List.mem_singleton.1 hv]; rfl) (by unfold maxLen; omega) (by omega) (by rw [World.size_alloc]; omega) ?_; intro v' w1 hown' hgrow _; obtain ⟨g', cap', rfl⟩ := ownsRow_succ hown')
                | go_in)
              have OW1 : Hid (Ow (w.heap.size + 1) w1 (.slice (some ⟨g', 0, none⟩) (o.length + 1) cap') (o ++ [d])) := by
                show World.ownsRow _ _ _ _ _ _ _
                rw [List.length_append, List.map_append]
                exact hown'
              have hbi1 : Below (w.heap.size + 1) w0 (wi.alloc (.cells #[.int .i64 d] 3)) := hbw.out.trans ((below_then hbi (below_alloc _ _)).mono hzr)
              have HB1 : Hid (Below (w.heap.size + 1) w0 w1) := hbi1.grown (show (wi.alloc (.cells #[.int .i64 d] 3)).grownBy w1 (Value.slice oa o.length oc).ownBlock from hgrow) (by rw [World.size_alloc]; omega) (fun k q => (World.ownsRow.lt OWI.out k q).1)
              have HBW1 : Hid (Below w.heap.size w w1) := HA.out.trans (HB1.out.mono (by omega))
              obtain ⟨x0, x1, x2, x3, x4⟩ := blk5 ((HB1.out.block _ (by omega)).trans K0.out)
              have hs01 : w.heap.size + 1 ≤ w1.heap.size := by have := HB1.out.size; omega
              clear hown' hgrow hbi1 OWI NC howi hbi HIC IC hL how
              go_wp2_with (go_at_call 25; refine (ST.out _).mono ?_; rintro r w2 ⟨rfl, hb2⟩)
              go_roundw
              case rel => exact ⟨o ++ [d], d + st, by go_num, by omega, by omega, by rw [List.length_append]; show (((o.length + 1 : Nat)) : Int) ≤ _; omega, Ow.step OW1.out hb2, HN.out, HB1.out.trans (hb2.mono hs01)⟩
              case measure => simp [intOf]; omega
          | false =>
            rw [hp] at hic
            have HIC : Hid (_) := hic
            have HN : Hid (L = o ++ cutK c o.length u (upTo p (d + 1) b)) := by
              show _ = _
              rw [hL.out, upTo_miss hp]
            have hds : f.toList = onceW → s < d := fun ho => by
              have := ON2.out ho
              rcases Int.lt_or_le s d with q | q
              · exact q
              · have : d = s := by omega
                subst this
                rw [hp] at this
                simp_all
            have HE : Hid (f.toList = onceW → cutK c o.length u (upTo p d b) = []) := fun ho => by
              rw [upTo_to (a := d) (c := max (b + 1) d) (by omega) (fun x g1 g2 _ => ON.out ho x (by have := hds ho; omega)), upTo_end (by omega)]
              exact cutK_nil _ _ _
            have hzr : w.heap.size + 1 ≤ wr.heap.size := by have := hbw.out.size; omega
            clear hic hno hck hp hds
            cases hof : (f.toList == [111, 110, 99, 101]) with
            | true =>
              have HO : Hid (f.toList = onceW) := by show _ = _; rw [beq_iff_eq] at hof; exact hof
              rcases hun with q3 | ⟨q3, q4⟩ <;> rcases hcn with q5 | ⟨q5, q6⟩
              all_goals
                go_wp2_with (go_at_call 24; refine Calls.mono HIC.out ?_; rintro r wi ⟨rfl, hbi⟩; clear x0 x1 x2 x3 x4; obtain ⟨x0, x1, x2, x3, x4⟩ := blk5 ((hbi.block _ (by omega)).trans RBW.out))
                go_ret
                exact RET.out _ hbi (HE.out HO.out)
            | false =>
              clear RET HE
              rcases hun with q3 | ⟨q3, q4⟩ <;> rcases hcn with q5 | ⟨q5, q6⟩
              all_goals
                go_wp2_with (go_at_call 24; refine Calls.mono HIC.out ?_; rintro r wi ⟨rfl, hbi⟩; clear x0 x1 x2 x3 x4; obtain ⟨x0, x1, x2, x3, x4⟩ := blk5 ((hbi.block _ (by omega)).trans RBW.out))
                go_roundw
                case rel => exact ⟨o, d + 1, by go_num, by omega, by omega, by omega, Ow.step how.out hbi, HN.out, hbw.out.trans (hbi.mono hzr)⟩
                case measure => simp [intOf]; omega
    · have HE : Hid (cutK c o.length u (upTo p d b) = []) := by show _ = _; rw [upTo_end (by omega)]; exact cutK_nil _ _ _
      have hend : bb < d ∨ (d ≤ bb ∧ 73048 < d) := by have := HBB.out; omega
      rcases hend with q | ⟨q, q'⟩
      all_goals
        go_wp2
        go_ret
        exact RET.out _ (Below.refl _ _) HE.out
theorem allDays_any (f : ByteArray) (e : Int) (sl : Value) (c u : Int) (ds : List Int) (s b : Int) (w : World) (hg : Got w sl ds) (hw : Well (rd f e ds c u)) (h20 : ds.length ≤ 20) (hs0 : 0 ≤ s) (hs1 : s ≤ 73048) (hb : b ≤ 73048) :
    Calls Tryd.prog 16 #[.int .i64 s, rv f e sl c u, .int .i64 b] w fun r w' => ∃ v, r = .returned v ∧ Ow w.heap.size w' v (cut c u (upTo (cnd f.toList s e ds) s b)) ∧ Below w.heap.size w w' :=
  allDays_to f e sl c u ds s b b w hg hw h20 hs0 hs1 hb (.inl rfl)
end Go.Proofs.YtfnajhpcbajhfabDoor
namespace Go.Proofs.YtfnajhpcbajhfabDoor
open Go.RowKit Cal

theorem fr_add {p : Int → Bool} : ∀ (n m : Nat) (a : Int), fr p a (n + m) = fr p a n ++ fr p (a + n) m
  | 0, m, a => by simp [fr]
  | n + 1, m, a => by
    have e1 : fr p a (n + 1 + m) = if p a = true then a :: fr p (a + 1) (n + m) else fr p (a + 1) (n + m) := by
      rw [show n + 1 + m = (n + m) + 1 by omega]; rfl
    have e2 : fr p a (n + 1) = if p a = true then a :: fr p (a + 1) n else fr p (a + 1) n := rfl
    rw [e1, e2, fr_add n m (a + 1), show a + 1 + (n : Int) = a + ((n + 1 : Nat) : Int) by omega]
    split <;> rfl
theorem cds_rise (f : List UInt8) (s e : Int) (ds : List Int) : (cds f s e ds).Pairwise (· < ·) := From_rise _ _
theorem From_split {p : Int → Bool} {a d : Int} (h : a ≤ d) (hd : d ≤ 73048) : From p a = upTo p a d ++ From p (d + 1) := by
  unfold From upTo
  have := fr_add (p := p) (d + 1 - a).toNat (73049 - (d + 1)).toNat a
  rw [show (73049 - a).toNat = (d + 1 - a).toNat + (73049 - (d + 1)).toNat by omega, this, show a + ((d + 1 - a).toNat : Int) = d + 1 by omega]
theorem inB_iff {xs : List Int} {d : Int} : inB xs d = true ↔ d ∈ xs := by unfold inB; rw [List.contains_iff_mem]
/-- of a count's first ones: a day is one of those up to it -/
theorem take_in {p : Int → Bool} {a d : Int} (c : Nat) (h : a ≤ d) (hd : d ≤ 73048) : inB ((upTo p a d).take c) d = inB ((From p a).take c) d := by
  rw [Bool.eq_iff_iff, inB_iff, inB_iff, From_split h hd, List.take_append, List.mem_append]
  constructor
  · exact fun q => .inl q
  · rintro (q | q)
    · exact q
    · have := (mem_From.1 (List.mem_of_mem_take q)).1
      omega
theorem ow_two {base : Nat} {W : World} {v : Value} {o : List Int} (h : Ow base W v o) : (v = .slice none 0 0 ∧ o = []) ∨ ∃ ad cap, v = .slice (some ad) o.length cap ∧ Gcl W ad o := by
  obtain ⟨a, cap, rfl, hn, hs⟩ := ow_got h
  cases a with
  | none =>
    obtain ⟨h1, rfl⟩ := hn rfl
    rw [h1]
    exact .inl ⟨rfl, List.length_eq_zero_iff.1 h1⟩
  | some ad => exact .inr ⟨ad, cap, rfl, fun j hj => (hs ad rfl j hj).2⟩
theorem isIn_ow {base : Nat} {W : World} {v : Value} {o : List Int} (x : Int) (h : Ow base W v o) (hl : o.length ≤ 100000) :
    Calls Tryd.prog 26 #[.int .i64 x, v] W fun r w' => r = .returned (.bool (inB o x)) ∧ w' = W := by
  rcases ow_two h with ⟨rfl, rfl⟩ | ⟨ad, cap, rfl, hc⟩
  · exact isIn_none x W
  · exact isIn_some x ad cap o W hl hc
theorem cut_lenA (c u : Int) (l : List Int) : (cut c u l).length ≤ l.length := by
  have h : (cutU u l).length ≤ l.length := by
    unfold cutU
    split
    · exact (List.takeWhile_sublist _).length_le
    · exact Nat.le_refl _
  unfold cut
  split
  · exact Nat.le_trans (List.length_take_le' _ _) h
  · exact h
theorem upTo_len {p : Int → Bool} {a b : Int} (h0 : 0 ≤ a) (h : b ≤ 73048) : (upTo p a b).length ≤ 73049 := by
  unfold upTo
  have := fr_len (p := p) (b + 1 - a).toNat a
  omega

set_option maxHeartbeats 2000000 in
theorem isOne_any (f : ByteArray) (e : Int) (sl : Value) (c u : Int) (ds : List Int) (s d : Int) (w : World) (hg : Got w sl ds) (hw : Well (rd f e ds c u)) (h20 : ds.length ≤ 20) (hs0 : 0 ≤ s) (hs1 : s ≤ 73048) :
    Calls Tryd.prog 18 #[.int .i64 s, rv f e sl c u, .int .i64 d] w fun r w' => r = .returned (.bool (inB (cut c u (cds f.toList s e ds)) d)) ∧ Below w.heap.size w w' := by
  have HG : Hid (Got w sl ds) := hg
  obtain ⟨a, cap, rfl, _, _⟩ := hg
  have hc0 : 0 ≤ c := hw.co.1
  have hcu : c = 0 ∨ u = -1 := hw.cu
  have hu0 : -1 ≤ u := hw.un.1
  have IC : Hid (∀ (W : World), Below w.heap.size w W → s ≤ d → d ≤ 73048 → Calls Tryd.prog 24 #[.int .i64 s, .agg #[.string f, .int .i64 e, .slice a ds.length cap, .int .i64 c, .int .i64 u], .int .i64 d] W fun r w' => r = .returned (.bool (cnd f.toList s e ds d)) ∧ Below W.heap.size W w') :=
    fun W h h1 h2 => isCand_any f e _ c u ds s d W (HG.out.step h) hw h20 hs0 h1 h2
  have AD : Hid (∀ (W : World), Below w.heap.size w W → d ≤ 73048 → Calls Tryd.prog 16 #[.int .i64 s, .agg #[.string f, .int .i64 e, .slice a ds.length cap, .int .i64 c, .int .i64 u], .int .i64 d] W fun r w' => ∃ v, r = .returned v ∧ Ow W.heap.size w' v (cut c u (upTo (cnd f.toList s e ds) s d)) ∧ Below W.heap.size W w') :=
    fun W h h2 => allDays_any f e _ c u ds s d W (HG.out.step h) hw h20 hs0 hs1 h2
  have MEM : Hid (∀ x, x ∈ cut c u (cds f.toList s e ds) → s ≤ x ∧ x ≤ 73048 ∧ cnd f.toList s e ds x = true ∧ (0 ≤ u → x ≤ u)) := fun x hx => by
    have h1 : x ∈ cutU u (cds f.toList s e ds) := by
      unfold cut at hx
      split at hx
      · exact List.mem_of_mem_take hx
      · exact hx
    have h2 : x ∈ cds f.toList s e ds ∧ (0 ≤ u → x ≤ u) := by
      unfold cutU at h1
      split at h1
      · rw [take_rise (cds_rise _ _ _ _)] at h1
        have := List.mem_filter.1 h1
        exact ⟨this.1, fun _ => by simpa using this.2⟩
      · exact ⟨h1, fun q => by omega⟩
    have h3 := mem_From.1 h2.1
    exact ⟨h3.1, h3.2.1, h3.2.2, h2.2⟩
  have YES : Hid (c = 0 → s ≤ d → d ≤ 73048 → cnd f.toList s e ds d = true → (0 ≤ u → d ≤ u) → inB (cut c u (cds f.toList s e ds)) d = true) := fun h1 h2 h3 h4 h5 => by
    rw [inB_iff]
    have hm : d ∈ cds f.toList s e ds := mem_From.2 ⟨h2, h3, h4⟩
    unfold cut cutU
    rw [if_neg (by omega)]
    split
    · rw [take_rise (cds_rise _ _ _ _), List.mem_filter]
      exact ⟨hm, by simpa using h5 (by assumption)⟩
    · exact hm
  have TK : Hid (0 < c → s ≤ d → d ≤ 73048 → inB (cut c u (upTo (cnd f.toList s e ds) s d)) d = inB (cut c u (cds f.toList s e ds)) d) := fun h1 h2 h3 => by
    have hu : u = -1 := by omega
    rw [hu, cut_count h1, cut_count h1]
    exact take_in _ h2 h3
  have LEN : Hid (d ≤ 73048 → (cut c u (upTo (cnd f.toList s e ds) s d)).length ≤ 100000) := fun h => by
    have h1 := cut_lenA c u (upTo (cnd f.toList s e ds) s d)
    have h2 := upTo_len (p := cnd f.toList s e ds) hs0 h
    omega
  have NO : Hid (d ∉ cut c u (cds f.toList s e ds) → inB (cut c u (cds f.toList s e ds)) d = false) := fun h => by
    rw [← Bool.not_eq_true, inB_iff]; exact h
  clear hw hcu
  generalize cut c u (upTo (cnd f.toList s e ds) s d) = L at AD TK LEN
  generalize cut c u (cds f.toList s e ds) = X at MEM YES TK NO ⊢
  generalize cnd f.toList s e ds = p at IC MEM YES
  have k0 : RB (w.alloc (.cells #[.string f, .int .i64 e, .slice a ds.length cap, .int .i64 c, .int .i64 u] 24)) w.heap.size f e (.slice a ds.length cap) c u := block_at _ rfl
  have K0 : Hid (_) := k0
  have HA : Hid (Below w.heap.size w (w.alloc (.cells #[.string f, .int .i64 e, .slice a ds.length cap, .int .i64 c, .int .i64 u] 24))) := below_alloc _ _
  clear k0
  unfold rv
  by_cases g1 : d < s
  · have R : Hid (inB X d = false) := NO.out (fun h => by have := (MEM.out d h).1; omega)
    go_enter Tryd.func18, Tryd.ntmps18
    go_wp2
    go_ret
    exact ⟨ret_bool R.out.symm, below_alloc _ _⟩
  · by_cases g2 : 73048 < d
    · have R : Hid (inB X d = false) := NO.out (fun h => by have := (MEM.out d h).2.1; omega)
      go_enter Tryd.func18, Tryd.ntmps18
      go_wp2
      go_ret
      exact ⟨ret_bool R.out.symm, below_alloc _ _⟩
    · have ic := IC.out _ HA.out (by omega) (by omega)
      cases hp : p d with
      | false =>
        have R : Hid (inB X d = false) := NO.out (fun h => by have := (MEM.out d h).2.2.1; rw [hp] at this; exact absurd this (by decide))
        rw [hp] at ic
        have HIC : Hid (_) := ic
        clear ic hp
        go_enter Tryd.func18, Tryd.ntmps18
        go_wp2_with (go_at_call 24; refine Calls.mono HIC.out ?_; rintro r w1 ⟨rfl, hb1⟩)
        go_ret
        exact ⟨ret_bool R.out.symm, below_then (below_alloc _ _) hb1⟩
      | true =>
        rw [hp] at ic
        have HIC : Hid (_) := ic
        have HP : Hid (_) := hp
        clear ic hp
        by_cases g3 : 0 ≤ u ∧ u < d
        · have R : Hid (inB X d = false) := NO.out (fun h => by have := (MEM.out d h).2.2.2 g3.1; omega)
          obtain ⟨g3, g4⟩ := g3
          go_enter Tryd.func18, Tryd.ntmps18
          go_wp2_with (go_at_call 24; refine Calls.mono HIC.out ?_; rintro r w1 ⟨rfl, hb1⟩; obtain ⟨x0, x1, x2, x3, x4⟩ := blk5 ((hb1.block _ (by simp)).trans K0.out))
          go_ret
          exact ⟨ret_bool R.out.symm, below_then (below_alloc _ _) hb1⟩
        · have hu3 : u < 0 ∨ (0 ≤ u ∧ d ≤ u) := by omega
          by_cases g5 : c = 0
          · have R : Hid (inB X d = true) := YES.out g5 (by omega) (by omega) HP.out (by omega)
            have g5' : (c == 0) = true := by rw [g5]; rfl
            clear g5 g3
            rcases hu3 with g6 | ⟨g6, g7⟩
            all_goals
              go_enter Tryd.func18, Tryd.ntmps18
              go_wp2_with (go_at_call 24; refine Calls.mono HIC.out ?_; rintro r w1 ⟨rfl, hb1⟩; obtain ⟨x0, x1, x2, x3, x4⟩ := blk5 ((hb1.block _ (by simp)).trans K0.out))
              go_ret
              exact ⟨ret_bool R.out.symm, below_then (below_alloc _ _) hb1⟩
          · have g5' : (c == 0) = false := by rw [beq_eq_false_iff_ne]; exact g5
            have R : Hid (inB L d = inB X d) := TK.out (by omega) (by omega) (by omega)
            have hll := LEN.out (by omega)
            clear g5 g3
            rcases hu3 with g6 | ⟨g6, g7⟩
            all_goals
              go_enter Tryd.func18, Tryd.ntmps18
              go_wp2_with (first
                | (go_at_call 24; refine Calls.mono HIC.out ?_; rintro r w1 ⟨rfl, hb1⟩; obtain ⟨x0, x1, x2, x3, x4⟩ := blk5 ((hb1.block _ (by simp)).trans K0.out))
                | (go_at_call 16; refine Calls.mono (AD.out w1 (below_then HA.out hb1) (by omega)) ?_; rintro r w2 ⟨v, rfl, hov, hb2⟩; have HOV : Hid (_) := hov; clear hov)
                | (go_at_call 26; refine Calls.mono (isIn_ow d HOV.out hll) ?_; rintro r w3 ⟨rfl, rfl⟩))
              go_ret
              exact ⟨ret_bool R.out, below_then (below_alloc _ _) (below_then hb1 hb2)⟩
end Go.Proofs.YtfnajhpcbajhfabDoor
