/- Package book's Copy: a range over the map, in an order that nobody knows. -/
import Derived.Test.YtjhlbkjcchejjaaGreatDoorYaS
import Derived.Test.YtjhlbkjcchejjaaGreatDoorBpFW
import Derived.Maps.RangeWalk
import Derived.Maps.Ext
import Derived.Test.YtjhlbkjcchejjaaGreatDoorDfHW
namespace Go.Proofs.YtjhlbkjcchejjaaGreatDoor
open Go Go.RowKit Go.Maps Go.Sort Cal
attribute [local go_sem] Oper.semAt_some

/-- one more of a calendar is taken -/
theorem insE_filter {E : EV} {p : EV → Bool} : ∀ {C : List EV}, Rises C → E ∈ C → p E = false → insE E (C.filter p) = C.filter (fun F => p F || decide (F.id = E.id))
  | Y :: r, h, hE, hp => by
    obtain ⟨h1, h2⟩ := List.pairwise_cons.1 h
    rcases List.mem_cons.1 hE with rfl | hE'
    · rw [List.filter_cons_of_neg (by simp [hp]), List.filter_cons_of_pos (by simp)]
      have hr : r.filter (fun F => p F || decide (F.id = E.id)) = r.filter p := List.filter_congr (fun F hF => by
        have hne : F.id ≠ E.id := fun q => by
          have := h1 F hF
          unfold kb at this
          rw [q] at this
          exact List.lt_irrefl _ this
        simp [hne])
      rw [hr]
      have hall : ∀ F ∈ r.filter p, kb E < kb F := fun F hF => h1 F (List.mem_filter.1 hF).1
      cases hq : r.filter p with
      | nil => rfl
      | cons Z t =>
        unfold insE
        rw [ltE_eq, if_pos]
        exact decide_eq_true (hall Z (by rw [hq]; exact List.mem_cons_self))
    · have hlt := h1 E hE'
      have hne : Y.id ≠ E.id := fun q => by
        unfold kb at hlt
        rw [q] at hlt
        exact List.lt_irrefl _ hlt
      have ih := insE_filter h2 hE' hp
      cases hy : p Y with
      | true =>
        rw [List.filter_cons_of_pos hy, List.filter_cons_of_pos (by simp [hy])]
        unfold insE
        rw [ltE_eq, if_neg, ih]
        rw [decide_eq_true_iff]
        exact fun q => List.lt_irrefl _ (List.lt_trans q hlt)
      | false =>
        rw [List.filter_cons_of_neg (by simp [hy]), List.filter_cons_of_neg (by simp [hy, hne]), ih]
theorem putC_filter {E : EV} {p : EV → Bool} {C : List EV} (h : Rises C) (hE : E ∈ C) (hp : p E = false) : putC E (C.filter p) = C.filter (fun F => p F || decide (F.id = E.id)) := by
  unfold putC
  rw [woC_same, insE_filter h hE hp]
  intro F hF q
  obtain ⟨h1, h2⟩ := List.mem_filter.1 hF
  rw [h.uniq h1 hE q, hp] at h2
  cases h2

theorem str_key {key : Value} {kl : Lit} (h : keyOf Tryz.prog 9 key = some kl) : ∃ x : ByteArray, key = .string x ∧ kl = Proofs.YtjhlbkjcchejjaaGreatDoor.key x := by
  obtain ⟨x, h1, h2, _⟩ := Maps.keyOf_str Tryz.underlying9 h
  exact ⟨bs x, h1, h2⟩
theorem ranges_far {W W' : World} {b r n : Nat} {D : DataW Value} {left : Lit → Bool} {cnt : Nat} (h : W.ranges Tryz.prog 9 hld b r n D left cnt) (hb : W'.heap[b]? = W.heap[b]?) (hr : W'.heap[r]? = W.heap[r]?) : W'.ranges Tryz.prog 9 hld b r n D left cnt := by
  obtain ⟨es, clock, since, seen, c0, h1, h2, h3, h4, h5, h6⟩ := h
  exact ⟨es, clock, since, seen, c0, hb.trans h1, h2, h3, h4, hr.trans h5, h6⟩

set_option maxHeartbeats 4000000 in
set_option maxRecDepth 100000 in
theorem copy_some (lo bb n mb : Nat) (C : List EV) (w : World) (h : BookAt lo w bb (some mb) n C) (hC : C.length ≤ 60) :
    Calls Tryz.prog 52 #[.pointer (some ⟨bb, 0, none⟩)] w fun r w' => ∃ cmo cn, r = .returned (.pointer (some ⟨w.heap.size, 0, none⟩)) ∧ BookAt w.heap.size w' w.heap.size cmo cn C ∧ cn ≤ 60 ∧ Below w.heap.size w w' := by
  have hbk := h
  obtain ⟨D, h1, h2, h3, h4⟩ := h
  have hlt := hbk.lt
  have hmb : mb < w.heap.size := hlt.2 mb rfl
  have NW : Hid (Calls _ _ _ _ _) := bookAt_new w
  have AL : Hid (∀ W, Below w.heap.size w W → Calls Tryz.prog 97 #[.pointer (some ⟨bb, 0, none⟩)] W fun r w' => r = .returned (.map (some mb)) ∧ w' = W) := fun W hW => all_any bb (some mb) n D W (h1.step hW)
  have HOWN : Hid (∀ W, Below w.heap.size w W → W.ownsMap Tryz.prog 9 hld mb n D) := fun W hW => (h1.step hW).2.2
  have HH : Hid (Holds (NotIn lo bb (some mb)) w D C) := h4
  have HSZ : Hid (Maps.size D = C.length) := h4.size
  clear h1 h4 hbk
  go_enter Tryz.func52, Tryz.ntmps52
  go_upto_region 2 with (go_at_call 45; refine Calls.mono NW.out ?_; rintro r w1 ⟨rfl, hbk1, hb1⟩)
  have AL1 : Hid (Calls _ _ _ _ _) := AL.out w1 hb1
  have B1 : Hid (Below w.heap.size w w1) := hb1
  have s1 : w.heap.size < w1.heap.size := hbk1.lt.1
  go_wp2_with (first
    | (go_at_call 97; refine Calls.mono AL1.out ?_; rintro r w' ⟨rfl, hq⟩; have hq := hq.symm; subst hq)
    | (at_range; refine wpList_range_own _ rfl _ 127 rfl 9 27 law Tryz.underlying127 hld mb n D rfl (HOWN.out _ B1.out) ?_; intro w2 hrg2 hg2 hs2)
    | go_in)
  have BK2 : Hid (BookAt (w1.heap.size + 1) w2 w.heap.size none 0 []) := by
    have hb12 : Below w1.heap.size w1 w2 := ⟨hg2.os, hg2.tape, hg2.output, by omega, fun k hk => hg2.block k hk (by simp)⟩
    exact (BookAt.step hbk1 hb12).lift (by omega)
  have B2 : Hid (Below w.heap.size w w2) := ⟨hg2.os.trans B1.out.os, hg2.tape.trans B1.out.tape, hg2.output.trans B1.out.output, by have := B1.out.size; omega, fun k hk => (hg2.block k (by omega) (by simp)).trans (B1.out.block k hk)⟩
  have HRG2 : Hid (_) := hrg2
  clear hrg2 hg2 AL AL1 hbk1 hb1 NW HOWN
  go_frame
  go_loopw [5] (fun _ wr => Hid (∃ (left : Lit → Bool) (cnt : Nat) (cmo : Option Nat) (cn : Nat), wr.ranges Tryz.prog 9 hld mb w1.heap.size n D left cnt ∧ BookAt (w1.heap.size + 1) wr w.heap.size cmo cn (C.filter fun F => !left (key F.id)) ∧ cn + cnt ≤ C.length ∧ Below w.heap.size w wr)) (fun _ wr => wr.rangeLeft mb w1.heap.size)
  case atStart =>
    have hfil : (C.filter fun F => !Maps.has D (key F.id)) = [] := by
      rw [List.filter_eq_nil_iff]
      intro F hF
      rw [(HH.out.hasE F.id).2 ⟨F, hF, rfl⟩]
      decide
    exact ⟨_, _, none, 0, HRG2.out, by rw [hfil]; exact BK2.out, by rw [HSZ.out]; omega, B2.out⟩
  case round =>
    obtain ⟨left, cnt, cmo, cn, hrg, hbk, hcn, hB⟩ := Hid.out hrel
    have HRG : Hid (wr.ranges Tryz.prog 9 hld mb w1.heap.size n D left cnt) := hrg
    have HBK : Hid (BookAt (w1.heap.size + 1) wr w.heap.size cmo cn (C.filter fun F => !left (key F.id))) := hbk
    have HB : Hid (Below w.heap.size w wr) := hB
    have hmeas : wr.rangeLeft mb w1.heap.size = cnt := hrg.left_eq
    have HME : Hid (_) := hmeas
    clear hrg hbk hB hrel hmeas
    go_wp2_with (first
      | (at_next; refine wpList_next_ranges (α := ByteArray) (β := Value) _ rfl _ rfl 9 law hld Value.string id (fun kv kl hk => by obtain ⟨x, h, _⟩ := str_key hk; exact ⟨x, h⟩) (fun v y hv => ⟨v, rfl⟩) mb w1.heap.size n D left cnt rfl HRG.out ?_ ?_)
      | go_in)
    · intro hc0 hl0
      have hfil : (C.filter fun F => !left (key F.id)) = C := by
        rw [List.filter_eq_self]
        intro F _
        rw [hl0]; rfl
      have HBKe : Hid (BookAt (w1.heap.size + 1) wr w.heap.size cmo cn C) := by have := HBK.out; rw [hfil] at this; exact this
      clear hfil HBK HRG
      go_wp2
      go_ret
      exact ⟨cmo, cn, rfl, BookAt.low HBKe.out (by omega), by omega, HB.out⟩
    · intro x c kl yd yp w3 cnt3 hkey hlk hR hat hrg3 hlt3 hg3 hs3 hen
      obtain ⟨x', hx1, hx2⟩ := str_key hkey
      have hx3 : x' = x := by injection hx1 with q; exact q.symm
      subst hx3
      subst hx2
      have hy := hld_inv hR
      have hhas : Maps.has D (key x') = true := has_true_of_atKey (y := yd) hat
      obtain ⟨E, hE, he⟩ := (HH.out.hasE x').1 hhas
      subst he
      obtain ⟨⟨hw, h20⟩, sl, skv, mvv, q1, q2⟩ := HH.out.at_ E hE
      have hc : c = ev E sl skv mvv := by
        have h1 := hat (.held zV)
        rw [q1] at h1
        have h2 : (DataW.held (ev E sl skv mvv) : DataW Value) = .held c := h1.trans hy
        injection h2 with h2
        exact h2.symm
      subst hc
      have z1 := HBK.out.lt
      have hrz : w1.heap.size < wr.heap.size := HRG.out.lt
      have B3 : Hid (Below w.heap.size w w3) := ⟨hg3.os.trans HB.out.os, hg3.tape.trans HB.out.tape, hg3.output.trans HB.out.output, by have := HB.out.size; omega, fun k hk => (hg3.block k (by have := HB.out.size; omega) (fun q => by have := Option.some.inj q; omega)).trans (HB.out.block k hk)⟩
      have HBK3 : Hid (BookAt (w1.heap.size + 1) w3 w.heap.size cmo cn (C.filter fun F => !left (key F.id))) := BookAt.grown HBK.out hg3 (Nat.lt_succ_self _) (by omega)
      have hz3 : w1.heap.size < w3.heap.size := by omega
      clear hs3 hrz
      have q3 := q2.step B3.out
      have hL3 := q3.ls h20
      have hfl : putC E (C.filter fun F => !left (key F.id)) = C.filter (fun F => !(left (key F.id) && !(key F.id).sameKey (key E.id))) := by
        rw [putC_filter HH.out.up hE (by rw [hlk]; rfl)]
        refine List.filter_congr (fun F _ => ?_)
        by_cases hq : F.id = E.id
        · rw [hq]
          have : (key E.id).sameKey (key E.id) = true := WideAt.sameKey_self (key_lit _)
          simp [this]
        · have : (key F.id).sameKey (key E.id) = false := by
            cases hs : (key F.id).sameKey (key E.id) with
            | false => rfl
            | true => exact absurd (WideAt.sameKey_eq hs) (key_ne hq)
          simp [this, hq]
      have HFL : Hid (_) := hfl
      have HRG3 : Hid (w3.ranges Tryz.prog 9 hld mb w1.heap.size n D (fun z => left z && !z.sameKey (key E.id)) cnt3) := hrg3
      have HWE : Hid (EW E) := hw
      obtain ⟨a1, c1, rfl, _⟩ := q2.d
      obtain ⟨a2, c2, rfl, _⟩ := q2.s
      obtain ⟨a3, c3, rfl, _⟩ := q2.m
      have KC : Hid (∀ W, Below w3.heap.size w3 W → Calls Tryz.prog 85 #[.pointer (some ⟨w.heap.size, 0, none⟩), ev E (.slice a1 E.ds.length c1) (.slice a2 E.sk.length c2) (.slice a3 E.mv.length c3)] W fun r w' => (∃ v, r = .returned v) ∧ PutTo (w1.heap.size + 1) W w' w.heap.size cmo cn (putC E (C.filter fun F => !left (key F.id)))) := fun W hW => keep_C _ _ cn cmo _ E _ _ _ W (BookAt.step HBK3.out hW) (by omega) HWE.out (hL3.step hW)
      have HLT3 : Hid (cnt3 < cnt) := hlt3
      have hen' : (Instr.entry (.pointer (some ⟨w1.heap.size, 0, none⟩))).run Tryz.prog w3 = .ok (.tuple #[.string E.id, ev E (.slice a1 E.ds.length c1) (.slice a2 E.sk.length c2) (.slice a3 E.mv.length c3)]) w3 := hen
      unfold ev at KC hen'
      unfold ev
      clear hrg3 hat hR hy hhas q1 q2 q3 hL3 hfl hen hkey hx1 hlt3 HBK hw hg3
      go_upto_region 5 with fail
      have hb4 : Below w3.heap.size w3 (w3.alloc (.cells #[.string E.id, .string E.ti, .int .i64 E.st, .int .i64 E.lg, .string E.f, .int .i64 E.e, .slice a1 E.ds.length c1, .int .i64 E.c, .int .i64 E.u, .slice a2 E.sk.length c2, .slice a3 E.mv.length c3] 27)) := below_alloc _ _
      have kE := EB.new w3 E (.slice a1 E.ds.length c1) (.slice a2 E.sk.length c2) (.slice a3 E.mv.length c3)
      have KC4 : Hid (Calls _ _ _ _ _) := KC.out _ hb4
      have HRG4 : Hid ((w3.alloc (.cells #[.string E.id, .string E.ti, .int .i64 E.st, .int .i64 E.lg, .string E.f, .int .i64 E.e, .slice a1 E.ds.length c1, .int .i64 E.c, .int .i64 E.u, .slice a2 E.sk.length c2, .slice a3 E.mv.length c3] 27)).ranges Tryz.prog 9 hld mb w1.heap.size n D (fun z => left z && !z.sameKey (key E.id)) cnt3) := HRG3.out.alloc _
      have B4 : Hid (_) := below_then B3.out hb4
      have hs4 : w3.heap.size < (w3.alloc (.cells #[.string E.id, .string E.ti, .int .i64 E.st, .int .i64 E.lg, .string E.f, .int .i64 E.e, .slice a1 E.ds.length c1, .int .i64 E.c, .int .i64 E.u, .slice a2 E.sk.length c2, .slice a3 E.mv.length c3] 27)).heap.size := by rw [World.size_alloc]; omega
      generalize w3.alloc (.cells #[.string E.id, .string E.ti, .int .i64 E.st, .int .i64 E.lg, .string E.f, .int .i64 E.e, .slice a1 E.ds.length c1, .int .i64 E.c, .int .i64 E.u, .slice a2 E.sk.length c2, .slice a3 E.mv.length c3] 27) = w4 at hb4 kE KC4 HRG4 B4 hs4 ⊢
      obtain ⟨x0, x1, x2, x3, x4, x5, x6, x7, x8, x9, x10⟩ := blk11 (show w4.heap[w3.heap.size]? = _ from kE)
      clear kE KC HRG3
      go_wp2_with (go_at_call 85; refine Calls.mono KC4.out ?_; rintro r w5 ⟨⟨v5, rfl⟩, cmo', hbk5, hK5, _⟩)
      have z4 : w.heap.size ≤ w4.heap.size := B4.out.size
      have hcm : ∀ mb', cmo = some mb' → w1.heap.size + 1 ≤ mb' := by
        obtain ⟨_, _, _, h3', _⟩ := HBK3.out
        exact h3'
      have hrg5 : w5.ranges Tryz.prog 9 hld mb w1.heap.size n D (fun z => left z && !z.sameKey (key E.id)) cnt3 := ranges_far HRG4.out (hK5.block mb (by omega) (by omega) (fun q => by have := hcm mb q.symm; omega)) (hK5.block w1.heap.size (by omega) (by omega) (fun q => by have := hcm _ q.symm; omega))
      go_roundw
      case rel =>
        refine ⟨_, cnt3, cmo', cn + 1, hrg5, ?_, by have := HLT3.out; omega, hK5.below B4.out (Nat.le_refl _) (fun m e => by have := hcm m e; omega)⟩
        rw [← HFL.out]
        exact hbk5
      case measure =>
        rw [hrg5.left_eq, HME.out]
        exact HLT3.out

set_option maxHeartbeats 1000000 in
theorem copy_none (p : Value) (w : World) (hall : ∀ W, Below w.heap.size w W → Calls Tryz.prog 97 #[p] W fun r w' => r = .returned (.map none) ∧ w' = W) :
    Calls Tryz.prog 52 #[p] w fun r w' => r = .returned (.pointer (some ⟨w.heap.size, 0, none⟩)) ∧ BookAt w.heap.size w' w.heap.size none 0 [] ∧ Below w.heap.size w w' := by
  have NW : Hid (Calls _ _ _ _ _) := bookAt_new w
  have AL : Hid (∀ W, Below w.heap.size w W → Calls Tryz.prog 97 #[p] W fun r w' => r = .returned (.map none) ∧ w' = W) := hall
  clear hall
  go_enter Tryz.func52, Tryz.ntmps52
  go_upto_region 2 with (go_at_call 45; refine Calls.mono NW.out ?_; rintro r w1 ⟨rfl, hbk1, hb1⟩)
  have AL1 : Hid (Calls _ _ _ _ _) := AL.out w1 hb1
  have hrg := run_range_nilMap (P := Tryz.prog) w1 127 9 27 Tryz.underlying127
  have hnx : ∀ ty, (Instr.next (.pointer (some ⟨w1.heap.size, 0, none⟩)) false ty).run Tryz.prog (w1.alloc (.mapIter none 0 #[] 0)) = _ := fun ty => run_next_nilMap _ ty 0 0 #[]
  have HBK : Hid (BookAt w.heap.size (w1.alloc (.mapIter none 0 #[] 0)) w.heap.size none 0 []) := BookAt.step hbk1 (below_alloc _ _)
  have HB : Hid (Below w.heap.size w (w1.alloc (.mapIter none 0 #[] 0))) := below_then hb1 (below_alloc _ _)
  clear AL NW hbk1 hb1
  go_wp2_with (go_at_call 97; refine Calls.mono AL1.out ?_; rintro r w' ⟨rfl, hq⟩; have hq := hq.symm; subst hq)
  refine wp_loop_rounds 1 ?_
  rw [rounds_succ]
  go_wp2
  go_ret
  exact ⟨rfl, HBK.out, HB.out⟩
/-- Copy of a calendar -/
theorem copy_C (lo bb n : Nat) (mo : Option Nat) (C : List EV) (w : World) (h : BookAt lo w bb mo n C) (hC : C.length ≤ 60) :
    Calls Tryz.prog 52 #[.pointer (some ⟨bb, 0, none⟩)] w fun r w' => ∃ cmo cn, r = .returned (.pointer (some ⟨w.heap.size, 0, none⟩)) ∧ BookAt w.heap.size w' w.heap.size cmo cn C ∧ cn ≤ 60 ∧ Below w.heap.size w w' := by
  cases mo with
  | some mb => exact copy_some lo bb n mb C w h hC
  | none =>
    have hn := h.nil
    subst hn
    refine Calls.mono (copy_none (.pointer (some ⟨bb, 0, none⟩)) w (fun W hW => ?_)) ?_
    · obtain ⟨D, h1, _⟩ := h
      exact all_any bb none n D W (h1.step hW)
    · rintro r w' ⟨rfl, h1, h2⟩
      exact ⟨none, 0, rfl, h1, by omega, h2⟩
end Go.Proofs.YtjhlbkjcchejjaaGreatDoor

/- Changes one behind the other, in plain words; rows of them; package diff's Apply. -/
namespace Go.Proofs.YtjhlbkjcchejjaaGreatDoor
open Go Go.RowKit Go.Maps Cal
attribute [local go_sem] Oper.semAt_some

def Runs : List EV → List DC → List EV → Prop
  | C, [], C' => C' = C
  | C, c :: r, C' => ∃ D, StepTo C c D ∧ Runs D r C'
theorem step_det {C : List EV} {c : DC} {A B : List EV} (h : Rises C) (ha : StepTo C c A) (hb : StepTo C c B) : A = B := by
  obtain ⟨id, k, a, b⟩ := c
  match a, b, ha, hb with
  | some F, some G, ha, hb =>
    obtain ⟨H, hH, e1, e2, e3, rfl⟩ := ha
    obtain ⟨K, hK, f1, f2, f3, rfl⟩ := hb
    rw [h.uniq hH hK (e1.trans f1.symm)]
  | some F, none, ha, hb => exact ha.2.trans hb.2.symm
  | none, some G, ha, hb => exact ha.2.trans hb.2.symm
  | none, none, ha, hb => exact absurd ha (by unfold StepTo; exact not_false)
theorem step_rises {C : List EV} {c : DC} {A : List EV} (h : Rises C) (ha : StepTo C c A) : Rises A := by
  obtain ⟨id, k, a, b⟩ := c
  match a, b, ha with
  | some F, some G, ha =>
    obtain ⟨H, hH, e1, e2, e3, rfl⟩ := ha
    exact putC_rises h
  | some F, none, ha =>
    rw [ha.2]
    exact woC_rises h
  | none, some G, ha =>
    rw [ha.2]
    exact putC_rises h
  | none, none, ha => exact absurd ha (by unfold StepTo; exact not_false)
theorem putC_len_in {E : EV} {C : List EV} (h : Rises C) {H : EV} (hH : H ∈ C) (e : H.id = E.id) : (putC E C).length = C.length := by
  unfold putC
  rw [insE_len]
  have := woC_len h hH
  rw [e] at this
  exact this
theorem step_len {C : List EV} {c : DC} {A : List EV} (h : Rises C) (hl : C.length ≤ 60) (ha : StepTo C c A) : A.length ≤ 60 := by
  obtain ⟨id, k, a, b⟩ := c
  match a, b, ha with
  | some F, some G, ha =>
    obtain ⟨H, hH, e1, e2, e3, rfl⟩ := ha
    rw [putC_len_in h hH (upd_id H G k).symm]
    exact hl
  | some F, none, ha =>
    rw [ha.2]
    exact Nat.le_trans (List.length_filter_le _ _) hl
  | none, some G, ha =>
    obtain ⟨⟨_, q⟩, e⟩ : ((¬ ∃ H ∈ C, H.id = id) ∧ C.length < 60) ∧ A = putC G C := ha
    rw [e]
    unfold putC
    rw [insE_len]
    have : (woC G.id C).length ≤ C.length := List.length_filter_le _ _
    omega
  | none, none, ha => exact absurd ha (by unfold StepTo; exact not_false)
theorem runs_split : ∀ {C : List EV} {l r : List DC} {C' : List EV}, Runs C (l ++ r) C' ↔ ∃ D, Runs C l D ∧ Runs D r C'
  | C, [], r, C' => ⟨fun h => ⟨C, rfl, h⟩, fun ⟨D, e, h⟩ => by
      have e' : D = C := e
      subst e'
      exact h⟩
  | C, c :: l, r, C' => by
    constructor
    · rintro ⟨D, h1, h2⟩
      obtain ⟨K, h3, h4⟩ := runs_split.1 h2
      exact ⟨K, ⟨D, h1, h3⟩, h4⟩
    · rintro ⟨K, ⟨D, h1, h3⟩, h4⟩
      exact ⟨D, h1, runs_split.2 ⟨K, h3, h4⟩⟩
theorem runs_one {C : List EV} {c : DC} {C' : List EV} : Runs C [c] C' ↔ StepTo C c C' := by
  constructor
  · rintro ⟨D, h1, h2⟩
    have e : C' = D := h2
    rw [e]; exact h1
  · exact fun h => ⟨C', h, rfl⟩
theorem runs_rises : ∀ {C : List EV} {l : List DC} {A : List EV}, Rises C → Runs C l A → Rises A
  | C, [], A, h, ha => by
    have e : A = C := ha
    rw [e]; exact h
  | C, c :: l, A, h, ha => by
    obtain ⟨D, h1, h2⟩ := ha
    exact runs_rises (step_rises h h1) h2
theorem runs_det : ∀ {C : List EV} {l : List DC} {A B : List EV}, Rises C → Runs C l A → Runs C l B → A = B
  | C, [], A, B, h, ha, hb => by
    have e : A = C := ha
    have f : B = C := hb
    rw [e, f]
  | C, c :: l, A, B, h, ha, hb => by
    obtain ⟨D, h1, h2⟩ := ha
    obtain ⟨K, h3, h4⟩ := hb
    rw [step_det h h1 h3] at h2
    exact runs_det (step_rises h h3) h2 h4

/-! ### rows of changes -/
noncomputable def DC.cells (c : DC) : List Value := [.string c.id, .string (fieldB c.k), .string (bs (oT c.k c.a)), .string (bs (oT c.k c.b))]
theorem dcells_at : ∀ (cs : List DC) (j i : Nat) (hj : j < cs.length), i < 4 → (cs.flatMap DC.cells)[j * 4 + i]? = cs[j].cells[i]?
  | c :: r, 0, i, _, hi => by
    rw [List.flatMap_cons, List.getElem?_append_left (by show _ < 4; omega)]
    rw [Nat.zero_mul, Nat.zero_add]
    rfl
  | c :: r, j + 1, i, hj, hi => by
    rw [List.flatMap_cons, List.getElem?_append_right (by show 4 ≤ _; omega)]
    have e : (j + 1) * 4 + i - c.cells.length = j * 4 + i := by
      show (j + 1) * 4 + i - 4 = _
      omega
    rw [e]
    exact dcells_at r j i (by simpa using hj) hi
/-- a row of changes that a call owns -/
def ChR (base : Nat) (W : World) (v : Value) (cs : List DC) : Prop := W.ownsRow base 82 4 v cs.length (cs.flatMap DC.cells)
theorem ChR.nil (base : Nat) (W : World) : ChR base W (.slice none 0 0) [] := World.ownsRow_nil _ _ _ _
theorem ChR.form {base : Nat} {W : World} {v : Value} {cs : List DC} (h : ChR base W v cs) : ∃ (a : Option Addr) (cap : Nat), v = .slice a cs.length cap ∧ cs.length ≤ cap ∧ ∀ (j : Nat) (hj : j < cs.length), ∃ b : Nat, a = some ⟨b, 0, none⟩ ∧ b < W.heap.size ∧ W.cell? ⟨b, j * 4, none⟩ = some (.string cs[j].id) ∧ W.cell? ⟨b, j * 4 + 1, none⟩ = some (.string (fieldB cs[j].k)) ∧ W.cell? ⟨b, j * 4 + 2, none⟩ = some (.string (bs (oT cs[j].k cs[j].a))) ∧ W.cell? ⟨b, j * 4 + 3, none⟩ = some (.string (bs (oT cs[j].k cs[j].b))) := by
  rcases h.2 with ⟨rfl, h0⟩ | ⟨g, cap, cur, rfl, hb, hg, hcap, hmax, hsz, htake⟩
  · refine ⟨none, 0, by rw [h0], by omega, fun j hj => absurd hj (by omega)⟩
  · refine ⟨_, cap, rfl, hcap, fun j hj => ⟨g, rfl, (Array.getElem?_eq_some_iff.1 hg).1, ?_⟩⟩
    have A : ∀ i, i < 4 → W.cell? ⟨g, j * 4 + i, none⟩ = cs[j].cells[i]? := fun i hi => by
      rw [← dcells_at cs j i hj hi]
      exact World.ownsRow.cellAt h (j * 4 + i) (by omega)
    exact ⟨A 0 (by omega), A 1 (by omega), A 2 (by omega), A 3 (by omega)⟩
theorem ChR.far {base : Nat} {W W' : World} {v : Value} {cs : List DC} (h : ChR base W v cs) (hk : ∀ k, base ≤ k → k < W.heap.size → W'.heap[k]? = W.heap[k]?) : ChR base W' v cs := by
  refine ⟨h.1, ?_⟩
  rcases h.2 with h2 | ⟨g, cap, cur, hv, hb, hg, r⟩
  · exact .inl h2
  · exact .inr ⟨g, cap, cur, hv, hb, (hk g hb (Array.getElem?_eq_some_iff.1 hg).1).trans hg, r⟩
theorem ChR.step {base : Nat} {W W' : World} {v : Value} {cs : List DC} (h : ChR base W v cs) (hb : Below W.heap.size W W') : ChR base W' v cs := h.far (fun k _ hk => hb.block k hk)

set_option maxHeartbeats 2000000 in
set_option maxRecDepth 100000 in
theorem applyAll_C (lo bb n : Nat) (mo : Option Nat) (C : List EV) (base : Nat) (v : Value) (cs : List DC) (hok : ∀ c ∈ cs, c.ok) (hl : cs.length ≤ 5000) (s : Nat → Addr) (w : World) (g : GlobD s w) (h : BookAt lo w bb mo n C) (hC : C.length ≤ 60) (hR : ChR base w v cs) :
    Calls Tryz.prog 22 #[.pointer (some ⟨bb, 0, none⟩), v] w fun r w' => (∃ C' mo' n', Runs C cs C' ∧ r = .returned (.tuple #[.pointer (some ⟨w.heap.size, 0, none⟩), .nilIface]) ∧ BookAt w.heap.size w' w.heap.size mo' n' C' ∧ n' ≤ 10000 ∧ C'.length ≤ 60 ∧ Below w.heap.size w w') ∨ ((¬ ∃ C', Runs C cs C') ∧ (∃ T x, r = .returned (.tuple #[.pointer none, .iface T x])) ∧ Below w.heap.size w w') := by
  have CP : Hid (Calls _ _ _ _ _) := copy_C lo bb n mo C w h hC
  have HR0 : Hid (Rises C) := h.rises.1
  obtain ⟨a, cap, rfl, hcap, hc⟩ := hR.form
  have HC : Hid (_) := hc
  have HG : Hid (GlobD s w) := g
  have HOK : Hid (∀ c ∈ cs, c.ok) := hok
  clear hc hR h g hok
  go_enter Tryz.func22, Tryz.ntmps22
  go_upto_region 2 with (go_at_call 52; refine Calls.mono CP.out ?_; rintro r w1 ⟨cmo, cn, rfl, hbc, hcn, k1⟩)
  have HB0 : Hid (∃ mo n D, Runs C (cs.take 0) D ∧ BookAt w.heap.size w1 w.heap.size mo n D ∧ n ≤ 60 + 0 ∧ D.length ≤ 60 ∧ Below w.heap.size w w1) := ⟨cmo, cn, C, rfl, hbc, hcn, hC, k1⟩
  clear hbc k1 CP
  go_wp2
  go_loopw [7, 8, 9, 14] (fun _ _ _ i wr => ∃ m : Nat, m ≤ cs.length ∧ i = .int .i64 m ∧ Hid (∃ mo n D, Runs C (cs.take m) D ∧ BookAt w.heap.size wr w.heap.size mo n D ∧ n ≤ 60 + m ∧ D.length ≤ 60 ∧ Below w.heap.size w wr)) (fun _ _ _ i _ => cs.length - (intOf i).toNat)
  case atStart => exact ⟨0, Nat.zero_le _, rfl, HB0.out⟩
  case round =>
    obtain ⟨m, hm, rfl, HV⟩ := hrel
    obtain ⟨mo1, n1, D, hrun, hbk, hn1, hD, hB⟩ := HV.out
    clear HV
    by_cases hlt : m < cs.length
    · obtain ⟨b, rfl, hbl, q0, q1, q2, q3⟩ := HC.out m hlt
      have hcok := HOK.out _ (List.getElem_mem hlt)
      have HTK : Hid (cs.take (m + 1) = cs.take m ++ [cs[m]]) := List.take_succ_eq_append_getElem hlt
      have HFL : Hid ((¬ ∃ D', StepTo D cs[m] D') → ¬ ∃ C', Runs C cs C') := fun hno ⟨C', hrc⟩ => by
        have e : cs = cs.take (m + 1) ++ cs.drop (m + 1) := (List.take_append_drop _ _).symm
        rw [e, HTK.out] at hrc
        obtain ⟨K, h1, _⟩ := runs_split.1 hrc
        obtain ⟨K', h2, h3⟩ := runs_split.1 h1
        rw [runs_det HR0.out h2 hrun] at h3
        exact hno ⟨K, runs_one.1 h3⟩
      have HNX : Hid (∀ D', StepTo D cs[m] D' → Runs C (cs.take (m + 1)) D' ∧ D'.length ≤ 60) := fun D' hs => by
        rw [HTK.out]
        exact ⟨runs_split.2 ⟨D, hrun, runs_one.2 hs⟩, step_len (runs_rises HR0.out hrun) hD hs⟩
      have x0 := cell_step q0 hB
      have x1 := cell_step q1 hB
      have x2 := cell_step q2 hB
      have x3 := cell_step q3 hB
      have hb2 : Below wr.heap.size wr (wr.alloc (.cells #[.string cs[m].id, .string (fieldB cs[m].k), .string (bs (oT cs[m].k cs[m].a)), .string (bs (oT cs[m].k cs[m].b))] 82)) := below_alloc _ _
      have AP : Hid (Calls _ _ _ _ _) := apply_C w.heap.size w.heap.size n1 mo1 D cs[m] hcok s _ (HG.out.step (below_then hB hb2)) (hbk.step hb2) (by omega)
      have HKB : Hid (∀ (w3 : World) (C' : List EV), PutTo w.heap.size (wr.alloc (.cells #[.string cs[m].id, .string (fieldB cs[m].k), .string (bs (oT cs[m].k cs[m].a)), .string (bs (oT cs[m].k cs[m].b))] 82)) w3 w.heap.size mo1 n1 C' → Below w.heap.size w w3) := fun w3 C' hp => by
        obtain ⟨mo', _, hK, _⟩ := hp
        obtain ⟨_, _, _, hhi, _⟩ := hbk
        exact hK.below (below_then hB hb2) (Nat.le_refl _) hhi
      have HB2 : Hid (Below w.heap.size w (wr.alloc (.cells #[.string cs[m].id, .string (fieldB cs[m].k), .string (bs (oT cs[m].k cs[m].a)), .string (bs (oT cs[m].k cs[m].b))] 82))) := below_then hB hb2
      have kC : (wr.alloc (.cells #[.string cs[m].id, .string (fieldB cs[m].k), .string (bs (oT cs[m].k cs[m].a)), .string (bs (oT cs[m].k cs[m].b))] 82)).heap[wr.heap.size]? = some (.cells #[.string cs[m].id, .string (fieldB cs[m].k), .string (bs (oT cs[m].k cs[m].a)), .string (bs (oT cs[m].k cs[m].b))] 82 (0, 0)) := block_at _ rfl
      unfold DC.v chV at AP
      clear HC q0 q1 q2 q3 hbk hrun hB hb2 HTK
      generalize cs[m] = c at AP HFL HNX x0 x1 x2 x3 hcok HKB HB2 kC
      generalize c.id = ci at AP x0 HKB HB2 kC
      generalize fieldB c.k = cf at AP x1 HKB HB2 kC
      generalize bs (oT c.k c.a) = co at AP x2 HKB HB2 kC
      generalize bs (oT c.k c.b) = cn at AP x3 HKB HB2 kC
      go_upto_region 5 with (fail)
      generalize wr.alloc (.cells #[.string ci, .string cf, .string co, .string cn] 82) = w2 at AP HKB HB2 kC ⊢
      obtain ⟨c0, c1, c2, c3⟩ := blk4 kC
      clear kC x0 x1 x2 x3
      go_wp2_with (go_at_call 53; refine Calls.mono AP.out ?_; rintro r w3 (⟨D', hs, rfl, hp⟩ | ⟨hno, ⟨p, rfl⟩, hb3⟩))
      · obtain ⟨h1, h2⟩ := HNX.out D' hs
        have HR3 : Hid (∃ mo n D, Runs C (cs.take (m + 1)) D ∧ BookAt w.heap.size w3 w.heap.size mo n D ∧ n ≤ 60 + (m + 1) ∧ D.length ≤ 60 ∧ Below w.heap.size w w3) := by
          have hBB := HKB.out w3 D' hp
          obtain ⟨mo', hbk', _, _⟩ := hp
          exact ⟨mo', n1 + 1, D', h1, hbk', by omega, h2, hBB⟩
        go_roundw
        case rel => exact ⟨m + 1, by omega, by go_num, HR3.out⟩
        case measure => simp [intOf]; omega
      · have HF : Hid (¬ ∃ C', Runs C cs C') := HFL.out hno
        go_ret2
        exact .inr ⟨HF.out, ⟨_, _, rfl⟩, below_then HB2.out (below_then hb3 (below_alloc _ _))⟩
    · have HE : Hid (∃ mo n D, Runs C cs D ∧ BookAt w.heap.size wr w.heap.size mo n D ∧ n ≤ 10000 ∧ D.length ≤ 60 ∧ Below w.heap.size w wr) := by
        rw [List.take_of_length_le (by omega)] at hrun
        exact ⟨mo1, n1, D, hrun, hbk, by omega, hD, hB⟩
      clear hrun hbk hB HC
      obtain ⟨mo2, n2, D2, z1, z2, z3, z4, z5⟩ := HE.out
      have Z1 : Hid (Runs C cs D2) := z1
      have Z2 : Hid (BookAt w.heap.size wr w.heap.size mo2 n2 D2) := z2
      have Z5 : Hid (Below w.heap.size w wr) := z5
      clear z1 z2 z5 HE
      go_wp2
      go_ret2
      exact .inl ⟨D2, mo2, n2, Z1.out, rfl, Z2.out, z3, z4, Z5.out⟩
end Go.Proofs.YtjhlbkjcchejjaaGreatDoor
