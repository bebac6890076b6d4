/- Package book's Copy: a range over the map, in an order that nobody knows. -/
import Derived.Test.YtnpecjccajebiaaGreatDoorYaAT
import Derived.Test.YtnpecjccajebiaaGreatDoorBpFW
import Derived.Maps.RangeWalk
import Derived.Maps.Ext
namespace Go.Proofs.YtnpecjccajebiaaGreatDoor
open Go Go.RowKit Go.Maps Go.Sort Cal
attribute [local go_sem] Oper.semAt_some

/-- one more of a calendar is taken -/
theorem insE_filter {E : EV} {p : EV → Bool} : ∀ {C : List EV}, Rises C → E ∈ C → p E = false → insE E (C.filter p) = C.filter (fun F => p F || decide (F.id = E.id))
  | Y :: r, h, hE, hp => by
    obtain ⟨h1, h2⟩ := List.pairwise_cons.1 h
    rcases List.mem_cons.1 hE with rfl | hE'
    · rw [List.filter_cons_of_neg (by simp [hp]), List.filter_cons_of_pos (by simp)]
      have hr : r.filter (fun F => p F || decide (F.id = E.id)) = r.filter p := List.filter_congr (fun F hF => by
        have hne : F.id ≠ E.id := fun q => by
          have := h1 F hF
          unfold kb at this
          rw [q] at this
          exact List.lt_irrefl _ this
        simp [hne])
      rw [hr]
      have hall : ∀ F ∈ r.filter p, kb E < kb F := fun F hF => h1 F (List.mem_filter.1 hF).1
      cases hq : r.filter p with
      | nil => rfl
      | cons Z t =>
        unfold insE
        rw [ltE_eq, if_pos]
        exact decide_eq_true (hall Z (by rw [hq]; exact List.mem_cons_self))
    · have hlt := h1 E hE'
      have hne : Y.id ≠ E.id := fun q => by
        unfold kb at hlt
        rw [q] at hlt
        exact List.lt_irrefl _ hlt
      have ih := insE_filter h2 hE' hp
      cases hy : p Y with
      | true =>
        rw [List.filter_cons_of_pos hy, List.filter_cons_of_pos (by simp [hy])]
        unfold insE
        rw [ltE_eq, if_neg, ih]
        rw [decide_eq_true_iff]
        exact fun q => List.lt_irrefl _ (List.lt_trans q hlt)
      | false =>
        rw [List.filter_cons_of_neg (by simp [hy]), List.filter_cons_of_neg (by simp [hy, hne]), ih]
theorem putC_filter {E : EV} {p : EV → Bool} {C : List EV} (h : Rises C) (hE : E ∈ C) (hp : p E = false) : putC E (C.filter p) = C.filter (fun F => p F || decide (F.id = E.id)) := by
  unfold putC
  rw [woC_same, insE_filter h hE hp]
  intro F hF q
  obtain ⟨h1, h2⟩ := List.mem_filter.1 hF
  rw [h.uniq h1 hE q, hp] at h2
  cases h2

theorem str_key {key : Value} {kl : Lit} (h : keyOf Tryz.prog 9 key = some kl) : ∃ x : ByteArray, key = .string x ∧ kl = Proofs.YtnpecjccajebiaaGreatDoor.key x := by
  obtain ⟨x, h1, h2, _⟩ := Maps.keyOf_str Tryz.underlying9 h
  exact ⟨bs x, h1, h2⟩
theorem ranges_far {W W' : World} {b r n : Nat} {D : DataW Value} {left : Lit → Bool} {cnt : Nat} (h : W.ranges Tryz.prog 9 hld b r n D left cnt) (hb : W'.heap[b]? = W.heap[b]?) (hr : W'.heap[r]? = W.heap[r]?) : W'.ranges Tryz.prog 9 hld b r n D left cnt := by
  obtain ⟨es, clock, since, seen, c0, h1, h2, h3, h4, h5, h6⟩ := h
  exact ⟨es, clock, since, seen, c0, hb.trans h1, h2, h3, h4, hr.trans h5, h6⟩

set_option maxHeartbeats 4000000 in
set_option maxRecDepth 100000 in
theorem copy_some (lo bb n mb : Nat) (C : List EV) (w : World) (h : BookAt lo w bb (some mb) n C) (hC : C.length ≤ 60) :
    Calls Tryz.prog 26 #[.pointer (some ⟨bb, 0, none⟩)] w fun r w' => ∃ cmo cn, r = .returned (.pointer (some ⟨w.heap.size, 0, none⟩)) ∧ BookAt w.heap.size w' w.heap.size cmo cn C ∧ cn ≤ 60 ∧ Below w.heap.size w w' := by
  have hbk := h
  obtain ⟨D, h1, h2, h3, h4⟩ := h
  have hlt := hbk.lt
  have hmb : mb < w.heap.size := hlt.2 mb rfl
  have NW : Hid (Calls _ _ _ _ _) := bookAt_new w
  have AL : Hid (∀ W, Below w.heap.size w W → Calls Tryz.prog 33 #[.pointer (some ⟨bb, 0, none⟩)] W fun r w' => r = .returned (.map (some mb)) ∧ w' = W) := fun W hW => all_any bb (some mb) n D W (h1.step hW)
  have HOWN : Hid (∀ W, Below w.heap.size w W → W.ownsMap Tryz.prog 9 hld mb n D) := fun W hW => (h1.step hW).2.2
  have HH : Hid (Holds (NotIn lo bb (some mb)) w D C) := h4
  have HSZ : Hid (Maps.size D = C.length) := h4.size
  clear h1 h4 hbk
  go_enter Tryz.func26, Tryz.ntmps26
  go_upto_region 2 with (go_at_call 13; refine Calls.mono NW.out ?_; rintro r w1 ⟨rfl, hbk1, hb1⟩)
  have AL1 : Hid (Calls _ _ _ _ _) := AL.out w1 hb1
  have B1 : Hid (Below w.heap.size w w1) := hb1
  have s1 : w.heap.size < w1.heap.size := hbk1.lt.1
  go_wp2_with (first
    | (go_at_call 33; refine Calls.mono AL1.out ?_; rintro r w' ⟨rfl, hq⟩; have hq := hq.symm; subst hq)
    | (at_range; refine wpList_range_own _ rfl _ 70 rfl 9 44 law Tryz.underlying70 hld mb n D rfl (HOWN.out _ B1.out) ?_; intro w2 hrg2 hg2 hs2)
    | go_in)
  have BK2 : Hid (BookAt (w1.heap.size + 1) w2 w.heap.size none 0 []) := by
    have hb12 : Below w1.heap.size w1 w2 := ⟨hg2.os, hg2.tape, hg2.output, by omega, fun k hk => hg2.block k hk (by simp)⟩
    exact (BookAt.step hbk1 hb12).lift (by omega)
  have B2 : Hid (Below w.heap.size w w2) := ⟨hg2.os.trans B1.out.os, hg2.tape.trans B1.out.tape, hg2.output.trans B1.out.output, by have := B1.out.size; omega, fun k hk => (hg2.block k (by omega) (by simp)).trans (B1.out.block k hk)⟩
  have HRG2 : Hid (_) := hrg2
  clear hrg2 hg2 AL AL1 hbk1 hb1 NW HOWN
  go_frame
  go_loopw [5] (fun _ wr => Hid (∃ (left : Lit → Bool) (cnt : Nat) (cmo : Option Nat) (cn : Nat), wr.ranges Tryz.prog 9 hld mb w1.heap.size n D left cnt ∧ BookAt (w1.heap.size + 1) wr w.heap.size cmo cn (C.filter fun F => !left (key F.id)) ∧ cn + cnt ≤ C.length ∧ Below w.heap.size w wr)) (fun _ wr => wr.rangeLeft mb w1.heap.size)
  case atStart =>
    have hfil : (C.filter fun F => !Maps.has D (key F.id)) = [] := by
      rw [List.filter_eq_nil_iff]
      intro F hF
      rw [(HH.out.hasE F.id).2 ⟨F, hF, rfl⟩]
      decide
    exact ⟨_, _, none, 0, HRG2.out, by rw [hfil]; exact BK2.out, by rw [HSZ.out]; omega, B2.out⟩
  case round =>
    obtain ⟨left, cnt, cmo, cn, hrg, hbk, hcn, hB⟩ := Hid.out hrel
    have HRG : Hid (wr.ranges Tryz.prog 9 hld mb w1.heap.size n D left cnt) := hrg
    have HBK : Hid (BookAt (w1.heap.size + 1) wr w.heap.size cmo cn (C.filter fun F => !left (key F.id))) := hbk
    have HB : Hid (Below w.heap.size w wr) := hB
    have hmeas : wr.rangeLeft mb w1.heap.size = cnt := hrg.left_eq
    have HME : Hid (_) := hmeas
    clear hrg hbk hB hrel hmeas
    go_wp2_with (first
      | (at_next; refine wpList_next_ranges (α := ByteArray) (β := Value) _ rfl _ rfl 9 law hld Value.string id (fun kv kl hk => by obtain ⟨x, h, _⟩ := str_key hk; exact ⟨x, h⟩) (fun v y hv => ⟨v, rfl⟩) mb w1.heap.size n D left cnt rfl HRG.out ?_ ?_)
      | go_in)
    · intro hc0 hl0
      have hfil : (C.filter fun F => !left (key F.id)) = C := by
        rw [List.filter_eq_self]
        intro F _
        rw [hl0]; rfl
      have HBKe : Hid (BookAt (w1.heap.size + 1) wr w.heap.size cmo cn C) := by have := HBK.out; rw [hfil] at this; exact this
      clear hfil HBK HRG
      go_wp2
      go_ret
      exact ⟨cmo, cn, rfl, BookAt.low HBKe.out (by omega), by omega, HB.out⟩
    · intro x c kl yd yp w3 cnt3 hkey hlk hR hat hrg3 hlt3 hg3 hs3 hen
      obtain ⟨x', hx1, hx2⟩ := str_key hkey
      have hx3 : x' = x := by injection hx1 with q; exact q.symm
      subst hx3
      subst hx2
      have hy := hld_inv hR
      have hhas : Maps.has D (key x') = true := has_true_of_atKey (y := yd) hat
      obtain ⟨E, hE, he⟩ := (HH.out.hasE x').1 hhas
      subst he
      obtain ⟨⟨hw, h20⟩, sl, skv, mvv, q1, q2⟩ := HH.out.at_ E hE
      have hc : c = ev E sl skv mvv := by
        have h1 := hat (.held zV)
        rw [q1] at h1
        have h2 : (DataW.held (ev E sl skv mvv) : DataW Value) = .held c := h1.trans hy
        injection h2 with h2
        exact h2.symm
      subst hc
      have z1 := HBK.out.lt
      have hrz : w1.heap.size < wr.heap.size := HRG.out.lt
      have B3 : Hid (Below w.heap.size w w3) := ⟨hg3.os.trans HB.out.os, hg3.tape.trans HB.out.tape, hg3.output.trans HB.out.output, by have := HB.out.size; omega, fun k hk => (hg3.block k (by have := HB.out.size; omega) (fun q => by have := Option.some.inj q; omega)).trans (HB.out.block k hk)⟩
      have HBK3 : Hid (BookAt (w1.heap.size + 1) w3 w.heap.size cmo cn (C.filter fun F => !left (key F.id))) := BookAt.grown HBK.out hg3 (Nat.lt_succ_self _) (by omega)
      have hz3 : w1.heap.size < w3.heap.size := by omega
      clear hs3 hrz
      have q3 := q2.step B3.out
      have hL3 := q3.ls h20
      have hfl : putC E (C.filter fun F => !left (key F.id)) = C.filter (fun F => !(left (key F.id) && !(key F.id).sameKey (key E.id))) := by
        rw [putC_filter HH.out.up hE (by rw [hlk]; rfl)]
        refine List.filter_congr (fun F _ => ?_)
        by_cases hq : F.id = E.id
        · rw [hq]
          have : (key E.id).sameKey (key E.id) = true := WideAt.sameKey_self (key_lit _)
          simp [this]
        · have : (key F.id).sameKey (key E.id) = false := by
            cases hs : (key F.id).sameKey (key E.id) with
            | false => rfl
            | true => exact absurd (WideAt.sameKey_eq hs) (key_ne hq)
          simp [this, hq]
      have HFL : Hid (_) := hfl
      have HRG3 : Hid (w3.ranges Tryz.prog 9 hld mb w1.heap.size n D (fun z => left z && !z.sameKey (key E.id)) cnt3) := hrg3
      have HWE : Hid (EW E) := hw
      obtain ⟨a1, c1, rfl, _⟩ := q2.d
      obtain ⟨a2, c2, rfl, _⟩ := q2.s
      obtain ⟨a3, c3, rfl, _⟩ := q2.m
      have KC : Hid (∀ W, Below w3.heap.size w3 W → Calls Tryz.prog 43 #[.pointer (some ⟨w.heap.size, 0, none⟩), ev E (.slice a1 E.ds.length c1) (.slice a2 E.sk.length c2) (.slice a3 E.mv.length c3)] W fun r w' => (∃ v, r = .returned v) ∧ PutTo (w1.heap.size + 1) W w' w.heap.size cmo cn (putC E (C.filter fun F => !left (key F.id)))) := fun W hW => keep_C _ _ cn cmo _ E _ _ _ W (BookAt.step HBK3.out hW) (by omega) HWE.out (hL3.step hW)
      have HLT3 : Hid (cnt3 < cnt) := hlt3
      have hen' : (Instr.entry (.pointer (some ⟨w1.heap.size, 0, none⟩))).run Tryz.prog w3 = .ok (.tuple #[.string E.id, ev E (.slice a1 E.ds.length c1) (.slice a2 E.sk.length c2) (.slice a3 E.mv.length c3)]) w3 := hen
      unfold ev at KC hen'
      unfold ev
      clear hrg3 hat hR hy hhas q1 q2 q3 hL3 hfl hen hkey hx1 hlt3 HBK hw hg3
      go_upto_region 5 with fail
      have hb4 : Below w3.heap.size w3 (w3.alloc (.cells #[.string E.id, .string E.ti, .int .i64 E.st, .int .i64 E.lg, .string E.f, .int .i64 E.e, .slice a1 E.ds.length c1, .int .i64 E.c, .int .i64 E.u, .slice a2 E.sk.length c2, .slice a3 E.mv.length c3] 44)) := below_alloc _ _
      have kE := EB.new w3 E (.slice a1 E.ds.length c1) (.slice a2 E.sk.length c2) (.slice a3 E.mv.length c3)
      have KC4 : Hid (Calls _ _ _ _ _) := KC.out _ hb4
      have HRG4 : Hid ((w3.alloc (.cells #[.string E.id, .string E.ti, .int .i64 E.st, .int .i64 E.lg, .string E.f, .int .i64 E.e, .slice a1 E.ds.length c1, .int .i64 E.c, .int .i64 E.u, .slice a2 E.sk.length c2, .slice a3 E.mv.length c3] 44)).ranges Tryz.prog 9 hld mb w1.heap.size n D (fun z => left z && !z.sameKey (key E.id)) cnt3) := HRG3.out.alloc _
      have B4 : Hid (_) := below_then B3.out hb4
      have hs4 : w3.heap.size < (w3.alloc (.cells #[.string E.id, .string E.ti, .int .i64 E.st, .int .i64 E.lg, .string E.f, .int .i64 E.e, .slice a1 E.ds.length c1, .int .i64 E.c, .int .i64 E.u, .slice a2 E.sk.length c2, .slice a3 E.mv.length c3] 44)).heap.size := by rw [World.size_alloc]; omega
      generalize w3.alloc (.cells #[.string E.id, .string E.ti, .int .i64 E.st, .int .i64 E.lg, .string E.f, .int .i64 E.e, .slice a1 E.ds.length c1, .int .i64 E.c, .int .i64 E.u, .slice a2 E.sk.length c2, .slice a3 E.mv.length c3] 44) = w4 at hb4 kE KC4 HRG4 B4 hs4 ⊢
      obtain ⟨x0, x1, x2, x3, x4, x5, x6, x7, x8, x9, x10⟩ := blk11 (show w4.heap[w3.heap.size]? = _ from kE)
      clear kE KC HRG3
      go_wp2_with (go_at_call 43; refine Calls.mono KC4.out ?_; rintro r w5 ⟨⟨v5, rfl⟩, cmo', hbk5, hK5, _⟩)
      have z4 : w.heap.size ≤ w4.heap.size := B4.out.size
      have hcm : ∀ mb', cmo = some mb' → w1.heap.size + 1 ≤ mb' := by
        obtain ⟨_, _, _, h3', _⟩ := HBK3.out
        exact h3'
      have hrg5 : w5.ranges Tryz.prog 9 hld mb w1.heap.size n D (fun z => left z && !z.sameKey (key E.id)) cnt3 := ranges_far HRG4.out (hK5.block mb (by omega) (by omega) (fun q => by have := hcm mb q.symm; omega)) (hK5.block w1.heap.size (by omega) (by omega) (fun q => by have := hcm _ q.symm; omega))
      go_roundw
      case rel =>
        refine ⟨_, cnt3, cmo', cn + 1, hrg5, ?_, by have := HLT3.out; omega, hK5.below B4.out (Nat.le_refl _) (fun m e => by have := hcm m e; omega)⟩
        rw [← HFL.out]
        exact hbk5
      case measure =>
        rw [hrg5.left_eq, HME.out]
        exact HLT3.out

set_option maxHeartbeats 1000000 in
theorem copy_none (p : Value) (w : World) (hall : ∀ W, Below w.heap.size w W → Calls Tryz.prog 33 #[p] W fun r w' => r = .returned (.map none) ∧ w' = W) :
    Calls Tryz.prog 26 #[p] w fun r w' => r = .returned (.pointer (some ⟨w.heap.size, 0, none⟩)) ∧ BookAt w.heap.size w' w.heap.size none 0 [] ∧ Below w.heap.size w w' := by
  have NW : Hid (Calls _ _ _ _ _) := bookAt_new w
  have AL : Hid (∀ W, Below w.heap.size w W → Calls Tryz.prog 33 #[p] W fun r w' => r = .returned (.map none) ∧ w' = W) := hall
  clear hall
  go_enter Tryz.func26, Tryz.ntmps26
  go_upto_region 2 with (go_at_call 13; refine Calls.mono NW.out ?_; rintro r w1 ⟨rfl, hbk1, hb1⟩)
  have AL1 : Hid (Calls _ _ _ _ _) := AL.out w1 hb1
  have hrg := run_range_nilMap (P := Tryz.prog) w1 70 9 44 Tryz.underlying70
  have hnx : ∀ ty, (Instr.next (.pointer (some ⟨w1.heap.size, 0, none⟩)) false ty).run Tryz.prog (w1.alloc (.mapIter none 0 #[] 0)) = _ := fun ty => run_next_nilMap _ ty 0 0 #[]
  have HBK : Hid (BookAt w.heap.size (w1.alloc (.mapIter none 0 #[] 0)) w.heap.size none 0 []) := BookAt.step hbk1 (below_alloc _ _)
  have HB : Hid (Below w.heap.size w (w1.alloc (.mapIter none 0 #[] 0))) := below_then hb1 (below_alloc _ _)
  clear AL NW hbk1 hb1
  go_wp2_with (go_at_call 33; refine Calls.mono AL1.out ?_; rintro r w' ⟨rfl, hq⟩; have hq := hq.symm; subst hq)
  refine wp_loop_rounds 1 ?_
  rw [rounds_succ]
  go_wp2
  go_ret
  exact ⟨rfl, HBK.out, HB.out⟩
/-- Copy of a calendar -/
theorem copy_C (lo bb n : Nat) (mo : Option Nat) (C : List EV) (w : World) (h : BookAt lo w bb mo n C) (hC : C.length ≤ 60) :
    Calls Tryz.prog 26 #[.pointer (some ⟨bb, 0, none⟩)] w fun r w' => ∃ cmo cn, r = .returned (.pointer (some ⟨w.heap.size, 0, none⟩)) ∧ BookAt w.heap.size w' w.heap.size cmo cn C ∧ cn ≤ 60 ∧ Below w.heap.size w w' := by
  cases mo with
  | some mb => exact copy_some lo bb n mb C w h hC
  | none =>
    have hn := h.nil
    subst hn
    refine Calls.mono (copy_none (.pointer (some ⟨bb, 0, none⟩)) w (fun W hW => ?_)) ?_
    · obtain ⟨D, h1, _⟩ := h
      exact all_any bb none n D W (h1.step hW)
    · rintro r w' ⟨rfl, h1, h2⟩
      exact ⟨none, 0, rfl, h1, by omega, h2⟩
end Go.Proofs.YtnpecjccajebiaaGreatDoor

/- Package book's Get, whether a book has a map or none; package diff's find. -/
namespace Go.Proofs.YtnpecjccajebiaaGreatDoor
open Go Go.RowKit Go.Maps Go.Sort Cal
attribute [local go_sem] Oper.semAt_some

set_option maxHeartbeats 4000000 in
set_option maxRecDepth 100000 in
theorem bget_mo (bb n : Nat) (mo : Option Nat) (D : DataW Value) (id : ByteArray) (E : EV) (sl skv mvv : Value) (w : World) (h : Bok w bb mo n D) (hid : id.size ≤ 1000) (hat : D.atKey (key id) (.held zV) = .held (ev E sl skv mvv)) (hL : Ls w E sl skv mvv) (k20 : E.sk.length ≤ 20) (m20 : E.mv.length ≤ 20) :
    Calls Tryz.prog 14 #[.pointer (some ⟨bb, 0, none⟩), .string id] w fun r w' => ∃ sl' skv' mvv', r = .returned (.tuple #[ev E sl' skv' mvv', .bool (Maps.has D (key id))]) ∧ Ls w' E sl' skv' mvv' ∧ Below w.heap.size w w' := by
  have HD20 : Hid (E.ds.length ≤ 20) := by obtain ⟨_, _, _, q, _⟩ := hL.d; exact q
  have HL : Hid (Ls w E sl skv mvv) := hL
  obtain ⟨hd, hs, hm⟩ := hL
  obtain ⟨ra, rc, rfl, _⟩ := hd
  obtain ⟨sa, sc, rfl, _⟩ := hs
  obtain ⟨ma, mc, rfl, _⟩ := hm
  unfold ev at hat
  have hA := below_alloc w (.cells #[.string ⟨#[]⟩, .string ⟨#[]⟩, .int .i64 0, .int .i64 0, .string ⟨#[]⟩, .int .i64 0, .slice none 0 0, .int .i64 0, .int .i64 0, .slice none 0 0, .slice none 0 0] 44)
  have kR : (w.alloc (.cells #[.string ⟨#[]⟩, .string ⟨#[]⟩, .int .i64 0, .int .i64 0, .string ⟨#[]⟩, .int .i64 0, .slice none 0 0, .int .i64 0, .int .i64 0, .slice none 0 0, .slice none 0 0] 44)).heap[w.heap.size]? = some (.cells #[.string ⟨#[]⟩, .string ⟨#[]⟩, .int .i64 0, .int .i64 0, .string ⟨#[]⟩, .int .i64 0, .slice none 0 0, .int .i64 0, .int .i64 0, .slice none 0 0, .slice none 0 0] 44 (0, 0)) := block_at _ rfl
  have hz : (w.alloc (.cells #[.string ⟨#[]⟩, .string ⟨#[]⟩, .int .i64 0, .int .i64 0, .string ⟨#[]⟩, .int .i64 0, .slice none 0 0, .int .i64 0, .int .i64 0, .slice none 0 0, .slice none 0 0] 44)).heap.size = w.heap.size + 1 := World.size_alloc _ _
  have AL : Hid (Calls _ _ _ _ _) := all_any bb mo n D _ (h.step hA)
  have LK := look_eq (h.step hA) hid hat
  have HA : Hid (_) := hA
  have KR : Hid (_) := kR
  have HZ : Hid (_) := hz
  clear hA kR hz hat h
  unfold ev
  go_enter Tryz.func14, Tryz.ntmps14
  generalize hw0 : w.alloc (.cells #[.string ⟨#[]⟩, .string ⟨#[]⟩, .int .i64 0, .int .i64 0, .string ⟨#[]⟩, .int .i64 0, .slice none 0 0, .int .i64 0, .int .i64 0, .slice none 0 0, .slice none 0 0] 44) = w0 at AL LK HA KR HZ
  go_upto_region 2 with (first
    | (go_at_call 33; refine Calls.mono AL.out ?_; rintro r w' ⟨rfl, hq⟩; have hq := hq.symm; subst hq)
    | go_in)
  have KE : Hid (EB (w0.alloc (.cells #[.string E.id, .string E.ti, .int .i64 E.st, .int .i64 E.lg, .string E.f, .int .i64 E.e, .slice ra E.ds.length rc, .int .i64 E.c, .int .i64 E.u, .slice sa E.sk.length sc, .slice ma E.mv.length mc] 44)) w0.heap.size E (.slice ra E.ds.length rc) (.slice sa E.sk.length sc) (.slice ma E.mv.length mc)) := EB.new w0 E _ _ _
  have LE : Hid (Ls (w0.alloc (.cells #[.string E.id, .string E.ti, .int .i64 E.st, .int .i64 E.lg, .string E.f, .int .i64 E.e, .slice ra E.ds.length rc, .int .i64 E.c, .int .i64 E.u, .slice sa E.sk.length sc, .slice ma E.mv.length mc] 44)) E (.slice ra E.ds.length rc) (.slice sa E.sk.length sc) (.slice ma E.mv.length mc)) := HL.out.step (below_then HA.out (below_alloc _ _))
  have KR1 : Hid ((w0.alloc (.cells #[.string E.id, .string E.ti, .int .i64 E.st, .int .i64 E.lg, .string E.f, .int .i64 E.e, .slice ra E.ds.length rc, .int .i64 E.c, .int .i64 E.u, .slice sa E.sk.length sc, .slice ma E.mv.length mc] 44)).heap[w.heap.size]? = some (.cells #[.string ⟨#[]⟩, .string ⟨#[]⟩, .int .i64 0, .int .i64 0, .string ⟨#[]⟩, .int .i64 0, .slice none 0 0, .int .i64 0, .int .i64 0, .slice none 0 0, .slice none 0 0] 44 (0, 0))) := block_alloc _ KR.out
  have B1 : Hid (Below w.heap.size w (w0.alloc (.cells #[.string E.id, .string E.ti, .int .i64 E.st, .int .i64 E.lg, .string E.f, .int .i64 E.e, .slice ra E.ds.length rc, .int .i64 E.c, .int .i64 E.u, .slice sa E.sk.length sc, .slice ma E.mv.length mc] 44))) := below_then HA.out (below_alloc _ _)
  have hs1 : w.heap.size + 1 ≤ (w0.alloc (.cells #[.string E.id, .string E.ti, .int .i64 E.st, .int .i64 E.lg, .string E.f, .int .i64 E.e, .slice ra E.ds.length rc, .int .i64 E.c, .int .i64 E.u, .slice sa E.sk.length sc, .slice ma E.mv.length mc] 44)).heap.size := by rw [World.size_alloc, HZ.out]; omega
  clear AL LK HA KR HZ HL
  generalize w0.alloc (.cells #[.string E.id, .string E.ti, .int .i64 E.st, .int .i64 E.lg, .string E.f, .int .i64 E.e, .slice ra E.ds.length rc, .int .i64 E.c, .int .i64 E.u, .slice sa E.sk.length sc, .slice ma E.mv.length mc] 44) = w1 at KE LE KR1 B1 hs1 ⊢
  generalize w0.heap.size = be at KE ⊢
  have CP := copy_any E _ _ _ w1 LE.out k20 m20
  unfold ev at CP
  have HCP : Hid (Calls _ _ _ _ _) := CP
  clear CP LE
  obtain ⟨x0, x1, x2, x3, x4, x5, x6, x7, x8, x9, x10⟩ := blk11 (show w1.heap[be]? = _ from KE.out)
  have m8 : E.mv.length ≤ 80000 := by omega
  go_wp2_with (go_at_call 41; refine Calls.mono HCP.out ?_; rintro r w5 ⟨sl2, sk2, mv2, rfl, ho1, ho2, ho3, hb5⟩; obtain ⟨r2, rc2, rfl⟩ := ow_form ho1; obtain ⟨s2, sc2, rfl⟩ := ow_form ho2; obtain ⟨m2, mc2, rfl⟩ := gotM_form (owm_movs ho3 m8).2; have KR5 : Hid (w5.heap[w.heap.size]? = some (.cells #[.string ⟨#[]⟩, .string ⟨#[]⟩, .int .i64 0, .int .i64 0, .string ⟨#[]⟩, .int .i64 0, .slice none 0 0, .int .i64 0, .int .i64 0, .slice none 0 0, .slice none 0 0] 44 (0, 0))) := (hb5.block _ (Nat.lt_of_succ_le hs1)).trans KR1.out; obtain ⟨t0, t1, t2, t3, t4, t5, t6, t7, t8, t9, t10⟩ := blk11 KR5.out; have f0 := blk11_frozen KR5.out 0; have f1 := blk11_frozen KR5.out 1; have f2 := blk11_frozen KR5.out 2; have f3 := blk11_frozen KR5.out 3; have f4 := blk11_frozen KR5.out 4; have f5 := blk11_frozen KR5.out 5; have f6 := blk11_frozen KR5.out 6; have f7 := blk11_frozen KR5.out 7; have f8 := blk11_frozen KR5.out 8; have f9 := blk11_frozen KR5.out 9; have f10 := blk11_frozen KR5.out 10)
  rw [put11_fold]
  have n10 := put11_blk (.string E.id) (.string E.ti) (.int .i64 E.st) (.int .i64 E.lg) (.string E.f) (.int .i64 E.e) (.slice r2 E.ds.length rc2) (.int .i64 E.c) (.int .i64 E.u) (.slice s2 E.sk.length sc2) (.slice m2 E.mv.length mc2) KR5.out
  have g7 := put11_grown w5 w.heap.size (.string E.id) (.string E.ti) (.int .i64 E.st) (.int .i64 E.lg) (.string E.f) (.int .i64 E.e) (.slice r2 E.ds.length rc2) (.int .i64 E.c) (.int .i64 E.u) (.slice s2 E.sk.length sc2) (.slice m2 E.mv.length mc2)
  clear x0 x1 x2 x3 x4 x5 x6 x7 x8 x9 x10 t0 t1 t2 t3 t4 t5 t6 t7 t8 t9 t10 f0 f1 f2 f3 f4 f5 f6 f7 f8 f9 f10
  have o1 := Ow.grown ho1 g7 (by omega)
  have o2 := Ow.grown ho2 g7 (by omega)
  have o3 := OwM.grown ho3 g7 (by omega)
  generalize put11 w5 w.heap.size (.string E.id) (.string E.ti) (.int .i64 E.st) (.int .i64 E.lg) (.string E.f) (.int .i64 E.e) (.slice r2 E.ds.length rc2) (.int .i64 E.c) (.int .i64 E.u) (.slice s2 E.sk.length sc2) (.slice m2 E.mv.length mc2) = w7 at n10 g7 o1 o2 o3 ⊢
  obtain ⟨c0, c1, c2, c3, c4, c5, c6, c7, c8, c9, c10⟩ := blk11 n10
  refine bodyPost_ret (v := .tuple #[.agg #[.string E.id, .string E.ti, .int .i64 E.st, .int .i64 E.lg, .string E.f, .int .i64 E.e, .slice r2 E.ds.length rc2, .int .i64 E.c, .int .i64 E.u, .slice s2 E.sk.length sc2, .slice m2 E.mv.length mc2], .bool (Maps.has D (key id))]) (by simp [results, Tryz.f14, go_sem, c0, c1, c2, c3, c4, c5, c6, c7, c8, c9, c10]) rfl ⟨_, _, _, rfl, ⟨ow_days o1 HD20.out, ow_ints o2 (by omega), (owm_movs o3 m8).1⟩, (below_then B1.out hb5).grown g7 (below_then B1.out hb5).size (fun k q => by cases q; exact Nat.le_refl _)⟩
/-- the event that is none -/
def zE : EV := ⟨⟨#[]⟩, ⟨#[]⟩, 0, 0, ⟨#[]⟩, 0, [], 0, 0, [], []⟩
theorem get_no (lo bb n : Nat) (mo : Option Nat) (C : List EV) (id : ByteArray) (hid : id.size ≤ 1000) (hn : ¬ ∃ E ∈ C, E.id = id) (w : World) (h : BookAt lo w bb mo n C) :
    Calls Tryz.prog 14 #[.pointer (some ⟨bb, 0, none⟩), .string id] w fun r w' => ∃ sl' skv' mvv', r = .returned (.tuple #[ev zE sl' skv' mvv', .bool false]) ∧ Ls w' zE sl' skv' mvv' ∧ Below w.heap.size w w' := by
  obtain ⟨D, h1, h2, h3, h4⟩ := h
  have hh : Maps.has D (key id) = false := by
    cases hq : Maps.has D (key id) with
    | false => rfl
    | true => exact absurd ((h4.hasE id).1 hq) hn
  have := bget_mo bb n mo D id zE (.slice none 0 0) (.slice none 0 0) (.slice none 0 0) w h1 hid (Maps.atKey_of_not_has hh (.held zV)) ⟨Days.nil _ _, Ints.nil _ _, Movs.nil _ _⟩ (by decide) (by decide)
  rwa [hh] at this
end Go.Proofs.YtnpecjccajebiaaGreatDoor
