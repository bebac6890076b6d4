/- Package event's Get and Text of any event that is well: the texts of its fields. -/
import Derived.Test.YtekminpoiokgfaaGreatDoorYaG
import Derived.Test.YtekminpoiokgfaaGreatDoorYaO
import Derived.Lib.QuietBelow
import Derived.Test.YtekminpoiokgfaaGreatDoorYaA
import Derived.Test.YtekminpoiokgfaaGreatDoorYaM
import Derived.Test.YtekminpoiokgfaaGreatDoorYaF
import Derived.Shelf.Abstract
import Derived.Shelf.RegionOpen
import Derived.WalkKit
import Derived.OwnWalkIn
import Derived.TacticsInMore
import Derived.LoopNIn
import Derived.LoopIn
import Derived.BigRegion
namespace Go.Proofs.YtekminpoiokgfaaGreatDoor
open Go Go.RowKit Go.Sort Cal
attribute [local go_sem] Oper.semAt_some

open Classical in
/-- a rule's text -/
noncomputable def ruT (r : RV) : List UInt8 := if h : ∃ t, UT r t then rtext r h.choose else []
theorem ruT_ok {r : RV} (h : Well r) : ∃ t, UT r t ∧ ruT r = rtext r t := by
  have h' := ut_exists h
  exact ⟨h'.choose, h'.choose_spec, by unfold ruT; rw [dif_pos h']⟩
/-- the text of an event's field -/
noncomputable def fT (E : EV) : Nat → List UInt8
  | 0 => E.ti.data.toList
  | 1 => dtx E.st
  | 2 => Lib.itoa E.lg
  | 3 => ruT (rd E.f E.e E.ds E.c E.u)
  | 4 => Lib.join (E.sk.map dtx) [44]
  | _ => Lib.join (E.mv.map mtx) [44]

theorem words_bar {r : RV} {t : List UInt8} (h : Well r) (ht : ∀ c ∈ t, c.toNat ≤ 57) : ∀ x ∈ words r t, (124 : UInt8) ∉ x := by
  intro x hx
  unfold words at hx
  split at hx
  · simp at hx; subst hx; decide
  · rcases List.mem_cons.1 hx with rfl | hx
    · rcases h.fr with e | e | e | e | e <;> rw [e] <;> decide
    rcases List.mem_cons.1 hx with rfl | hx
    · intro hm; have := itoa_digs _ (show 0 ≤ r.every by have := h.ev; omega) _ hm; revert this; decide
    rcases List.mem_append.1 hx with hx | hx
    · unfold wDays at hx
      split at hx
      · simp at hx
      · simp at hx; subst hx
        refine join_no 124 44 (by decide) _ (fun y hy => ?_)
        obtain ⟨d, _, rfl⟩ := List.mem_map.1 hy
        unfold nm
        repeat' split
        all_goals decide
    rcases List.mem_append.1 hx with hx | hx
    · unfold wCount at hx
      split at hx
      · simp at hx
      · simp at hx
        rcases hx with rfl | rfl
        · decide
        · intro hm; have := itoa_digs _ (show 0 ≤ r.count by have := h.co; omega) _ hm; revert this; decide
    · unfold wUntil at hx
      split at hx
      · simp at hx
      · simp at hx
        rcases hx with rfl | rfl
        · decide
        · intro hm; have := ht _ hm; revert this; decide
theorem ut_most {r : RV} {t : List UInt8} (h : UT r t) : ∀ c ∈ t, c.toNat ≤ 57 := by
  rcases h with ⟨_, rfl⟩ | ⟨_, y, m, d, hv, _, rfl⟩
  · intro c hc; simp at hc
  · exact txt_most hv
theorem ruT_bar {r : RV} (h : Well r) : (124 : UInt8) ∉ ruT r := by
  obtain ⟨t, ht, e⟩ := ruT_ok h
  rw [e]
  exact join_no 124 32 (by decide) _ (words_bar h (ut_most ht))
theorem fT_bar {E : EV} (h : EW E) (k : Nat) : (124 : UInt8) ∉ fT E k := by
  match k with
  | 0 =>
    intro hm
    change (124 : UInt8) ∈ E.ti.data.toList at hm
    obtain ⟨j, hj, he⟩ := List.mem_iff_getElem.1 hm
    have := h.ti.1 j (by simpa using hj)
    unfold okt at this
    have e2 : E.ti[j]'(by simpa using hj) = 124 := by
      show E.ti.data[j] = 124
      simpa using he
    rw [e2] at this
    simp at this
  | 1 => exact dtx_no _ _ (by decide)
  | 2 => intro hm; have := itoa_digs _ (show 0 ≤ E.lg by have := h.bd.2.1; omega) _ hm; revert this; decide
  | 3 => exact ruT_bar h.rl
  | 4 => exact join_no 124 44 (by decide) _ (fun y hy => by obtain ⟨d, _, rfl⟩ := List.mem_map.1 hy; exact dtx_no _ _ (by decide))
  | k + 5 => exact join_no 124 44 (by decide) _ (fun y hy => by obtain ⟨d, _, rfl⟩ := List.mem_map.1 hy; exact mtx_no _ _ (by decide))
theorem id_bar {E : EV} (h : EW E) : (124 : UInt8) ∉ E.id.data.toList := by
  intro hm
  obtain ⟨j, hj, he⟩ := List.mem_iff_getElem.1 hm
  have := h.id.1 j (by simpa using hj)
  unfold okc at this
  have e2 : E.id[j]'(by simpa using hj) = 124 := by
    show E.id.data[j] = 124
    simpa using he
  rw [e2] at this
  simp at this
theorem fT_len {E : EV} (h : EW E) (h20 : E.ds.length ≤ 20) (k : Nat) : (fT E k).length ≤ 1000 := by
  obtain ⟨k20, m20, _⟩ := lk_of h.ls
  match k with
  | 0 => have := h.ti.2; show E.ti.data.toList.length ≤ _; rw [Array.length_toList]; have e : E.ti.data.size = E.ti.size := rfl; omega
  | 1 => have := dtx_len E.st; show (dtx _).length ≤ _; omega
  | 2 => have := itoa_len E.lg (by have := h.bd.2.1; omega) (by have := h.bd.2.2; omega); show (Lib.itoa _).length ≤ _; omega
  | 3 => obtain ⟨t, ht, e⟩ := ruT_ok h.rl; show (ruT _).length ≤ _; rw [e]; exact rtext_len h.rl ht h20
  | 4 =>
    have := joinLen (E.sk.map dtx) [44] 10 (fun y hy => by obtain ⟨x, _, rfl⟩ := List.mem_map.1 hy; exact dtx_len x)
    rw [List.length_map] at this
    have h31 : E.sk.length * (10 + [(44 : UInt8)].length) ≤ 20 * 11 := Nat.mul_le_mul k20 (by simp)
    show (Lib.join _ _).length ≤ _
    omega
  | k + 5 =>
    have := joinLen (E.mv.map mtx) [44] 21 (fun y hy => by obtain ⟨x, _, rfl⟩ := List.mem_map.1 hy; exact mtx_len x)
    rw [List.length_map] at this
    have h31 : E.mv.length * (21 + [(44 : UInt8)].length) ≤ 20 * 22 := Nat.mul_le_mul m20 (by simp)
    show (Lib.join _ _).length ≤ _
    omega

theorem textD_any (n : Int) (w : World) (h0 : 0 ≤ n) (h1 : n ≤ 73048) (ht : Tab w) :
    Calls Tryz.prog 98 #[.int .i64 n] w fun e w' => e = .returned (.string (bs (dtx n))) ∧ Below w.heap.size w w' := by
  obtain ⟨y, m, d, hv, hn, e⟩ := dtx_ok h0 h1
  rw [e]
  exact text_ok n y m d w hv hn ht

set_option maxHeartbeats 1000000 in
theorem moveText_any (a b : Int) (w : World) (ha0 : 0 ≤ a) (ha1 : a ≤ 73048) (hb0 : 0 ≤ b) (hb1 : b ≤ 73048) (ht : Tab w) :
    Calls Tryz.prog 103 #[.agg #[.int .i64 a, .int .i64 b]] w fun e w' => e = .returned (.string (bs (mtx (a, b)))) ∧ Below w.heap.size w w' := by
  have hA := below_alloc w (.cells #[.int .i64 a, .int .i64 b] 72)
  have x0 : (w.alloc (.cells #[.int .i64 a, .int .i64 b] 72)).cell? ⟨w.heap.size, 0, none⟩ = some (.int .i64 a) := by rw [World.cell?_alloc_new]; rfl
  have x1 : (w.alloc (.cells #[.int .i64 a, .int .i64 b] 72)).cell? ⟨w.heap.size, 1, none⟩ = some (.int .i64 b) := by rw [World.cell?_alloc_new]; rfl
  have T := ht.step hA
  have HM : Hid (bs (mtx (a, b)) = bs (dtx a) ++ ⟨#[62]⟩ ++ bs (dtx b)) := by
    show _ = _
    unfold mtx bs
    simp [ByteArray.mk_append_mk]
  have HA : Hid (_) := hA
  generalize hw0 : w.alloc (.cells #[.int .i64 a, .int .i64 b] 72) = w0 at x0 x1 T HA
  have X0 := cell_regrown x0
  have X1 := cell_regrown x1
  have T1 : Hid (∀ d os, Calls Tryz.prog 98 #[.int .i64 a] (grow (redrawn w0 d) os) fun r w'' => r = .returned (.string (bs (dtx a))) ∧ ∃ p : Regrown, w'' = grow (redrawn w0 p.d) p.os) := fun d os => Calls.regrown_of (textD_any a _ ha0 ha1 (T.step (below_regrown _ _ _)))
  have T2 : Hid (∀ d os, Calls Tryz.prog 98 #[.int .i64 b] (grow (redrawn w0 d) os) fun r w'' => r = .returned (.string (bs (dtx b))) ∧ ∃ p : Regrown, w'' = grow (redrawn w0 p.d) p.os) := fun d os => Calls.regrown_of (textD_any b _ hb0 hb1 (T.step (below_regrown _ _ _)))
  have hs1 : (bs (dtx a)).size ≤ 10 := by show (dtx a).toArray.size ≤ 10; simpa using dtx_len a
  have hs2 : (bs (dtx b)).size ≤ 10 := by show (dtx b).toArray.size ≤ 10; simpa using dtx_len b
  generalize bs (dtx a) = sa at T1 HM hs1
  generalize bs (dtx b) = sb at T2 HM hs2
  generalize bs (mtx (a, b)) = sm at HM ⊢
  have q1 : ¬ 9223372036854775807 < sa.size + 1 := by omega
  have q2 : ¬ 9223372036854775807 < sa.size + 1 + sb.size := by omega
  clear T hA ha0 ha1 hb0 hb1
  go_enter Tryz.func103, Tryz.ntmps103
  go_upto_region 1 with (fail)
  refine wp_region_quiet_below (by kernel_rfl) (by kernel_rfl) ?_
  repeat (quiet_step (first | (go_at_call_of 98 (Value.int .i64 a); exact T1.out _ _) | (go_at_call_of 98 (Value.int .i64 b); exact T2.out _ _)))
  refine wpQuiet_nil ?_
  intro w2 hw'
  have hb2 : Below w0.heap.size w0 w2 := by
    obtain ⟨⟨dq, osq⟩, hw''⟩ := hw'
    subst hw''
    exact below_regrown _ _ _
  clear hw' X0 X1 x0 x1
  go_wp2
  go_ret
  exact ⟨by rw [HM.out]; rfl, below_then HA.out hb2⟩

set_option maxHeartbeats 1600000 in
set_option maxRecDepth 100000 in
theorem listTextM_any (ms : List (Int × Int)) (sl : Value) (w : World) (hd : Movs w sl ms) (h20 : ms.length ≤ 60) (hv : ∀ m ∈ ms, (0 ≤ m.1 ∧ m.1 ≤ 73048) ∧ 0 ≤ m.2 ∧ m.2 ≤ 73048) (ht : Tab w) :
    Calls Tryz.prog 102 #[sl, .func (.func 103) #[] #[]] w fun r w' => r = .returned (.string (bs (Lib.join (ms.map mtx) [44]))) ∧ Below w.heap.size w w' := by
  obtain ⟨a, cap, rfl, _, hcap, hcell⟩ := hd
  obtain ⟨i0, hi, hz0, hz1, hz2⟩ := info_parts info_str
  have HC : Hid (_) := hcell
  have HV : Hid (_) := hv
  have HT : Hid (Tab w) := ht
  clear hcell hv ht
  go_enter Tryz.func102, Tryz.ntmps102
  go_wp2
  go_loopw [5, 7, 10] (fun v _ i wr => ∃ m : Nat, m ≤ ms.length ∧ i = .int .i64 m ∧ Hid (TR w wr v ((ms.map mtx).take m))) (fun _ _ i _ => ms.length - (intOf i).toNat)
  case atStart => exact ⟨0, Nat.zero_le _, rfl, TR.nil w⟩
  case round =>
    obtain ⟨m, hm, rfl, HO⟩ := hrel
    by_cases hlt : m < ms.length
    · obtain ⟨blk, rfl, hblk, hcl, hcl'⟩ := HC.out m hlt
      have hc1 := cell_step hcl HO.out.below
      have hc2 := cell_step hcl' HO.out.below
      have HN : Hid ((ms.map mtx).take (m + 1) = (ms.map mtx).take m ++ [mtx ms[m]]) := by
        show _ = _
        rw [List.take_succ_eq_append_getElem (by simpa using hlt)]; simp
      obtain ⟨⟨v1, v2⟩, v3, v4⟩ := HV.out ms[m] (List.getElem_mem hlt)
      have hlen : ((ms.map mtx).take m).length = m := by simp; omega
      clear HC HV hcl hcl'
      generalize ms[m] = x at hc1 hc2 HN v1 v2 v3 v4
      obtain ⟨xa, xb⟩ := x
      dsimp only at hc1 hc2 v1 v2 v3 v4
      have hA := below_alloc wr (.cells #[.int .i64 xa, .int .i64 xb] 72)
      have hcall := moveText_any xa xb _ v1 v2 v3 v4 (HT.out.step (below_then HO.out.below hA))
      have hn0 : (wr.alloc (.cells #[.int .i64 xa, .int .i64 xb] 72)).cell? ⟨wr.heap.size, 0, none⟩ = some (.int .i64 xa) := by rw [World.cell?_alloc_new]; rfl
      have hn1 : (wr.alloc (.cells #[.int .i64 xa, .int .i64 xb] 72)).cell? ⟨wr.heap.size, 1, none⟩ = some (.int .i64 xb) := by rw [World.cell?_alloc_new]; rfl
      generalize (ms.map mtx).take m = L at HO HN hlen
      obtain ⟨oa, oc, rfl⟩ := HO.out.form
      rw [hlen] at HO
      have HLN : Hid (L.length = m) := hlen
      have HCL : Hid (Calls _ _ _ _ _) := hcall
      have HA : Hid (Below wr.heap.size wr (wr.alloc (.cells #[.int .i64 xa, .int .i64 xb] 72))) := hA
      generalize hbt : bs (mtx (xa, xb)) = bt at HCL
      have HBT : Hid (bs (mtx (xa, xb)) = bt) := hbt
      clear hlen hcall hbt hA v1 v2 v3 v4
      rw [HLN.out]
      go_upto_region 5 with (fail)
      generalize wr.alloc (.cells #[.int .i64 xa, .int .i64 xb] 72) = wq at HCL HA hn0 hn1
      clear hc1 hc2
      go_wp2_with (first
        | (go_at_call 103; refine Calls.mono HCL.out ?_; rintro r w2 ⟨rfl, hb2⟩; have T2 : Hid (TR w w2 (.slice oa m oc) L) := HO.out.step (below_then HA.out hb2); have NC : Hid (_) := word_cell w2 bt; have hz2' : w.heap.size ≤ w2.heap.size := T2.out.below.size)
        | (at_builtin; refine wpList_append_own _ rfl _ _ 37 rfl w.heap.size 9 i0 (.string ⟨#[]⟩) 1 16 Tryz.underlying37 hi hz0 hz1 hz2 rfl (by decide) _ _ _ rfl (show World.ownsRow _ _ _ _ _ m (L.map sv) by have := T2.out.own.alloc (.cells #[.string bt] 9); rwa [HLN.out] at this) ⟨w2.heap.size, 0, none⟩ 1 1 [.string bt] rfl rfl NC.out (fun v hv => by rw [List.mem_singleton.1 hv]; rfl) (by unfold maxLen; omega) (by omega) (by simp; omega) ?_; intro v' w3 hown' hgrow _; have T3 : Hid (TR w w3 v' (L ++ [mtx (xa, xb)])) := TR.app [mtx (xa, xb)] T2.out (by rw [List.length_append, HLN.out]; rfl) (by rw [List.map_append, ← HBT.out]; rfl) hown' hgrow; obtain ⟨g', cap', rfl⟩ := ownsRow_succ hown'; clear hown' hgrow)
        | go_in)
      go_roundw
      case rel => exact ⟨m + 1, by omega, by go_num, by rw [HN.out]; exact T3.out⟩
      case measure => simp [intOf]; omega
    · have HE : Hid ((ms.map mtx).take m = ms.map mtx) := List.take_of_length_le (by simp; omega)
      rw [HE.out] at HO
      have hle : (Lib.join (ms.map mtx) [44]).length ≤ 100000 := by
        have := joinLen (ms.map mtx) [44] 21 (fun y hy => by obtain ⟨x, hx, rfl⟩ := List.mem_map.1 hy; exact mtx_len x)
        rw [List.length_map] at this
        have h31 : ms.length * (21 + [(44 : UInt8)].length) ≤ 60 * 22 := Nat.mul_le_mul h20 (by simp)
        omega
      have J : Hid (_) := joins_any w _ (ms.map mtx) [44] wr HO.out (by simp; omega) hle
      obtain ⟨oa, oc, rfl⟩ := HO.out.form
      rw [List.length_map] at HO J ⊢
      clear HC HT HV hle
      unfold bs at J
      go_wp2_with (go_at_call 67; refine Calls.mono J.out ?_; rintro r w2 ⟨rfl, hb2⟩)
      go_ret
      exact ⟨rfl, below_then HO.out.below hb2⟩

theorem get_any (E : EV) (sl skv mvv : Value) (k : Nat) (hk : k < 6) (w : World) (g : GlobR w) (hd : Days w sl E.ds) (hs : Ints w skv E.sk) (hm : Movs w mvv E.mv) (hw : EW E) :
    Calls Tryz.prog 66 #[ev E sl skv mvv, .string (fldB k)] w fun r w' => r = .returned (.string (bs (fT E k))) ∧ Below w.heap.size w w' := by
  obtain ⟨k20, m20, _, _, kd, md, _⟩ := lk_of hw.ls
  obtain ⟨ra, rc, e1, h20, _⟩ := id hd
  obtain ⟨sa, sc, e2, _⟩ := id hs
  obtain ⟨ma, mc, e3, _⟩ := id hm
  match k, hk with
  | 0, _ =>
    subst e1 e2 e3
    exact get_title E ra _ rc sa _ sc ma _ mc w
  | 1, _ =>
    subst e1 e2 e3
    exact get_start E ra _ rc sa _ sc ma _ mc _ w (fun W hW => textD_any E.st W hw.bd.1.1 hw.bd.1.2 (g.tab.step hW))
  | 2, _ =>
    subst e1 e2 e3
    exact get_long E ra _ rc sa _ sc ma _ mc _ w (fun W hW => itoa_any E.lg W (by have := hw.bd.2.1; omega) (by have := hw.bd.2.2; omega) (g.tab.step hW))
  | 3, _ =>
    obtain ⟨t, ht, e⟩ := ruT_ok hw.rl
    show Calls _ _ _ _ fun r w' => r = .returned (.string (bs (ruT _))) ∧ _
    rw [e]
    subst e1 e2 e3
    exact get_rule E ra _ rc sa _ sc ma _ mc _ w (fun W hW => rtext_any E.f E.e _ E.c E.u E.ds t W (g.step hW) (hd.step hW) hw.rl ht)
  | 4, _ =>
    subst e1 e2 e3
    exact get_skips E ra _ rc sa _ sc ma _ mc _ w (fun W hW => listTextI_any E.sk _ dtx W (hs.step hW) (by omega) (fun x _ => by have := dtx_len x; omega) (fun x hx W' hW' => textD_any x W' (kd x hx).1 (kd x hx).2 ((g.tab.step hW).step hW')))
  | 5, _ =>
    subst e1 e2 e3
    exact get_moves E ra _ rc sa _ sc ma _ mc _ w (fun W hW => listTextM_any E.mv _ W (hm.step hW) (by omega) md (g.tab.step hW))

/-- the parts of an event's text -/
noncomputable def pT (E : EV) : List (List UInt8) := [fT E 0, fT E 1, fT E 2, fT E 3, fT E 4, fT E 5]
theorem pT_at (E : EV) (k : Nat) (hk : k < 6) : (pT E).getD k [] = fT E k := by
  match k, hk with
  | 0, _ => rfl
  | 1, _ => rfl
  | 2, _ => rfl
  | 3, _ => rfl
  | 4, _ => rfl
  | 5, _ => rfl
/-- an event's text -/
noncomputable def eT (E : EV) : List UInt8 := Lib.join (E.id.data.toList :: pT E) [124]
theorem pT_mem {E : EV} {x : List UInt8} (h : x ∈ pT E) : ∃ k, k < 6 ∧ x = fT E k := by
  unfold pT at h
  simp only [List.mem_cons, List.not_mem_nil, or_false] at h
  rcases h with h | h | h | h | h | h
  · exact ⟨0, by omega, h⟩
  · exact ⟨1, by omega, h⟩
  · exact ⟨2, by omega, h⟩
  · exact ⟨3, by omega, h⟩
  · exact ⟨4, by omega, h⟩
  · exact ⟨5, by omega, h⟩
theorem eT_pieces {E : EV} (h : EW E) : pieces 124 (eT E) = E.id.data.toList :: pT E := by
  refine pieces_join 124 _ (by simp) (fun x hx => ?_)
  rcases List.mem_cons.1 hx with rfl | hx
  · exact id_bar h
  · obtain ⟨k, _, rfl⟩ := pT_mem hx
    exact fT_bar h k
theorem eT_len {E : EV} (h : EW E) (h20 : E.ds.length ≤ 20) : (eT E).length ≤ 10000 := by
  have := joinLen (E.id.data.toList :: pT E) [124] 1000 (fun y hy => by
    rcases List.mem_cons.1 hy with rfl | hy
    · have := h.id.2.2; rw [Array.length_toList]; have e : E.id.data.size = E.id.size := rfl; omega
    · obtain ⟨k, _, rfl⟩ := pT_mem hy; exact fT_len h h20 k)
  exact Nat.le_trans this (by simp [pT])
theorem etext_any (E : EV) (sl skv mvv : Value) (s : Nat → Addr) (w : World) (gk : GlobK s w) (g : GlobR w) (hd : Days w sl E.ds) (hs : Ints w skv E.sk) (hm : Movs w mvv E.mv) (hw : EW E) :
    Calls Tryz.prog 41 #[ev E sl skv mvv] w fun r w' => r = .returned (.string (bs (eT E))) ∧ Below w.heap.size w w' := by
  have h20 : E.ds.length ≤ 20 := by obtain ⟨_, _, _, h, _⟩ := hd; exact h
  refine etext_of E sl skv mvv (pT E) s w gk hd hs hm (by have := hw.id.2.2; omega) (by have := hw.ti.2; omega) hw rfl (fun p hp => ?_) (fun i hi W hW => ?_)
  · obtain ⟨k, _, rfl⟩ := pT_mem hp; have := fT_len hw h20 k; omega
  · rw [pT_at E i hi]; exact get_any E sl skv mvv i hi W (g.step hW) (hd.step hW) (hs.step hW) (hm.step hW) hw
end Go.Proofs.YtekminpoiokgfaaGreatDoor

/- The iterator of strings.SplitSeq at a separator of one sign: it gives a text's pieces, one by one; between two rounds it writes its own variable. -/
namespace Go.Proofs.YtekminpoiokgfaaGreatDoor
open Go Go.RowKit Go.Shelf Cal
attribute [local go_sem] Oper.semAt_some

theorem ba_ext {a b : ByteArray} (h : a.data.toList = b.data.toList) : a = b := by
  obtain ⟨⟨x⟩⟩ := a
  obtain ⟨⟨y⟩⟩ := b
  have : x = y := h
  subst this
  rfl

/-- what is left of the text, read off the world -/
def leftOf (W : World) (B : Nat) : Nat := match W.cell? ⟨B, 0, none⟩ with
  | some (.string s) => s.size + 1
  | _ => 0

/-- the iterator's three variables -/
structure Its (W : World) (Bs Bp Bv : Nat) (s : ByteArray) (c : UInt8) : Prop where
  s : Boxed W Bs 9 (.string s)
  p : Boxed W Bp 9 (.string ⟨#[c]⟩)
  v : Boxed W Bv 3 (.int .i64 0)

theorem leftOf_eq {W : World} {B : Nat} {s : ByteArray} {t : TypeId} (h : Boxed W B t (.string s)) : leftOf W B = s.size + 1 := by
  unfold leftOf; rw [h.cell]

set_option maxHeartbeats 1000000 in
theorem split_iter (n l Bs Bp Bv : Nat) (c : UInt8) (ws : List (List UInt8)) (J Jx : Nat → World → Prop) (hn : 6 ≤ n) (hne1 : Bs ≠ Bp) (hne2 : Bs ≠ Bv)
    (hJs : ∀ k W v, J k W → J k (W.setCell ⟨Bs, 0, none⟩ v))
    (hY : ∀ (k : Nat) (hk : k < ws.length) (W : World), J k W → YieldAt Fence.wide (n - 1) Tryz.prog l #[.string ⟨ws[k].toArray⟩] W fun e W' =>
      (e = .returned (.bool true) ∧ J (k + 1) W' ∧ W'.heap[Bs]? = W.heap[Bs]? ∧ W'.heap[Bp]? = W.heap[Bp]? ∧ W'.heap[Bv]? = W.heap[Bv]?) ∨ (e = .returned (.bool false) ∧ Jx (k + 1) W'))
    (W : World) (s : ByteArray) (hsz : s.size ≤ 1000000) (hs : pieces c s.data.toList = ws) (hB : Its W Bs Bp Bv s c) (h0 : J 0 W) :
    CallsIn Fence.wide n Tryz.prog 187 #[.func (.yield l) #[] #[], .pointer (some ⟨Bp, 0, none⟩), .pointer (some ⟨Bs, 0, none⟩), .pointer (some ⟨Bv, 0, none⟩)] W fun e W' =>
      (∃ v, e = .returned v) ∧ (J ws.length W' ∨ ∃ k, Jx k W') := by
  have h1 : 1 ≤ n := by omega
  obtain ⟨b1, b2, b3⟩ := hB
  have c1 := b1.cell
  have c2 := b2.cell
  have c3 := b3.cell
  refine callsIn_of_wp Tryz.func187 rfl trivial ?_ rfl
  simp only [Tryz.ntmps187, List.size_toArray, List.length_cons, List.length_nil, Nat.reduceAdd, Nat.reduceSub, Array.replicate_succ, Array.replicate_zero, List.push_toArray, List.append_toArray, List.nil_append, List.cons_append]
  gi_wp2
  have HY : Hid (_) := hY
  have HJ : Hid (_) := hJs
  clear hY hJs c1 c2 c3
  gi_loopw [7, 8] (fun i fr wr => ∃ (k : Nat) (sk : ByteArray), J k wr ∧ Its wr Bs Bp Bv sk c ∧ pieces c sk.data.toList = ws.drop k ∧ sk.size ≤ s.size) (fun _ _ wr => leftOf wr Bs)
  case atStart => exact ⟨0, s, h0, ⟨b1, b2, b3⟩, hs, Nat.le_refl _⟩
  case round =>
    obtain ⟨k, sk, hJk, hI, hp, hss⟩ := hrel
    obtain ⟨d1, d2, d3⟩ := hI
    have e1 := d1.cell
    have e2 := d2.cell
    have e3 := d3.cell
    have f1 := d1.frozen
    by_cases hx : Lib.indexByte sk.data.toList c = -1
    · have hp1 := hp
      rw [pieces_none hx] at hp1
      have hk : k < ws.length := by
        rcases Nat.lt_or_ge k ws.length with h | h
        · exact h
        · rw [List.drop_eq_nil_of_le h] at hp1; cases hp1
      have hw : ws[k] = sk.data.toList ∧ k + 1 = ws.length := by
        rw [List.drop_eq_getElem_cons hk] at hp1
        injection hp1 with q1 q2
        refine ⟨q1.symm, ?_⟩
        have := congrArg List.length q2
        simp at this
        omega
      have ew : (⟨ws[k].toArray⟩ : ByteArray) = sk := by rw [hw.1]
      have hYk := HY.out k hk wr hJk
      rw [ew] at hYk
      obtain ⟨fn, tmps, assign, body, hy, hR⟩ := hYk
      have ix := Tryz.strings_Index_one sk c wr
      rw [hx] at ix
      have IX : Hid (Calls Tryz.prog 139 #[.string sk, .string ⟨#[c]⟩] wr fun e w' => e = .returned (.int .i64 (-1)) ∧ w' = wr) := ix
      have HK : Hid (k + 1 = ws.length) := hw.2
      clear ix hx hp1 hp hw ew hk
      gi_wp2_with (refine ⟨trivial, ?_⟩; gi_at_call 139; refine (callsIn_wide.2 (IX.out)).mono ?_; rintro e w' ⟨rfl, rfl⟩)
      refine hR.mono ?_
      rintro e W3 (⟨rfl, hJ3, _⟩ | ⟨rfl, hJx3⟩)
      · gi_wp2
        go_end0
        exact ⟨⟨_, rfl⟩, .inl (by rw [← HK.out]; exact hJ3)⟩
      · gi_wp2
        go_end0
        exact ⟨⟨_, rfl⟩, .inr ⟨_, hJx3⟩⟩
    · obtain ⟨i, hi⟩ : ∃ i : Nat, Lib.indexByte sk.data.toList c = i := ⟨(Lib.indexByte sk.data.toList c).toNat, by have := Lib.indexByte_ge sk.data.toList c; omega⟩
      have hil : i < sk.size := by
        obtain ⟨hh, _⟩ := Lib.indexByte_some hi
        have := (List.getElem?_eq_some_iff.1 hh).1
        rw [Lib.size_eq]; exact this
      have hp1 := hp
      rw [pieces_found hi] at hp1
      have hk : k < ws.length := by
        rcases Nat.lt_or_ge k ws.length with h | h
        · exact h
        · rw [List.drop_eq_nil_of_le h] at hp1; cases hp1
      have hw : ws[k] = sk.data.toList.take i ∧ pieces c (sk.data.toList.drop (i + 1)) = ws.drop (k + 1) := by
        rw [List.drop_eq_getElem_cons hk] at hp1
        injection hp1 with q1 q2
        exact ⟨q1.symm, q2⟩
      have ew : (⟨ws[k].toArray⟩ : ByteArray) = sk.extract 0 i := by
        rw [hw.1]
        apply ba_ext
        rw [Lib.extract_data]; simp
      have ex : (sk.extract (i + 1) sk.size).data.toList = sk.data.toList.drop (i + 1) := Lib.extract_to_end sk (i + 1)
      have hYk := HY.out k hk wr hJk
      rw [ew] at hYk
      obtain ⟨fn, tmps, assign, body, hy, hR⟩ := hYk
      have ix := Tryz.strings_Index_one sk c wr
      rw [hi] at ix
      have IX : Hid (Calls Tryz.prog 139 #[.string sk, .string ⟨#[c]⟩] wr fun e w' => e = .returned (.int .i64 i) ∧ w' = wr) := ix
      have HP : Hid (pieces c (sk.extract (i + 1) sk.size).data.toList = ws.drop (k + 1)) := by rw [ex]; exact hw.2
      have HE : Hid (_) := ex
      have hskz : sk.size ≤ 1000000 := by omega
      clear ix hx hp1 hp hw ew hk hi ex
      gi_wp2_with (refine ⟨trivial, ?_⟩; gi_at_call 139; refine (callsIn_wide.2 (IX.out)).mono ?_; rintro e w' ⟨rfl, rfl⟩)
      refine hR.mono ?_
      rintro e W3 (⟨rfl, hJ3, g1, g2, g3⟩ | ⟨rfl, hJx3⟩)
      · have d1' : Boxed W3 Bs 9 (.string sk) := g1.trans d1
        have d2' : Boxed W3 Bp 9 (.string ⟨#[c]⟩) := g2.trans d2
        have d3' : Boxed W3 Bv 3 (.int .i64 0) := g3.trans d3
        have e1' := d1'.cell
        have e2' := d2'.cell
        have f1' := d1'.frozen
        have HG : Hid (J (k + 1) W3) := hJ3
        clear g1 g2 g3 hJ3
        gi_wp2
        go_roundw
        case rel =>
          refine ⟨k + 1, sk.extract (i + 1) sk.size, HJ.out _ _ _ HG.out, ⟨d1'.set _, d2'.other (Ne.symm hne1) _, d3'.other (Ne.symm hne2) _⟩, HP.out, ?_⟩
          have := congrArg List.length HE.out
          rw [List.length_drop, ← Lib.size_eq, ← Lib.size_eq] at this
          omega
        case measure =>
          rw [leftOf_eq (d1'.set _), leftOf_eq d1]
          have := congrArg List.length HE.out
          rw [List.length_drop, ← Lib.size_eq, ← Lib.size_eq] at this
          omega
      · gi_wp2
        refine bodyPost_ret (results_none rfl _ _ _) rfl ?_
        exact ⟨⟨_, rfl⟩, .inr ⟨_, hJx3⟩⟩
end Go.Proofs.YtekminpoiokgfaaGreatDoor

/- strings.Split, strings.Cut and package event's itemsOf, at one sign. -/
namespace Go.Proofs.YtekminpoiokgfaaGreatDoor
open Go Go.RowKit Go.Shelf Cal
attribute [local go_sem] Oper.semAt_some

/-- the row of a text's pieces -/
def pcO (ws : List (List UInt8)) : Obj := .cells (ws.map sv).toArray 9
/-- words in memory -/
def Wds (W : World) (v : Value) (ws : List (List UInt8)) : Prop :=
  ∃ (a : Option Addr) (c : Nat), v = .slice a ws.length c ∧ ws.length ≤ c ∧ ∀ (j : Nat) (h : j < ws.length), ∃ b, a = some ⟨b, 0, none⟩ ∧ b < W.heap.size ∧ W.cell? ⟨b, j, none⟩ = some (sv ws[j])
theorem Wds.step {W W' : World} {v : Value} {ws : List (List UInt8)} (h : Wds W v ws) (hb : Below W.heap.size W W') : Wds W' v ws := by
  obtain ⟨a, c, h1, h2, h3⟩ := h
  refine ⟨a, c, h1, h2, fun j hj => ?_⟩
  obtain ⟨b, e, hl, hc⟩ := h3 j hj
  exact ⟨b, e, Nat.lt_of_lt_of_le hl hb.size, cell_step hc hb⟩
theorem Wds.nil (W : World) (c : Nat) : Wds W (.slice none 0 c) [] := ⟨none, c, rfl, by simp, fun j h => absurd h (by simp)⟩
theorem Wds.new (w : World) (ws : List (List UInt8)) : Wds (w.alloc (pcO ws)) (.slice (some ⟨w.heap.size, 0, none⟩) ws.length ws.length) ws := by
  refine ⟨_, _, rfl, Nat.le_refl _, fun j hj => ⟨w.heap.size, rfl, by rw [World.size_alloc]; exact Nat.lt_succ_self _, ?_⟩⟩
  unfold pcO
  rw [World.cell?_alloc_new]
  simp [List.getElem?_eq_getElem hj]

theorem genSplit_any (s : ByteArray) (c : UInt8) (w : World) (hs : s.size ≤ 1000000) :
    Calls Tryz.prog 107 #[.string s, .string ⟨#[c]⟩, .int .i64 0, .int .i64 (-1)] w fun r w' =>
      r = .returned (.slice (some ⟨w.heap.size, 0, none⟩) (pieces c s.data.toList).length (pieces c s.data.toList).length) ∧ w' = w.alloc (pcO (pieces c s.data.toList)) := by
  have h1 : 1 ≤ ByteArray.size ⟨#[c]⟩ := Nat.le_refl 1
  have hle := Lib.countB_le ⟨#[c]⟩ h1 s.size s (Nat.le_refl _)
  have hlen := Lib.splitB_all ⟨#[c]⟩ h1 0 _ s rfl
  have hp := splitB_one c _ s rfl
  have k := Any.strings_genSplit_core Tryz.lays221 (by kernel_rfl) s ⟨#[c]⟩ 0 (-1) (Lib.countB s ⟨#[c]⟩ + 1) w (by omega) h1 (Nat.zero_le _)
    (fun x cs _ => (Tryz.strings_Index_one x c _).mono (fun e w' h => ⟨by rw [h.1]; exact congrArg (fun n => Ending.returned (.int .i64 n)) (Lib.index_one x.data.toList c).symm, h.2⟩))
    ((Tryz.strings_Count_one s c w).mono (fun e w' h => ⟨by rw [h.1]; exact congrArg (fun n : Nat => Ending.returned (.int .i64 (n : Int))) (Lib.count_one c s.data.toList).symm, h.2⟩))
    (by decide) (by decide) (by rw [if_pos (by decide)]; omega)
  rw [Nat.add_sub_cancel, hlen] at k
  have e1 : (pieces c s.data.toList).length = Lib.countB s ⟨#[c]⟩ + 1 := by rw [← hp, List.length_map, hlen]
  have e2 : Lib.cellsOf (Lib.splitB ⟨#[c]⟩ 0 (Lib.countB s ⟨#[c]⟩) s) (Lib.countB s ⟨#[c]⟩ + 1) = ((pieces c s.data.toList).map sv).toArray := by
    rw [← hlen, Lib.cellsOf_full, ← hp, List.map_map]
    rfl
  rw [e2] at k
  unfold pcO
  rw [e1]
  exact k

theorem split_any (s : ByteArray) (c : UInt8) (w : World) (hs : s.size ≤ 1000000) :
    Calls Tryz.prog 69 #[.string s, .string ⟨#[c]⟩] w fun r w' =>
      r = .returned (.slice (some ⟨w.heap.size, 0, none⟩) (pieces c s.data.toList).length (pieces c s.data.toList).length) ∧ w' = w.alloc (pcO (pieces c s.data.toList)) := by
  have G : Hid (_) := genSplit_any s c w hs
  generalize pieces c s.data.toList = ws at G ⊢
  go_enter Tryz.func69, Tryz.ntmps69
  go_wp2_with (go_at_call 107; refine Calls.mono G.out ?_; rintro r w' ⟨rfl, rfl⟩)
  go_ret
  exact ⟨rfl, rfl⟩

/-- itemsOf of a list's text: its pieces -/
theorem itemsOf_any (ws : List (List UInt8)) (w : World) (hn : ∀ x ∈ ws, (44 : UInt8) ∉ x) (hx : ∀ x ∈ ws, x ≠ []) (hl : (Lib.join ws [44]).length ≤ 100000) :
    Calls Tryz.prog 141 #[.string (bs (Lib.join ws [44]))] w fun r w' => ∃ v, r = .returned v ∧ Wds w' v ws ∧ Below w.heap.size w w' := by
  by_cases h0 : ws = []
  · subst h0
    rw [join_nil]
    unfold bs
    go_enter Tryz.func141, Tryz.ntmps141
    go_wp2
    go_ret
    exact ⟨_, rfl, Wds.nil w 0, Below.refl _ _⟩
  · have hp := list_pieces h0 hn
    have hj := join_ne h0 hx
    have S := split_any (bs (Lib.join ws [44])) 44 w (by show (Lib.join ws [44]).toArray.size ≤ _; simp; omega)
    rw [show (bs (Lib.join ws [44])).data.toList = Lib.join ws [44] from rfl, hp] at S
    have hb : (bs (Lib.join ws [44])).toList.isEmpty = false := by
      rw [ByteArray.toList_eq, bs_data]
      cases h : Lib.join ws [44] with
      | nil => exact absurd h hj
      | cons _ _ => rfl
    generalize bs (Lib.join ws [44]) = sb at S hb
    have HS : Hid (_) := S
    clear S hp hj
    go_enter Tryz.func141, Tryz.ntmps141
    go_wp2_with (go_at_call 69; refine Calls.mono HS.out ?_; rintro r w' ⟨rfl, rfl⟩)
    go_ret
    exact ⟨_, rfl, Wds.new w ws, below_alloc _ _⟩

set_option maxHeartbeats 1000000 in
theorem slCut_any (m : Int × Int) (w : World) :
    Calls Tryz.prog 169 #[.string (bs (mtx m)), .string ⟨#[62]⟩] w fun r w' => r = .returned (.tuple #[.string (bs (dtx m.1)), .string (bs (dtx m.2)), .bool true]) ∧ Below w.heap.size w w' := by
  have hi := mtx_index m
  have hlen : (bs (mtx m)).size = (dtx m.1).length + (1 + (dtx m.2).length) := by show (mtx m).toArray.size = _; unfold mtx; simp; omega
  have hl1 := dtx_len m.1
  have e1 : (bs (mtx m)).extract 0 (dtx m.1).length = bs (dtx m.1) := ba_ext (by rw [Lib.extract_from_zero, bs_data, bs_data]; unfold mtx; simp)
  have e2 : (bs (mtx m)).extract ((dtx m.1).length + 1) (bs (mtx m)).size = bs (dtx m.2) := ba_ext (by rw [Lib.extract_to_end, bs_data, bs_data]; unfold mtx; simp)
  have I : Hid (∀ W, Calls Tryz.prog 161 #[.string (bs (mtx m)), .string ⟨#[62]⟩] W fun r w' => r = .returned (.int .i64 (dtx m.1).length) ∧ w' = W) := fun W => by
    have := Tryz.stringslite_Index_one (bs (mtx m)) 62 W
    rw [bs_data, hi] at this
    exact this
  generalize bs (mtx m) = s at hlen e1 e2 I ⊢
  generalize bs (dtx m.1) = s1 at e1 ⊢
  generalize bs (dtx m.2) = s2 at e2 ⊢
  generalize (dtx m.1).length = i at hlen hl1 e1 e2 I
  generalize (dtx m.2).length = j at hlen
  have c1 : (0 : Int) ≤ (i : Int) := by omega
  have c2 : (i : Int) ≤ (s.size : Int) := by omega
  have c3 : (0 : Int) ≤ (i : Int) + 1 := by omega
  have c4 : (i : Int) + 1 ≤ (s.size : Int) := by omega
  have E1 : Hid (_) := e1
  have E2 : Hid (_) := e2
  clear e1 e2 hi hlen
  go_enter Tryz.func169, Tryz.ntmps169
  go_wp2_with (go_at_call 161; refine Calls.mono (I.out _) ?_; rintro r w' ⟨rfl, rfl⟩)
  go_region
  go_wp2
  go_ret3
  refine ⟨?_, drew_below _⟩
  simp
  exact ⟨E1.out, E2.out⟩
theorem cut_any (m : Int × Int) (w : World) :
    Calls Tryz.prog 148 #[.string (bs (mtx m)), .string ⟨#[62]⟩] w fun r w' => r = .returned (.tuple #[.string (bs (dtx m.1)), .string (bs (dtx m.2)), .bool true]) ∧ Below w.heap.size w w' := by
  have C : Hid (_) := slCut_any m w
  generalize bs (mtx m) = s at C ⊢
  generalize bs (dtx m.1) = s1 at C ⊢
  generalize bs (dtx m.2) = s2 at C ⊢
  go_enter Tryz.func148, Tryz.ntmps148
  go_wp2_with (go_at_call 169; refine Calls.mono C.out ?_; rintro r w' ⟨rfl, hb⟩)
  go_ret3
  exact ⟨rfl, hb⟩
end Go.Proofs.YtekminpoiokgfaaGreatDoor
