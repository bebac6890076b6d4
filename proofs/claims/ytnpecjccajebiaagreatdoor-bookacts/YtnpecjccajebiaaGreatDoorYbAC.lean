/- Package event's Get and Text of any event that is well: the texts of its fields. -/
import Derived.Test.YtnpecjccajebiaaGreatDoorYaAJ
import Derived.Test.YtnpecjccajebiaaGreatDoorYbAB
import Derived.Lib.QuietBelow
import Derived.Test.YtnpecjccajebiaaGreatDoorYaAT
import Derived.Test.YtnpecjccajebiaaGreatDoorYaAI
import Derived.Shelf.Strings.BuilderK
import Derived.Test.YtnpecjccajebiaaGreatDoorYaAK
import Derived.Lay
import Derived.WideKeyArgs
namespace Go.Proofs.YtnpecjccajebiaaGreatDoor
open Go Go.RowKit Go.Sort Cal
attribute [local go_sem] Oper.semAt_some

open Classical in
/-- a rule's text -/
noncomputable def ruT (r : RV) : List UInt8 := if h : ∃ t, UT r t then rtext r h.choose else []
theorem ruT_ok {r : RV} (h : Well r) : ∃ t, UT r t ∧ ruT r = rtext r t := by
  have h' := ut_exists h
  exact ⟨h'.choose, h'.choose_spec, by unfold ruT; rw [dif_pos h']⟩
/-- the text of an event's field -/
noncomputable def fT (E : EV) : Nat → List UInt8
  | 0 => E.ti.data.toList
  | 1 => dtx E.st
  | 2 => Lib.itoa E.lg
  | 3 => ruT (rd E.f E.e E.ds E.c E.u)
  | 4 => Lib.join (E.sk.map dtx) [44]
  | _ => Lib.join (E.mv.map mtx) [44]

theorem words_bar {r : RV} {t : List UInt8} (h : Well r) (ht : ∀ c ∈ t, c.toNat ≤ 57) : ∀ x ∈ words r t, (124 : UInt8) ∉ x := by
  intro x hx
  unfold words at hx
  split at hx
  · simp at hx; subst hx; decide
  · rcases List.mem_cons.1 hx with rfl | hx
    · rcases h.fr with e | e | e | e | e <;> rw [e] <;> decide
    rcases List.mem_cons.1 hx with rfl | hx
    · intro hm; have := itoa_digs _ (show 0 ≤ r.every by have := h.ev; omega) _ hm; revert this; decide
    rcases List.mem_append.1 hx with hx | hx
    · unfold wDays at hx
      split at hx
      · simp at hx
      · simp at hx; subst hx
        refine join_no 124 44 (by decide) _ (fun y hy => ?_)
        obtain ⟨d, _, rfl⟩ := List.mem_map.1 hy
        unfold nm
        repeat' split
        all_goals decide
    rcases List.mem_append.1 hx with hx | hx
    · unfold wCount at hx
      split at hx
      · simp at hx
      · simp at hx
        rcases hx with rfl | rfl
        · decide
        · intro hm; have := itoa_digs _ (show 0 ≤ r.count by have := h.co; omega) _ hm; revert this; decide
    · unfold wUntil at hx
      split at hx
      · simp at hx
      · simp at hx
        rcases hx with rfl | rfl
        · decide
        · intro hm; have := ht _ hm; revert this; decide
theorem ut_most {r : RV} {t : List UInt8} (h : UT r t) : ∀ c ∈ t, c.toNat ≤ 57 := by
  rcases h with ⟨_, rfl⟩ | ⟨_, y, m, d, hv, _, rfl⟩
  · intro c hc; simp at hc
  · exact txt_most hv
theorem ruT_bar {r : RV} (h : Well r) : (124 : UInt8) ∉ ruT r := by
  obtain ⟨t, ht, e⟩ := ruT_ok h
  rw [e]
  exact join_no 124 32 (by decide) _ (words_bar h (ut_most ht))
theorem fT_bar {E : EV} (h : EW E) (k : Nat) : (124 : UInt8) ∉ fT E k := by
  match k with
  | 0 =>
    intro hm
    change (124 : UInt8) ∈ E.ti.data.toList at hm
    obtain ⟨j, hj, he⟩ := List.mem_iff_getElem.1 hm
    have := h.ti.1 j (by simpa using hj)
    unfold okt at this
    have e2 : E.ti[j]'(by simpa using hj) = 124 := by
      show E.ti.data[j] = 124
      simpa using he
    rw [e2] at this
    simp at this
  | 1 => exact dtx_no _ _ (by decide)
  | 2 => intro hm; have := itoa_digs _ (show 0 ≤ E.lg by have := h.bd.2.1; omega) _ hm; revert this; decide
  | 3 => exact ruT_bar h.rl
  | 4 => exact join_no 124 44 (by decide) _ (fun y hy => by obtain ⟨d, _, rfl⟩ := List.mem_map.1 hy; exact dtx_no _ _ (by decide))
  | k + 5 => exact join_no 124 44 (by decide) _ (fun y hy => by obtain ⟨d, _, rfl⟩ := List.mem_map.1 hy; exact mtx_no _ _ (by decide))
theorem id_bar {E : EV} (h : EW E) : (124 : UInt8) ∉ E.id.data.toList := by
  intro hm
  obtain ⟨j, hj, he⟩ := List.mem_iff_getElem.1 hm
  have := h.id.1 j (by simpa using hj)
  unfold okc at this
  have e2 : E.id[j]'(by simpa using hj) = 124 := by
    show E.id.data[j] = 124
    simpa using he
  rw [e2] at this
  simp at this
theorem fT_len {E : EV} (h : EW E) (h20 : E.ds.length ≤ 20) (k : Nat) : (fT E k).length ≤ 1000 := by
  obtain ⟨k20, m20, _⟩ := lk_of h.ls
  match k with
  | 0 => have := h.ti.2; show E.ti.data.toList.length ≤ _; rw [Array.length_toList]; have e : E.ti.data.size = E.ti.size := rfl; omega
  | 1 => have := dtx_len E.st; show (dtx _).length ≤ _; omega
  | 2 => have := itoa_len E.lg (by have := h.bd.2.1; omega) (by have := h.bd.2.2; omega); show (Lib.itoa _).length ≤ _; omega
  | 3 => obtain ⟨t, ht, e⟩ := ruT_ok h.rl; show (ruT _).length ≤ _; rw [e]; exact rtext_len h.rl ht h20
  | 4 =>
    have := joinLen (E.sk.map dtx) [44] 10 (fun y hy => by obtain ⟨x, _, rfl⟩ := List.mem_map.1 hy; exact dtx_len x)
    rw [List.length_map] at this
    have h31 : E.sk.length * (10 + [(44 : UInt8)].length) ≤ 20 * 11 := Nat.mul_le_mul k20 (by simp)
    show (Lib.join _ _).length ≤ _
    omega
  | k + 5 =>
    have := joinLen (E.mv.map mtx) [44] 21 (fun y hy => by obtain ⟨x, _, rfl⟩ := List.mem_map.1 hy; exact mtx_len x)
    rw [List.length_map] at this
    have h31 : E.mv.length * (21 + [(44 : UInt8)].length) ≤ 20 * 22 := Nat.mul_le_mul m20 (by simp)
    show (Lib.join _ _).length ≤ _
    omega

theorem textD_any (n : Int) (w : World) (h0 : 0 ≤ n) (h1 : n ≤ 73048) (ht : Tab w) :
    Calls Tryz.prog 90 #[.int .i64 n] w fun e w' => e = .returned (.string (bs (dtx n))) ∧ Below w.heap.size w w' := by
  obtain ⟨y, m, d, hv, hn, e⟩ := dtx_ok h0 h1
  rw [e]
  exact text_ok n y m d w hv hn ht

set_option maxHeartbeats 1000000 in
theorem moveText_any (a b : Int) (w : World) (ha0 : 0 ≤ a) (ha1 : a ≤ 73048) (hb0 : 0 ≤ b) (hb1 : b ≤ 73048) (ht : Tab w) :
    Calls Tryz.prog 95 #[.agg #[.int .i64 a, .int .i64 b]] w fun e w' => e = .returned (.string (bs (mtx (a, b)))) ∧ Below w.heap.size w w' := by
  have hA := below_alloc w (.cells #[.int .i64 a, .int .i64 b] 104)
  have x0 : (w.alloc (.cells #[.int .i64 a, .int .i64 b] 104)).cell? ⟨w.heap.size, 0, none⟩ = some (.int .i64 a) := by rw [World.cell?_alloc_new]; rfl
  have x1 : (w.alloc (.cells #[.int .i64 a, .int .i64 b] 104)).cell? ⟨w.heap.size, 1, none⟩ = some (.int .i64 b) := by rw [World.cell?_alloc_new]; rfl
  have T := ht.step hA
  have HM : Hid (bs (mtx (a, b)) = bs (dtx a) ++ ⟨#[62]⟩ ++ bs (dtx b)) := by
    show _ = _
    unfold mtx bs
    simp [ByteArray.mk_append_mk]
  have HA : Hid (_) := hA
  generalize hw0 : w.alloc (.cells #[.int .i64 a, .int .i64 b] 104) = w0 at x0 x1 T HA
  have X0 := cell_regrown x0
  have X1 := cell_regrown x1
  have T1 : Hid (∀ d os, Calls Tryz.prog 90 #[.int .i64 a] (grow (redrawn w0 d) os) fun r w'' => r = .returned (.string (bs (dtx a))) ∧ ∃ p : Regrown, w'' = grow (redrawn w0 p.d) p.os) := fun d os => Calls.regrown_of (textD_any a _ ha0 ha1 (T.step (below_regrown _ _ _)))
  have T2 : Hid (∀ d os, Calls Tryz.prog 90 #[.int .i64 b] (grow (redrawn w0 d) os) fun r w'' => r = .returned (.string (bs (dtx b))) ∧ ∃ p : Regrown, w'' = grow (redrawn w0 p.d) p.os) := fun d os => Calls.regrown_of (textD_any b _ hb0 hb1 (T.step (below_regrown _ _ _)))
  have hs1 : (bs (dtx a)).size ≤ 10 := by show (dtx a).toArray.size ≤ 10; simpa using dtx_len a
  have hs2 : (bs (dtx b)).size ≤ 10 := by show (dtx b).toArray.size ≤ 10; simpa using dtx_len b
  generalize bs (dtx a) = sa at T1 HM hs1
  generalize bs (dtx b) = sb at T2 HM hs2
  generalize bs (mtx (a, b)) = sm at HM ⊢
  have q1 : ¬ 9223372036854775807 < sa.size + 1 := by omega
  have q2 : ¬ 9223372036854775807 < sa.size + 1 + sb.size := by omega
  clear T hA ha0 ha1 hb0 hb1
  go_enter Tryz.func95, Tryz.ntmps95
  go_upto_region 1 with (fail)
  refine wp_region_quiet_below (by kernel_rfl) (by kernel_rfl) ?_
  repeat (quiet_step (first | (go_at_call_of 90 (Value.int .i64 a); exact T1.out _ _) | (go_at_call_of 90 (Value.int .i64 b); exact T2.out _ _)))
  refine wpQuiet_nil ?_
  intro w2 hw'
  have hb2 : Below w0.heap.size w0 w2 := by
    obtain ⟨⟨dq, osq⟩, hw''⟩ := hw'
    subst hw''
    exact below_regrown _ _ _
  clear hw' X0 X1 x0 x1
  go_wp2
  go_ret
  exact ⟨by rw [HM.out]; rfl, below_then HA.out hb2⟩

set_option maxHeartbeats 1600000 in
set_option maxRecDepth 100000 in
theorem listTextM_any (ms : List (Int × Int)) (sl : Value) (w : World) (hd : Movs w sl ms) (h20 : ms.length ≤ 60) (hv : ∀ m ∈ ms, (0 ≤ m.1 ∧ m.1 ≤ 73048) ∧ 0 ≤ m.2 ∧ m.2 ≤ 73048) (ht : Tab w) :
    Calls Tryz.prog 94 #[sl, .func (.func 95) #[] #[]] w fun r w' => r = .returned (.string (bs (Lib.join (ms.map mtx) [44]))) ∧ Below w.heap.size w w' := by
  obtain ⟨a, cap, rfl, _, hcap, hcell⟩ := hd
  obtain ⟨i0, hi, hz0, hz1, hz2⟩ := info_parts info_str
  have HC : Hid (_) := hcell
  have HV : Hid (_) := hv
  have HT : Hid (Tab w) := ht
  clear hcell hv ht
  go_enter Tryz.func94, Tryz.ntmps94
  go_wp2
  go_loopw [5, 7, 10] (fun v _ i wr => ∃ m : Nat, m ≤ ms.length ∧ i = .int .i64 m ∧ Hid (TR w wr v ((ms.map mtx).take m))) (fun _ _ i _ => ms.length - (intOf i).toNat)
  case atStart => exact ⟨0, Nat.zero_le _, rfl, TR.nil w⟩
  case round =>
    obtain ⟨m, hm, rfl, HO⟩ := hrel
    by_cases hlt : m < ms.length
    · obtain ⟨blk, rfl, hblk, hcl, hcl'⟩ := HC.out m hlt
      have hc1 := cell_step hcl HO.out.below
      have hc2 := cell_step hcl' HO.out.below
      have HN : Hid ((ms.map mtx).take (m + 1) = (ms.map mtx).take m ++ [mtx ms[m]]) := by
        show _ = _
        rw [List.take_succ_eq_append_getElem (by simpa using hlt)]; simp
      obtain ⟨⟨v1, v2⟩, v3, v4⟩ := HV.out ms[m] (List.getElem_mem hlt)
      have hlen : ((ms.map mtx).take m).length = m := by simp; omega
      clear HC HV hcl hcl'
      generalize ms[m] = x at hc1 hc2 HN v1 v2 v3 v4
      obtain ⟨xa, xb⟩ := x
      dsimp only at hc1 hc2 v1 v2 v3 v4
      have hA := below_alloc wr (.cells #[.int .i64 xa, .int .i64 xb] 104)
      have hcall := moveText_any xa xb _ v1 v2 v3 v4 (HT.out.step (below_then HO.out.below hA))
      have hn0 : (wr.alloc (.cells #[.int .i64 xa, .int .i64 xb] 104)).cell? ⟨wr.heap.size, 0, none⟩ = some (.int .i64 xa) := by rw [World.cell?_alloc_new]; rfl
      have hn1 : (wr.alloc (.cells #[.int .i64 xa, .int .i64 xb] 104)).cell? ⟨wr.heap.size, 1, none⟩ = some (.int .i64 xb) := by rw [World.cell?_alloc_new]; rfl
      generalize (ms.map mtx).take m = L at HO HN hlen
      obtain ⟨oa, oc, rfl⟩ := HO.out.form
      rw [hlen] at HO
      have HLN : Hid (L.length = m) := hlen
      have HCL : Hid (Calls _ _ _ _ _) := hcall
      have HA : Hid (Below wr.heap.size wr (wr.alloc (.cells #[.int .i64 xa, .int .i64 xb] 104))) := hA
      generalize hbt : bs (mtx (xa, xb)) = bt at HCL
      have HBT : Hid (bs (mtx (xa, xb)) = bt) := hbt
      clear hlen hcall hbt hA v1 v2 v3 v4
      rw [HLN.out]
      go_upto_region 5 with (fail)
      generalize wr.alloc (.cells #[.int .i64 xa, .int .i64 xb] 104) = wq at HCL HA hn0 hn1
      clear hc1 hc2
      go_wp2_with (first
        | (go_at_call 95; refine Calls.mono HCL.out ?_; rintro r w2 ⟨rfl, hb2⟩; have T2 : Hid (TR w w2 (.slice oa m oc) L) := HO.out.step (below_then HA.out hb2); have NC : Hid (_) := word_cell w2 bt; have hz2' : w.heap.size ≤ w2.heap.size := T2.out.below.size)
        | (at_builtin; refine wpList_append_own _ rfl _ _ 36 rfl w.heap.size 9 i0 (.string ⟨#[]⟩) 1 16 Tryz.underlying36 hi hz0 hz1 hz2 rfl (by decide) _ _ _ rfl (show World.ownsRow _ _ _ _ _ m (L.map sv) by have := T2.out.own.alloc (.cells #[.string bt] 9); rwa [HLN.out] at this) ⟨w2.heap.size, 0, none⟩ 1 1 [.string bt] rfl rfl NC.out (fun v hv => by rw [List.mem_singleton.1 hv]; rfl) (by unfold maxLen; omega) (by omega) (by simp; omega) ?_; intro v' w3 hown' hgrow _; have T3 : Hid (TR w w3 v' (L ++ [mtx (xa, xb)])) := TR.app [mtx (xa, xb)] T2.out (by rw [List.length_append, HLN.out]; rfl) (by rw [List.map_append, ← HBT.out]; rfl) hown' hgrow; obtain ⟨g', cap', rfl⟩ := ownsRow_succ hown'; clear hown' hgrow)
        | go_in)
      go_roundw
      case rel => exact ⟨m + 1, by omega, by go_num, by rw [HN.out]; exact T3.out⟩
      case measure => simp [intOf]; omega
    · have HE : Hid ((ms.map mtx).take m = ms.map mtx) := List.take_of_length_le (by simp; omega)
      rw [HE.out] at HO
      have hle : (Lib.join (ms.map mtx) [44]).length ≤ 100000 := by
        have := joinLen (ms.map mtx) [44] 21 (fun y hy => by obtain ⟨x, hx, rfl⟩ := List.mem_map.1 hy; exact mtx_len x)
        rw [List.length_map] at this
        have h31 : ms.length * (21 + [(44 : UInt8)].length) ≤ 60 * 22 := Nat.mul_le_mul h20 (by simp)
        omega
      have J : Hid (_) := joins_any w _ (ms.map mtx) [44] wr HO.out (by simp; omega) hle
      obtain ⟨oa, oc, rfl⟩ := HO.out.form
      rw [List.length_map] at HO J ⊢
      clear HC HT HV hle
      unfold bs at J
      go_wp2_with (go_at_call 62; refine Calls.mono J.out ?_; rintro r w2 ⟨rfl, hb2⟩)
      go_ret
      exact ⟨rfl, below_then HO.out.below hb2⟩

theorem get_any (E : EV) (sl skv mvv : Value) (k : Nat) (hk : k < 6) (w : World) (g : GlobR w) (hd : Days w sl E.ds) (hs : Ints w skv E.sk) (hm : Movs w mvv E.mv) (hw : EW E) :
    Calls Tryz.prog 61 #[ev E sl skv mvv, .string (fldB k)] w fun r w' => r = .returned (.string (bs (fT E k))) ∧ Below w.heap.size w w' := by
  obtain ⟨k20, m20, _, _, kd, md, _⟩ := lk_of hw.ls
  obtain ⟨ra, rc, e1, h20, _⟩ := id hd
  obtain ⟨sa, sc, e2, _⟩ := id hs
  obtain ⟨ma, mc, e3, _⟩ := id hm
  match k, hk with
  | 0, _ =>
    subst e1 e2 e3
    exact get_title E ra _ rc sa _ sc ma _ mc w
  | 1, _ =>
    subst e1 e2 e3
    exact get_start E ra _ rc sa _ sc ma _ mc _ w (fun W hW => textD_any E.st W hw.bd.1.1 hw.bd.1.2 (g.tab.step hW))
  | 2, _ =>
    subst e1 e2 e3
    exact get_long E ra _ rc sa _ sc ma _ mc _ w (fun W hW => itoa_any E.lg W (by have := hw.bd.2.1; omega) (by have := hw.bd.2.2; omega) (g.tab.step hW))
  | 3, _ =>
    obtain ⟨t, ht, e⟩ := ruT_ok hw.rl
    show Calls _ _ _ _ fun r w' => r = .returned (.string (bs (ruT _))) ∧ _
    rw [e]
    subst e1 e2 e3
    exact get_rule E ra _ rc sa _ sc ma _ mc _ w (fun W hW => rtext_any E.f E.e _ E.c E.u E.ds t W (g.step hW) (hd.step hW) hw.rl ht)
  | 4, _ =>
    subst e1 e2 e3
    exact get_skips E ra _ rc sa _ sc ma _ mc _ w (fun W hW => listTextI_any E.sk _ dtx W (hs.step hW) (by omega) (fun x _ => by have := dtx_len x; omega) (fun x hx W' hW' => textD_any x W' (kd x hx).1 (kd x hx).2 ((g.tab.step hW).step hW')))
  | 5, _ =>
    subst e1 e2 e3
    exact get_moves E ra _ rc sa _ sc ma _ mc _ w (fun W hW => listTextM_any E.mv _ W (hm.step hW) (by omega) md (g.tab.step hW))

/-- the parts of an event's text -/
noncomputable def pT (E : EV) : List (List UInt8) := [fT E 0, fT E 1, fT E 2, fT E 3, fT E 4, fT E 5]
theorem pT_at (E : EV) (k : Nat) (hk : k < 6) : (pT E).getD k [] = fT E k := by
  match k, hk with
  | 0, _ => rfl
  | 1, _ => rfl
  | 2, _ => rfl
  | 3, _ => rfl
  | 4, _ => rfl
  | 5, _ => rfl
/-- an event's text -/
noncomputable def eT (E : EV) : List UInt8 := Lib.join (E.id.data.toList :: pT E) [124]
theorem pT_mem {E : EV} {x : List UInt8} (h : x ∈ pT E) : ∃ k, k < 6 ∧ x = fT E k := by
  unfold pT at h
  simp only [List.mem_cons, List.not_mem_nil, or_false] at h
  rcases h with h | h | h | h | h | h
  · exact ⟨0, by omega, h⟩
  · exact ⟨1, by omega, h⟩
  · exact ⟨2, by omega, h⟩
  · exact ⟨3, by omega, h⟩
  · exact ⟨4, by omega, h⟩
  · exact ⟨5, by omega, h⟩
theorem eT_pieces {E : EV} (h : EW E) : pieces 124 (eT E) = E.id.data.toList :: pT E := by
  refine pieces_join 124 _ (by simp) (fun x hx => ?_)
  rcases List.mem_cons.1 hx with rfl | hx
  · exact id_bar h
  · obtain ⟨k, _, rfl⟩ := pT_mem hx
    exact fT_bar h k
theorem eT_len {E : EV} (h : EW E) (h20 : E.ds.length ≤ 20) : (eT E).length ≤ 10000 := by
  have := joinLen (E.id.data.toList :: pT E) [124] 1000 (fun y hy => by
    rcases List.mem_cons.1 hy with rfl | hy
    · have := h.id.2.2; rw [Array.length_toList]; have e : E.id.data.size = E.id.size := rfl; omega
    · obtain ⟨k, _, rfl⟩ := pT_mem hy; exact fT_len h h20 k)
  exact Nat.le_trans this (by simp [pT])
theorem etext_any (E : EV) (sl skv mvv : Value) (s : Nat → Addr) (w : World) (gk : GlobK s w) (g : GlobR w) (hd : Days w sl E.ds) (hs : Ints w skv E.sk) (hm : Movs w mvv E.mv) (hw : EW E) :
    Calls Tryz.prog 35 #[ev E sl skv mvv] w fun r w' => r = .returned (.string (bs (eT E))) ∧ Below w.heap.size w w' := by
  have h20 : E.ds.length ≤ 20 := by obtain ⟨_, _, _, h, _⟩ := hd; exact h
  refine etext_of E sl skv mvv (pT E) s w gk hd hs hm (by have := hw.id.2.2; omega) (by have := hw.ti.2; omega) hw rfl (fun p hp => ?_) (fun i hi W hW => ?_)
  · obtain ⟨k, _, rfl⟩ := pT_mem hp; have := fT_len hw h20 k; omega
  · rw [pT_at E i hi]; exact get_any E sl skv mvv i hi W (g.step hW) (hd.step hW) (hs.step hW) (hm.step hW) hw
end Go.Proofs.YtnpecjccajebiaaGreatDoor

/- Package book's Text: the events' texts, a line each. -/
namespace Go.Proofs.YtnpecjccajebiaaGreatDoor
open Go Go.RowKit Go.Maps Go.Shelf Cal
attribute [local go_sem] Oper.semAt_some

/-- a calendar's text -/
noncomputable def bkT (C : List EV) : List UInt8 := C.flatMap fun E => eT E ++ [10]
theorem bkT_len {C : List EV} (h : ∀ E ∈ C, EW E ∧ E.ds.length ≤ 20) : (bkT C).length ≤ C.length * 10001 := by
  induction C with
  | nil => simp [bkT]
  | cons E r ih =>
    have h1 := eT_len (h E (List.mem_cons_self)).1 (h E (List.mem_cons_self)).2
    have h2 := ih (fun F hF => h F (List.mem_cons_of_mem _ hF))
    have e : bkT (E :: r) = eT E ++ [10] ++ bkT r := rfl
    rw [e, List.length_append, List.length_append, List.length_cons]
    simp only [List.length_cons, List.length_nil]
    omega
theorem bkT_snoc (C : List EV) (E : EV) : bkT (C ++ [E]) = bkT C ++ eT E ++ [10] := by
  unfold bkT
  rw [List.flatMap_append, List.flatMap_cons, List.flatMap_nil, List.append_nil, List.append_assoc]

theorem builder_step {T e : TypeId} {B b : Nat} {l : List Value} {w w' : World} (h : Lib.IsBuilderF T e B b l w) (hb : Below w.heap.size w w') : Lib.IsBuilderF T e B b l w' := by
  have key : ∀ p, Lib.BuilderAtF T e B b p l w → Lib.BuilderAtF T e B b p l w' := fun p ⟨h1, v, h2, h3, h4⟩ => ⟨h1, v, (hb.block _ (Array.getElem?_eq_some_iff.1 h2).1).trans h2, h3.kept (grown_below hb none) (by cases v.ownBlock <;> simp), h4⟩
  exact h.imp (key _) (key _)
theorem bwrite (B b : Nat) (l : List UInt8) (x : ByteArray) (w : World) (h : Lib.IsBuilderF 75 5 B b (Lib.byteCells l) w) (hlen : l.length + x.size ≤ 140737488355328) (hB : B ≤ w.heap.size) :
    Calls Tryz.prog 34 #[.pointer (some ⟨b, 0, none⟩), .string x] w fun r w' => r = .returned (.tuple #[.int .i64 x.size, .nilIface]) ∧ Lib.IsBuilderF 75 5 B b (Lib.byteCells (l ++ x.data.toList)) w' ∧ Below B w w' ∧ Lib.OthersKept 5 (some b) w w' := by
  refine Calls.mono (Any.Builder_WriteString_k { Tryz.lays156 with } Tryz.Builder_Extra_156 B b (Lib.byteCells l) x w h (by rw [Lib.byteCells_length]; exact hlen) hB) ?_
  rintro r w' ⟨rfl, h1, h2, h3⟩
  refine ⟨rfl, .inr ?_, h2, h3⟩
  rw [Lib.byteCells_append, ← Lib.strCells_eq]
  exact h1
theorem bstring (B b : Nat) (l : List UInt8) (w : World) (h : Lib.IsBuilderF 75 5 B b (Lib.byteCells l) w) (hB : B ≤ w.heap.size) :
    Calls Tryz.prog 36 #[.pointer (some ⟨b, 0, none⟩)] w fun r w' => r = .returned (.string (bs l)) ∧ Below B w w' := by
  refine Calls.mono (Any.Builder_String_any_k { Tryz.lays156 with } Tryz.Builder_Extra_156 B b l w h hB) ?_
  rintro r w' ⟨rfl, h1, h2, h3⟩
  exact ⟨rfl, h2⟩
/-- a row of texts stays while a builder is written -/
theorem rowS_kept {W W' : World} {B b cap : Nat} {l : List ByteArray} (h : RowS W B cap l) (hk : Lib.OthersKept 5 (some b) W W') (hne : B ≠ b) : RowS W' B cap l := by
  obtain ⟨⟨cur, h1, h2, h3⟩, h4⟩ := h
  exact ⟨⟨cur, hk B _ h1 (fun q => hne (Option.some.inj q)) (fun c fz q => by injection q with _ q2 _; exact absurd q2 (by decide)), h2, h3⟩, h4⟩

set_option maxHeartbeats 2000000 in
set_option maxRecDepth 100000 in
theorem btext_C (lo bb n : Nat) (mo : Option Nat) (C : List EV) (s : Nat → Addr) (w : World) (gk : GlobK s w) (g : GlobR w) (h : BookAt lo w bb mo n C) (hn : n ≤ 100000) (hC : C.length ≤ 60) :
    Calls Tryz.prog 9 #[.pointer (some ⟨bb, 0, none⟩)] w fun r w' => r = .returned (.string (bs (bkT C))) ∧ Below w.heap.size w w' := by
  have hbk := h
  obtain ⟨D, h1, h2, h3, h4⟩ := h
  have hw20 : ∀ E ∈ C, EW E ∧ E.ds.length ≤ 20 := fun E hE => (h4.at_ E hE).1
  have AL : Hid (Calls _ _ _ _ _) := all_any bb mo n D w h1
  have hA := below_alloc w (.cells #[.pointer none, .slice none 0 0] 75)
  have ID : Hid (Calls _ _ _ _ _) := ids_C lo bb n mo C _ (hbk.step hA) hn
  have HBD : Hid (Lib.IsBuilderF 75 5 w.heap.size w.heap.size (Lib.byteCells []) (w.alloc (.cells #[.pointer none, .slice none 0 0] 75))) := Lib.IsBuilderF.of (Lib.fresh_isBuilder _ _ w)
  have HA : Hid (_) := hA
  have hz : (w.alloc (.cells #[.pointer none, .slice none 0 0] 75)).heap.size = w.heap.size + 1 := World.size_alloc _ _
  have HZ : Hid (_) := hz
  have HBK : Hid (Bok w bb mo n D) := h1
  generalize htx : bs (bkT C) = tx
  have HTX : Hid (bs (bkT C) = tx) := htx
  clear htx
  have HH : Hid (Holds (NotIn lo bb mo) w D C) := h4
  have HW20 : Hid (_) := hw20
  have GK : Hid (GlobK s w) := gk
  have G : Hid (GlobR w) := g
  have hLn : (bkT C).length ≤ 1000000 := by have := bkT_len hw20; omega
  clear hA hz h1 h4 hw20 gk g hbk
  go_enter Tryz.func9, Tryz.ntmps9
  generalize hw0 : w.alloc (.cells #[.pointer none, .slice none 0 0] 75) = w0 at ID HBD HA HZ
  have hL2 : (C.map EV.id).length ≤ 80000 := by rw [List.length_map]; omega
  go_wp2_with (first
    | (go_at_call 33; refine Calls.mono AL.out ?_; rintro r w' ⟨rfl, hq⟩; have hq := hq.symm; subst hq)
    | (go_at_call 12; refine Calls.mono ID.out ?_; rintro r w1 ⟨vid, rfl, hrid, hb1⟩; have HRID : Hid (RowV w0.heap.size w1 vid (C.map EV.id)) := hrid; obtain ⟨ia, ic, rfl, _, hcl, _⟩ := hrid.txs hL2))
  have B1 : Hid (Below w.heap.size w w1) := below_then HA.out hb1
  have HBD1 : Hid (Lib.IsBuilderF 75 5 w.heap.size w.heap.size (Lib.byteCells (bkT [])) w1) := builder_step HBD.out hb1
  have hs1 : w.heap.size + 1 ≤ w1.heap.size := by rw [← HZ.out]; exact hb1.size
  rw [List.length_map] at hcl
  have HROW : Hid (∀ W, Below w1.heap.size w1 W → (C.length = 0 ∨ ∃ ib, ia = some ⟨ib, 0, none⟩ ∧ w.heap.size < ib ∧ RowS W ib ic (C.map EV.id))) := fun W hW => by
    rcases HRID.out with ⟨q1, q2⟩ | ⟨ib, cap, q1, q2, q3⟩
    · left
      have := congrArg List.length q2
      simpa using this
    · right
      have hz := HZ.out
      have e1 : ia = some ⟨ib, 0, none⟩ ∧ ic = cap := by
        rw [List.length_map] at q1
        injection q1 with a1 a2 a3
        exact ⟨a1, a3⟩
      exact ⟨ib, e1.1, by omega, by rw [e1.2]; exact q3.step hW⟩
  clear AL ID HBD hb1 hrid HRID
  go_loopw [12] (fun i wr => ∃ m : Nat, m ≤ C.length ∧ i = .int .i64 m ∧ Hid (Below w.heap.size w wr) ∧ Hid (w.heap.size + 1 ≤ wr.heap.size) ∧ Hid (Lib.IsBuilderF 75 5 w.heap.size w.heap.size (Lib.byteCells (bkT (C.take m))) wr) ∧ Hid (C.length = 0 ∨ ∃ ib, ia = some ⟨ib, 0, none⟩ ∧ w.heap.size < ib ∧ RowS wr ib ic (C.map EV.id))) (fun i _ => C.length - (intOf i).toNat)
  case atStart => exact ⟨0, Nat.zero_le _, rfl, B1.out, hs1, HBD1.out, HROW.out _ (Below.refl _ _)⟩
  case round =>
    obtain ⟨m, hm, rfl, HB, HS, HBD, HR⟩ := hrel
    by_cases hlt : m < C.length
    · obtain ⟨ib, rfl, hib, hrow⟩ : ∃ ib, ia = some ⟨ib, 0, none⟩ ∧ w.heap.size < ib ∧ RowS wr ib ic (C.map EV.id) := by
        rcases HR.out with q | q
        · omega
        · exact q
      have hcr := hrow.cell m (by rw [List.length_map]; exact hlt)
      rw [List.getElem_map] at hcr
      have hE : C[m] ∈ C := List.getElem_mem hlt
      obtain ⟨⟨hw, h20⟩, sl, skv, mvv, q1, q2⟩ := HH.out.at_ C[m] hE
      obtain ⟨i12, _, _, _⟩ := ew_bd hw
      have q2' := q2.step HB.out
      have ET : Hid (Calls Tryz.prog 35 #[ev C[m] sl skv mvv] wr fun r w' => r = .returned (.string (bs (eT C[m]))) ∧ Below wr.heap.size wr w') := etext_any C[m] sl skv mvv s wr (GK.out.step HB.out) (G.out.step HB.out) (q2'.ls h20).d (q2'.ls h20).s (q2'.ls h20).m hw
      obtain ⟨a1, c1, rfl, _⟩ := q2.d
      obtain ⟨a2, c2, rfl, _⟩ := q2.s
      obtain ⟨a3, c3, rfl, _⟩ := q2.m
      unfold ev at ET q1
      have LK := look1_eq (HBK.out.step HB.out) (show C[m].id.size ≤ 1000 by omega) q1
      have HTK : Hid (bkT (C.take (m + 1)) = bkT (C.take m) ++ eT C[m] ++ [10]) := by
        show _ = _
        rw [List.take_succ_eq_append_getElem hlt, bkT_snoc]
      have hl1 : (bkT (C.take m)).length ≤ 1000000 := by
        have := bkT_len (C := C.take m) (fun F hF => HW20.out F (List.mem_of_mem_take hF))
        rw [List.length_take] at this
        omega
      have hl2 : (eT C[m]).length ≤ 10000 := eT_len hw h20
      have hl2' : (bs (eT C[m])).size = (eT C[m]).length := by rw [Lib.size_eq, bs_data]
      have HROWr : Hid (RowS wr ib ic (C.map EV.id)) := hrow
      clear HR q1 q2 q2' hw h20 hE hrow
      generalize C[m] = E at hcr ET LK HTK hl2 hl2' i12
      generalize bkT (C.take m) = acc at HBD HTK hl1
      generalize hx : bs (eT E) = x at ET hl2'
      have HX : Hid (x.data.toList = eT E) := by show _ = _; rw [← hx, bs_data]
      clear hx
      have HBW : Hid (∀ (W : World), Below wr.heap.size wr W → Calls Tryz.prog 34 #[.pointer (some ⟨w.heap.size, 0, none⟩), .string x] W fun r w' => r = .returned (.tuple #[.int .i64 x.size, .nilIface]) ∧ Lib.IsBuilderF 75 5 w.heap.size w.heap.size (Lib.byteCells (acc ++ x.data.toList)) w' ∧ Below w.heap.size W w' ∧ Lib.OthersKept 5 (some w.heap.size) W w') := fun W hW => bwrite w.heap.size w.heap.size acc x W (builder_step HBD.out hW) (by omega) (Nat.le_trans (by have := HS.out; omega) hW.size)
      go_upto_region 7 with (first
        | (go_at_call 35; refine Calls.mono ET.out ?_; rintro r w2 ⟨rfl, hb2⟩; have BW2 : Hid (Calls _ _ _ _ _) := HBW.out w2 hb2; have HB2 : Hid (Below wr.heap.size wr w2) := hb2)
        | (go_at_call 34; refine Calls.mono BW2.out ?_; rintro r w3 ⟨rfl, hbd3, hb3, hk3⟩))
      have HS3 : Hid (w.heap.size + 1 ≤ w3.heap.size) := Nat.le_trans HS.out (Nat.le_trans HB2.out.size hb3.size)
      have hlx : (acc ++ x.data.toList).length + (⟨#[10]⟩ : ByteArray).size ≤ 140737488355328 := by
        have : (⟨#[10]⟩ : ByteArray).size = 1 := rfl
        rw [List.length_append, HX.out, this]
        omega
      have BW3 : Hid (Calls _ _ _ _ _) := bwrite w.heap.size w.heap.size (acc ++ x.data.toList) ⟨#[10]⟩ w3 hbd3 hlx (by have := HS3.out; omega)
      have HB3 : Hid (_) := hb3
      have HK3 : Hid (_) := hk3
      clear hbd3 hb3 hk3 hlx
      go_wp2_with (go_at_call 34; refine Calls.mono BW3.out ?_; rintro r w4 ⟨rfl, hbd4, hb4, hk4⟩)
      go_roundw
      case rel =>
        have hz := HS.out
        have hz3 := HS3.out
        have hbb : Below w.heap.size w w3 := ⟨HB3.out.os.trans ((below_then HB.out HB2.out).os), HB3.out.tape.trans ((below_then HB.out HB2.out).tape), HB3.out.output.trans ((below_then HB.out HB2.out).output), by omega, fun k hk => (HB3.out.block k hk).trans ((below_then HB.out HB2.out).block k hk)⟩
        have hb4' : Below w.heap.size w w4 := ⟨hb4.os.trans hbb.os, hb4.tape.trans hbb.tape, hb4.output.trans hbb.output, Nat.le_trans hbb.size hb4.size, fun k hk => (hb4.block k hk).trans (hbb.block k hk)⟩
        refine ⟨m + 1, by omega, by go_num, hb4', Nat.le_trans hz3 hb4.size, ?_, .inr ⟨ib, rfl, hib, rowS_kept (rowS_kept (HROWr.out.step HB2.out) HK3.out (by omega)) hk4 (by omega)⟩⟩
        show Lib.IsBuilderF _ _ _ _ (Lib.byteCells (bkT (C.take (m + 1)))) w4
        rw [HTK.out, ← HX.out]
        exact hbd4
      case measure => simp [intOf]; omega
    · have hfin : C.take m = C := List.take_of_length_le (by omega)
      have HBE : Hid (Calls Tryz.prog 36 #[.pointer (some ⟨w.heap.size, 0, none⟩)] wr fun r w' => r = .returned (.string (bs (bkT C))) ∧ Below w.heap.size wr w') := by
        have := HBD.out
        rw [hfin] at this
        exact bstring w.heap.size w.heap.size (bkT C) wr this (by have := HS.out; omega)
      clear HR HBD hfin
      rw [HTX.out] at HBE
      go_wp2_with (go_at_call 36; refine Calls.mono HBE.out ?_; rintro r w5 ⟨rfl, hb5⟩)
      go_ret
      exact ⟨rfl, ⟨hb5.os.trans HB.out.os, hb5.tape.trans HB.out.tape, hb5.output.trans HB.out.output, Nat.le_trans HB.out.size hb5.size, fun k hk => (hb5.block k hk).trans (HB.out.block k hk)⟩⟩
end Go.Proofs.YtnpecjccajebiaaGreatDoor

/- Package book's Same: by the texts. -/
namespace Go.Proofs.YtnpecjccajebiaaGreatDoor
open Go Go.RowKit Cal
attribute [local go_sem] Oper.semAt_some

theorem same_C (a b : Value) (ta tb : ByteArray) (w : World) (ha : Calls Tryz.prog 9 #[a] w fun r w' => r = .returned (.string ta) ∧ Below w.heap.size w w')
    (hb : ∀ W, Below w.heap.size w W → Calls Tryz.prog 9 #[b] W fun r w' => r = .returned (.string tb) ∧ Below W.heap.size W w') :
    Calls Tryz.prog 11 #[a, b] w fun r w' => r = .returned (.bool (ta.toList == tb.toList)) ∧ Below w.heap.size w w' := by
  have HA : Hid (Calls _ _ _ _ _) := ha
  have HB : Hid (∀ W, Below w.heap.size w W → Calls Tryz.prog 9 #[b] W fun r w' => r = .returned (.string tb) ∧ Below W.heap.size W w') := hb
  clear ha hb
  go_enter Tryz.func11, Tryz.ntmps11
  go_wp2_with fail
  go_at_call 9
  refine Calls.mono HA.out ?_
  rintro r w1 ⟨rfl, hb1⟩
  have HB1 : Hid (Calls _ _ _ _ _) := HB.out w1 hb1
  go_wp2_with (go_at_call 9; refine Calls.mono HB1.out ?_; rintro r w2 ⟨rfl, hb2⟩)
  go_ret
  exact ⟨rfl, below_then hb1 hb2⟩
end Go.Proofs.YtnpecjccajebiaaGreatDoor

/- What the rows' lists of package-level variables give: the names of the days. -/
namespace Go.Proofs.YtnpecjccajebiaaGreatDoor
open Go.ChangeShapes Go.WideShapes Go.ChangeAt Go.RowKit Cal

theorem gNames : Tryz.prog.globalNamed "lammastide/rule.dayNames" = some 12 := by kernel_rfl
theorem tNames : (Tryz.prog.globals[12]?).map (·.type) = some 224 := by kernel_rfl
theorem cNames : Tryz.prog.cellsOf 224 = 7 := by kernel_rfl

/-- an array of texts that reads as the list: its cells -/
theorem cells_of_texts {H : Type} {enc : TypeId × Value → H} {P : Program} {w : World} {base : Nat} {sp : Nat → Bool} {held : Bool} {fuel : Nat} {t e : TypeId} {n : Nat} {cs : List Value} {zs : List (List UInt8)} {p : List MemPlace}
    (ht : P.underlying t = some (.array n e)) (he : P.underlying e = some .string) (hce : P.cellsOf e = 1) (hct : P.cellsOf t = n)
    (h : DataW.trod enc P w base sp held fuel t cs = some (.agg (zs.map fun z => .lit (.string z)), p)) (i : Nat) (z : List UInt8) (hz : zs[i]? = some z) : cs[i]? = some (.string ⟨z.toArray⟩) := by
  cases fuel with
  | zero => simp [DataW.trod] at h
  | succ fuel =>
    simp only [DataW.trod, ht, hce, hct, Nat.mul_one] at h
    split at h
    · rename_i hl
      obtain ⟨xs, hm, hx⟩ := Option.map_eq_some_iff.1 h
      have hxs : xs.map (·.1) = zs.map fun z => (DataW.lit (.string z) : DataW H) := by
        have := congrArg Prod.fst hx
        simpa using this
      have hxl : xs.length = n := by simpa using Lib.mapM_length hm
      have hzl : zs.length = n := by
        have := congrArg List.length hxs
        simp at this
        omega
      have hi : i < n := by
        have := (List.getElem?_eq_some_iff.1 hz).1
        omega
      obtain ⟨b, hb, hf⟩ := Lib.mapM_at hm i i (by simp [hi])
      obtain ⟨s, hc, rfl, _⟩ := DataW.trod_string he hf
      have h1 : cs[i]? = some (.string s) := by
        have := congrArg (·[0]?) hc
        simpa [List.getElem?_take, List.getElem?_drop] using this
      have h2 : (xs.map (·.1))[i]? = some (DataW.lit (.string s.data.toList) : DataW H) := by simp [hb]
      rw [hxs, List.getElem?_map, hz] at h2
      simp only [Option.map_some, Option.some.injEq, DataW.lit.injEq, Lit.string.injEq] at h2
      rw [h1, h2]
    · cases h
theorem names_of {r : List (String × DataW Unit)} {W : World} (h : laidMet Tryz.prog (("lammastide/rule.dayNames", Rows.laid_lammastide_rule_dayNames) :: r) W) (d : Nat) (hd : d < 7) :
    W.cell? ⟨12, d, none⟩ = some (.string ⟨(nm d).toArray⟩) := by
  obtain ⟨ps, ⟨g', t', cs, fuel, p, q, hg', ht', hvar, hd', _, _⟩, _⟩ := h
  obtain rfl := Option.some.inj (gNames.symm.trans hg')
  obtain rfl := Option.some.inj (tNames.symm.trans ht')
  have hc := cells_of_texts (zs := [nm 0, nm 1, nm 2, nm 3, nm 4, nm 5, nm 6]) Tryz.underlying224 Tryz.underlying9 cStr cNames hd' d (nm d) (by
    match d, hd with
    | 0, _ => rfl
    | 1, _ => rfl
    | 2, _ => rfl
    | 3, _ => rfl
    | 4, _ => rfl
    | 5, _ => rfl
    | 6, _ => rfl)
  rw [World.var?_cell gNames hvar d]
  simpa using hc
end Go.Proofs.YtnpecjccajebiaaGreatDoor
