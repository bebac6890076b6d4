/- Plain mathematics of texts that grow sign by sign: a list's text place by place, a rule's, an event's. -/
import Derived.Test.YtfdojecdnieccaaGreatDoorJbE
import Derived.Test.YtfdojecdnieccaaGreatDoorJbA
import Derived.Test.YtfdojecdnieccaaGreatDoorJaI
import Derived.Test.YtfdojecdnieccaaGreatDoorExpE2J
import Derived.Test.YtfdojecdnieccaaGreatDoorBoZJ
import Derived.Deep.RegionHeld3
import Derived.Deep.RegionWith
import Derived.Lib.QuietBelow
namespace Go.Proofs.YtfdojecdnieccaaGreatDoor
open Go Cal

/-- the text of the first m parts of a list -/
def joinTo (l : List (List UInt8)) (m : Nat) : List UInt8 := Lib.join (l.take m) [44]
theorem joinTo_zero (l : List (List UInt8)) : joinTo l 0 = [] := rfl
theorem join_snoc (c : UInt8) (x y : List UInt8) (l : List (List UInt8)) : Lib.join ((x :: l) ++ [y]) [c] = Lib.join (x :: l) [c] ++ c :: y := by
  rw [List.cons_append, Lib.join_cons, Lib.join_cons]
  unfold Lib.joinTail
  simp
theorem joinTo_one (l : List (List UInt8)) (h : 0 < l.length) : joinTo l 1 = l[0] := by
  unfold joinTo
  rw [List.take_succ_eq_append_getElem h, List.take_zero, List.nil_append, Lib.join_one]
theorem joinTo_succ (l : List (List UInt8)) (m : Nat) (hm : 0 < m) (h : m < l.length) : joinTo l (m + 1) = joinTo l m ++ 44 :: l[m] := by
  unfold joinTo
  rw [List.take_succ_eq_append_getElem h]
  obtain ⟨x, r, hx⟩ : ∃ x r, l.take m = x :: r := by
    cases hq : l.take m with
    | nil =>
      have : (l.take m).length = 0 := by rw [hq]; rfl
      rw [List.length_take] at this
      omega
    | cons x r => exact ⟨x, r, rfl⟩
  rw [hx, join_snoc]
theorem joinTo_all (l : List (List UInt8)) (m : Nat) (h : l.length ≤ m) : joinTo l m = Lib.join l [44] := by
  unfold joinTo
  rw [List.take_of_length_le h]
theorem joinTo_len (l : List (List UInt8)) (m K : Nat) (h : ∀ x ∈ l, x.length ≤ K) : (joinTo l m).length ≤ l.length * (K + 1) := by
  unfold joinTo
  have h1 := joinLen (l.take m) [44] K (fun y hy => h y (List.mem_of_mem_take hy))
  have h2 : (l.take m).length ≤ l.length := by rw [List.length_take]; omega
  exact Nat.le_trans h1 (Nat.mul_le_mul h2 (by simp))

/-- a rule's days, as they stand in its text -/
def dP (ds : List Int) (m : Nat) : List UInt8 := if m = 0 then [] else 32 :: joinTo (ds.map nm) m
theorem dP_one (ds : List Int) (h : 0 < ds.length) : dP ds 1 = 32 :: nm ds[0] := by
  unfold dP
  rw [if_neg (by omega), joinTo_one _ (by simpa using h), List.getElem_map]
theorem dP_succ (ds : List Int) (m : Nat) (hm : 0 < m) (h : m < ds.length) : dP ds (m + 1) = dP ds m ++ 44 :: nm ds[m] := by
  unfold dP
  rw [if_neg (by omega), if_neg (by omega), joinTo_succ _ m hm (by simpa using h), List.getElem_map]
  simp
theorem dP_len (ds : List Int) (m : Nat) (h : ds.length ≤ 20) : (dP ds m).length ≤ 100 := by
  unfold dP
  split
  · simp
  · have h1 := joinTo_len (ds.map nm) m 2 (fun x hx => by obtain ⟨d, _, rfl⟩ := List.mem_map.1 hx; rw [nm_len]; exact Nat.le_refl _)
    rw [List.length_map] at h1
    simp only [List.length_cons]
    omega
def cP (c : Int) : List UInt8 := if c = 0 then [] else 32 :: (countW ++ 32 :: Lib.itoa c)
def uP (u : Int) (t : List UInt8) : List UInt8 := if u = -1 then [] else 32 :: (untilW ++ 32 :: t)
theorem rtext_form (r : RV) (t : List UInt8) (h : r.freq ≠ onceW) : rtext r t = r.freq ++ 32 :: Lib.itoa r.every ++ dP r.days r.days.length ++ cP r.count ++ uP r.til t := by
  unfold rtext words
  rw [if_neg h, Lib.join_cons]
  have e1 : Lib.joinTail [32] (Lib.itoa r.every :: (wDays r ++ (wCount r ++ wUntil r t))) = 32 :: Lib.itoa r.every ++ Lib.joinTail [32] (wDays r) ++ Lib.joinTail [32] (wCount r) ++ Lib.joinTail [32] (wUntil r t) := by
    unfold Lib.joinTail
    simp
  have e2 : Lib.joinTail [32] (wDays r) = dP r.days r.days.length := by
    unfold wDays dP
    by_cases hd : r.days = []
    · rw [if_pos hd, if_pos (by rw [hd]; rfl)]; rfl
    · rw [if_neg hd, if_neg (fun q => hd (List.length_eq_zero_iff.1 q)), joinTo_all _ _ (by simp)]
      unfold Lib.joinTail
      simp
  have e3 : Lib.joinTail [32] (wCount r) = cP r.count := by
    unfold wCount cP
    split
    · rfl
    · unfold Lib.joinTail; simp
  have e4 : Lib.joinTail [32] (wUntil r t) = uP r.til t := by
    unfold wUntil uP
    split
    · rfl
    · unfold Lib.joinTail; simp
  rw [e1, e2, e3, e4]
  simp
/-- an event's text up to its m-th field -/
noncomputable def eTo (E : EV) (m : Nat) : List UInt8 := E.id.data.toList ++ Lib.joinTail [124] ((pT E).take m)
theorem eTo_zero (E : EV) : eTo E 0 = E.id.data.toList := by unfold eTo; simp [Lib.joinTail]
theorem eTo_succ (E : EV) (m : Nat) (h : m < 6) : eTo E (m + 1) = eTo E m ++ 124 :: fT E m := by
  have hm : (pT E)[m]? = some (fT E m) := by
    rw [← pT_at E m h]
    have hl : m < (pT E).length := h
    rw [List.getD_eq_getElem?_getD, List.getElem?_eq_getElem hl]
    rfl
  unfold eTo
  rw [Lib.joinTail_take_succ _ _ _ _ hm]
  simp
theorem eTo_all (E : EV) : eTo E 6 = eT E := by
  unfold eTo eT
  rw [Lib.join_cons]
  rfl
theorem eTo_len {E : EV} (h : EW E) (h20 : E.ds.length ≤ 20) (m : Nat) (hm : m ≤ 6) : (eTo E m).length ≤ 10000 := by
  rw [← Nat.add_zero m]
  have key : ∀ m, m ≤ 6 → (eTo E m).length ≤ 12 + m * 1001 := by
    intro m
    induction m with
    | zero =>
      intro _
      rw [eTo_zero]
      have := h.id.2.2
      have e : E.id.data.toList.length = E.id.size := by rw [Array.length_toList]; rfl
      omega
    | succ m ih =>
      intro hm
      rw [eTo_succ E m (by omega), List.length_append, List.length_cons]
      have := ih (by omega)
      have := fT_len h h20 m
      omega
  have := key m hm
  simp only [Nat.add_zero]
  omega
end Go.Proofs.YtfdojecdnieccaaGreatDoor

/- The document's own texts of rules and events: WeekNames, RuleText, Fields, FieldOf, EventText, of lists at any address. -/
namespace Go.Proofs.YtfdojecdnieccaaGreatDoor
open Go Go.RowKit Go.Sort Cal
attribute [local go_sem] Oper.semAt_some

theorem decimal_int (n : Int) (w : World) (h0 : 0 ≤ n) (h1 : n ≤ 9999) :
    Calls Tryz.prog 116 #[.int .i64 n] w fun e w' => e = .returned (.string (bs (Lib.itoa n))) ∧ Below w.heap.size w w' := by
  obtain ⟨u, rfl⟩ : ∃ u : Nat, n = u := ⟨n.toNat, by omega⟩
  rw [Lib.itoa_nonneg]
  exact decimal_any u w (by omega)
theorem dayTextR_any (n : Int) (w : World) (h0 : 0 ≤ n) (h1 : n ≤ 73048) :
    Calls Tryz.prog 115 #[.int .i64 n] w fun e w' => e = .returned (.string (bs (dtx n))) ∧ Below w.heap.size w w' := by
  obtain ⟨y, m, d, hv, hn, e⟩ := dtx_ok h0 h1
  rw [e]
  exact dayText_ok n y m d w hv hn

def wkO : Obj := .cells #[.string ⟨#[109, 111]⟩, .string ⟨#[116, 117]⟩, .string ⟨#[119, 101]⟩, .string ⟨#[116, 104]⟩, .string ⟨#[102, 114]⟩, .string ⟨#[115, 97]⟩, .string ⟨#[115, 117]⟩] 9
theorem wk_cell (w : World) (i : Nat) (h : i < 7) : (w.alloc wkO).cell? ⟨w.heap.size, i, none⟩ = some (.string (bs (nm i))) := by
  unfold wkO
  rw [World.cell?_alloc_new]
  match i, h with
  | 0, _ => rfl
  | 1, _ => rfl
  | 2, _ => rfl
  | 3, _ => rfl
  | 4, _ => rfl
  | 5, _ => rfl
  | 6, _ => rfl
theorem weekNames_any (w : World) : Calls Tryz.prog 144 #[] w fun r w' => ∃ B : Nat, r = .returned (.slice (some ⟨B, 0, none⟩) 7 7) ∧ Below w.heap.size w w' ∧ ∀ i, i < 7 → w'.cell? ⟨B, i, none⟩ = some (.string (bs (nm i))) := by
  have hA := below_alloc w wkO
  have hC := wk_cell w
  have HC : Hid (Below w.heap.size w (w.alloc wkO) ∧ ∀ i, i < 7 → (w.alloc wkO).cell? ⟨w.heap.size, i, none⟩ = some (.string (bs (nm i)))) := ⟨hA, hC⟩
  clear hA hC
  unfold wkO at HC
  go_enter Tryz.func144, Tryz.ntmps144
  go_wp2
  go_ret
  exact ⟨_, rfl, HC.out.1, HC.out.2⟩
theorem rfields_any (w : World) : Calls Tryz.prog 93 #[] w fun r w' => r = .returned (.slice (some ⟨w.heap.size, 0, none⟩) 6 6) ∧ w' = w.alloc fldO := by
  unfold fldO
  go_enter Tryz.func93, Tryz.ntmps93
  go_wp2
  go_ret
  exact ⟨rfl, rfl⟩

theorem bs_app (a b : List UInt8) : bs a ++ bs b = bs (a ++ b) := by
  unfold bs
  exact ByteArray.mk_append_mk _ _
theorem bs_size (a : List UInt8) : (bs a).size = a.length := by
  show a.toArray.size = _
  simp

set_option maxHeartbeats 2000000 in
set_option maxRecDepth 100000 in
theorem ruleText_more (f : ByteArray) (e : Int) (sl : Value) (c u : Int) (ds : List Int) (t : List UInt8) (w : World) (hg : Got w sl ds) (h20 : ds.length ≤ 20) (hw : Well (rd f e ds c u)) (ht : UT (rd f e ds c u) t)
    (hne : (f.toList == [111, 110, 99, 101]) = false) :
    Calls Tryz.prog 117 #[rv f e sl c u] w fun r w' => r = .returned (.string (bs (rtext (rd f e ds c u) t))) ∧ Below w.heap.size w w' := by
  have HF : Hid (bs (rtext (rd f e ds c u) t) = bs (f.data.toList ++ 32 :: Lib.itoa e ++ dP ds ds.length ++ cP c ++ uP u t)) := by
    show _ = _
    rw [rtext_form _ _ (by rw [beq_eq_false_iff_ne] at hne; exact hne)]
    have e1 : (rd f e ds c u).freq = f.data.toList := ByteArray.toList_eq ..
    rw [e1]
    rfl
  obtain ⟨ra, rc, rfl⟩ := got_form hg
  have he := hw.ev
  have hco := hw.co
  have hun := hw.un
  obtain ⟨he0, he1⟩ : 1 ≤ e ∧ e ≤ 100 := he
  obtain ⟨hc0, hc1⟩ : 0 ≤ c ∧ c ≤ 1000 := hco
  obtain ⟨hu0, hu1⟩ : -1 ≤ u ∧ u ≤ 73048 := hun
  have hcu : c = 0 ∨ u = -1 := hw.cu
  have hf7 : f.size ≤ 7 := by
    have h1 : f.toList.length ≤ 7 := by
      have h := hw.fr
      have e1 : (rd f e ds c u).freq = f.toList := rfl
      rw [e1] at h
      rcases h with h | h | h | h | h <;> rw [h] <;> decide
    rw [ByteArray.toList_eq, Array.length_toList] at h1
    exact h1
  have ZS : Hid (∀ j, j < ds.length → ∃ ad, ra = some ad ∧ ∀ W, Below w.heap.size w W → W.cell? (ad.add j) = some (.int .i64 (zS ds j))) := got_z hg
  have HD : Hid (∀ j, j < ds.length → 0 ≤ zS ds j ∧ zS ds j ≤ 6) := fun j hj => by
    have e1 : zS ds j = ds[j] := zS_at hj
    have := hw.ds ds[j] (List.getElem_mem hj)
    exact ⟨by rw [e1]; exact this.1, by rw [e1]; exact this.2⟩
  have DE : Hid (∀ W, Calls Tryz.prog 116 #[.int .i64 e] W fun r w' => r = .returned (.string (bs (Lib.itoa e))) ∧ Below W.heap.size W w') := fun W => decimal_int e W (by omega) (by omega)
  have DC : Hid (∀ W, Calls Tryz.prog 116 #[.int .i64 c] W fun r w' => r = .returned (.string (bs (Lib.itoa c))) ∧ Below W.heap.size W w') := fun W => decimal_int c W (by omega) (by omega)
  have DU : Hid (0 ≤ u → ∀ W, Calls Tryz.prog 115 #[.int .i64 u] W fun r w' => r = .returned (.string (bs t)) ∧ Below W.heap.size W w') := fun h0 W => by
    rcases ht with ⟨e1, _⟩ | ⟨_, y, m, d, hv, hn, rfl⟩
    · have e2 : u = -1 := e1
      omega
    · exact dayText_ok u y m d W hv hn
  have htl : (bs t).size ≤ 10 := by rw [bs_size]; exact ut_len ht
  have hel : (bs (Lib.itoa e)).size ≤ 6 := by rw [bs_size]; exact itoa_len e (by omega) (by omega)
  have hcl : (bs (Lib.itoa c)).size ≤ 6 := by rw [bs_size]; exact itoa_len c (by omega) (by omega)
  have HB0 : Hid (∀ j, bs (f.data.toList ++ 32 :: Lib.itoa e ++ dP ds j) = f ++ ⟨#[32]⟩ ++ bs (Lib.itoa e) ++ bs (dP ds j)) := fun j => by
    show _ = bs f.data.toList ++ bs [32] ++ bs _ ++ bs _
    rw [bs_app, bs_app, bs_app]
    simp
  have HCP : Hid (cP c = if c = 0 then [] else 32 :: (countW ++ 32 :: Lib.itoa c)) := rfl
  have HUP : Hid (uP u t = if u = -1 then [] else 32 :: (untilW ++ 32 :: t)) := rfl
  have HDL : Hid (∀ j, (bs (dP ds j)).size ≤ 100) := fun j => by rw [bs_size]; exact dP_len ds j h20
  have HD1 : Hid (∀ (j : Nat) (h : j < ds.length), dP ds (j + 1) = dP ds j ++ (if j = 0 then [32] else [44]) ++ nm (zS ds j)) := fun j h => by
    rw [zS_at h]
    cases j with
    | zero => rw [dP_one ds h, if_pos rfl]; rfl
    | succ j => rw [dP_succ ds (j + 1) (by omega) h, if_neg (by omega)]; simp
  have hA := below_alloc w (.cells #[.string f, .int .i64 e, .slice ra ds.length rc, .int .i64 c, .int .i64 u] 32)
  have k0 : (w.alloc (.cells #[.string f, .int .i64 e, .slice ra ds.length rc, .int .i64 c, .int .i64 u] 32)).heap[w.heap.size]? = some (.cells #[.string f, .int .i64 e, .slice ra ds.length rc, .int .i64 c, .int .i64 u] 32 (0, 0)) := block_at _ rfl
  have HA : Hid (_) := hA
  clear hg hw ht hA
  unfold rv
  generalize hw0 : w.alloc (.cells #[.string f, .int .i64 e, .slice ra ds.length rc, .int .i64 c, .int .i64 u] 32) = w0 at HA k0
  have BX : Hid (∀ W, Below w0.heap.size w0 W → W.heap[w.heap.size]? = some (.cells #[.string f, .int .i64 e, .slice ra ds.length rc, .int .i64 c, .int .i64 u] 32 (0, 0))) := fun W h => (h.block _ (Array.getElem?_eq_some_iff.1 k0).1).trans k0
  obtain ⟨x0, x1, x2, x3, x4⟩ := blk5 k0
  clear k0
  generalize hL : ds.length = L at ZS HD HD1 h20 x2 BX HF hw0 ⊢
  generalize bs (rtext (rd f e ds c u) t) = fin at HF ⊢
  clear hL
  have X0 := cell_regrown x0
  have X1 := cell_regrown x1
  have T1 : Hid (∀ d os, Calls Tryz.prog 116 #[.int .i64 e] (grow (redrawn w0 d) os) fun r w'' => r = .returned (.string (bs (Lib.itoa e))) ∧ ∃ p : Regrown, w'' = grow (redrawn w0 p.d) p.os) := fun d os => Calls.regrown_of (DE.out _)
  generalize hEB : bs (Lib.itoa e) = eb at T1 hel HB0
  have q1 : ¬ 9223372036854775807 < f.size + 1 := by omega
  have q2 : ¬ 9223372036854775807 < f.size + 1 + eb.size := by omega
  go_enter Tryz.func117, Tryz.ntmps117
  go_upto_region 3 with (fail)
  refine wp_region_quiet_below (by kernel_rfl) (by kernel_rfl) ?_
  repeat (quiet_step ((go_at_call 116; exact T1.out _ _)))
  refine wpQuiet_nil ?_
  intro w2 hw'
  have hb2 : Below w0.heap.size w0 w2 := by
    obtain ⟨⟨dq, osq⟩, hw''⟩ := hw'
    subst hw''
    exact below_regrown _ _ _
  clear hw' X0 X1 x0 x1 x2 x3 x4 T1
  go_wp2
  go_loopw [3, 4] (fun o i wr => ∃ (m : Nat) (os : ByteArray), m ≤ L ∧ i = .int .i64 m ∧ o = .string os ∧ os.size ≤ 150 ∧ Hid (os = f ++ ⟨#[32]⟩ ++ eb ++ bs (dP ds m)) ∧ Hid (Below w2.heap.size w2 wr)) (fun _ i _ => L - (intOf i).toNat)
  case atStart =>
    refine ⟨0, _, Nat.zero_le _, rfl, rfl, ?_, ?_, Below.refl _ _⟩
    · simp only [ByteArray.size_append]
      show f.size + 1 + eb.size ≤ 150
      omega
    · show _ = _ ++ bs []
      show _ = _ ++ ByteArray.empty
      rw [ByteArray.append_empty]
  case round =>
    obtain ⟨m, os, hm, rfl, rfl, hos, HO, HBr⟩ := hrel
    obtain ⟨x0, x1, x2, x3, x4⟩ := blk5 (BX.out wr (below_then hb2 HBr.out))
    by_cases hlt : m < L
    · obtain ⟨ad, rfl, hc⟩ := ZS.out m hlt
      have c1 := hc wr (below_then HA.out (below_then hb2 HBr.out))
      have J1 : Hid (dP ds (m + 1) = dP ds m ++ (if m = 0 then [32] else [44]) ++ nm (zS ds m)) := HD1.out m hlt
      obtain ⟨hd0, hd6⟩ := HD.out m hlt
      have JL1 := HDL.out (m + 1)
      obtain ⟨k, hk⟩ : ∃ k : Nat, zS ds m = k := ⟨(zS ds m).toNat, by omega⟩
      rw [hk] at c1 J1
      have hk7 : k < 7 := by omega
      have hk7' : (k : Int) < 7 := by omega
      have hl0 : (m : Int) < L := by omega
      have hnl : (bs (nm k)).size = 2 := by rw [bs_size]; exact nm_len _
      clear hc hd0 hd6 hk
      cases m with
      | zero =>
        have hc0 : wr.cell? ad = some (.int .i64 k) := c1
        have hl1 : 0 < L := by omega
        have q3 : ¬ 9223372036854775807 < os.size + 1 := by omega
        have q4 : ¬ 9223372036854775807 < os.size + 1 + (bs (nm k)).size := by omega
        go_upto_region 10 with (fail)
        go_region_with (go_at_call 144; refine Calls.mono (weekNames_any _) ?_; rintro r w20 ⟨B, rfl, hb20, hc20⟩; have zc := hc20 k hk7; have hw20 : Below wr.heap.size wr w20 := below_then (drew_below _) hb20; have y2 := cell_step x2 hw20; have y0 := cellA_step hc0 hw20)
        all_goals
          go_wp2
          go_roundw
          case rel =>
            have hj : f ++ ⟨#[32]⟩ ++ eb ++ bs (dP ds (0 + 1)) = os ++ ⟨#[32]⟩ ++ bs (nm k) := by
              rw [J1.out, if_pos True.intro, HO.out]
              show _ = _ ++ bs [32] ++ _
              rw [← bs_app, ← bs_app, ByteArray.append_assoc, ByteArray.append_assoc, ByteArray.append_assoc]
              simp only [ByteArray.append_assoc]
            refine ⟨0 + 1, _, by omega, by go_num, rfl, ?_, hj.symm, below_then HBr.out hw20⟩
            rw [← hj]
            simp only [ByteArray.size_append]
            show f.size + 1 + eb.size + _ ≤ 150
            omega
          case measure => simp [intOf]; omega
      | succ m =>
        have hc0 : wr.cell? ⟨ad.block, ad.off + (m + 1), none⟩ = some (.int .i64 k) := c1
        have hl1 : (m : Int) + 1 < L := by omega
        have hl2 : m + 1 < L := by omega
        have hq0 : 0 ≤ (m : Int) + 1 := by omega
        have hq1 : ((m : Int) + 1).toNat = m + 1 := by omega
        have hq2 : ((m : Int) + 1 == 0) = false := by rw [beq_eq_false_iff_ne]; omega
        have q3 : ¬ 9223372036854775807 < os.size + 1 := by omega
        have q4 : ¬ 9223372036854775807 < os.size + 1 + (bs (nm k)).size := by omega
        go_upto_region 10 with (fail)
        go_region_with (go_at_call 144; refine Calls.mono (weekNames_any _) ?_; rintro r w20 ⟨B, rfl, hb20, hc20⟩; have zc := hc20 k hk7; have hw20 : Below wr.heap.size wr w20 := below_then (drew_below _) hb20; have y2 := cell_step x2 hw20; have y0 := cellA_step hc0 hw20)
        all_goals
          go_wp2
          go_roundw
          case rel =>
            have hj : f ++ ⟨#[32]⟩ ++ eb ++ bs (dP ds (m + 1 + 1)) = os ++ ⟨#[44]⟩ ++ bs (nm k) := by
              rw [J1.out, if_neg (Nat.succ_ne_zero m), HO.out]
              show _ = _ ++ bs [44] ++ _
              rw [← bs_app, ← bs_app, ByteArray.append_assoc, ByteArray.append_assoc, ByteArray.append_assoc]
              simp only [ByteArray.append_assoc]
            refine ⟨m + 1 + 1, _, by omega, by go_num, rfl, ?_, hj.symm, below_then HBr.out hw20⟩
            rw [← hj]
            simp only [ByteArray.size_append]
            show f.size + 1 + eb.size + _ ≤ 150
            omega
          case measure => simp [intOf]; omega
    · have hml : m = L := by omega
      have HO2 : Hid (os = bs (f.data.toList ++ 32 :: Lib.itoa e ++ dP ds L)) := by
        show _ = _
        rw [HB0.out, HO.out, hml]
      have hz2 : Below w.heap.size w wr := below_then HA.out (below_then hb2 HBr.out)
      have hf1 : Hid (fin = os ++ bs (cP c) ++ bs (uP u t)) := by
        show _ = _
        rw [HF.out, HO2.out, bs_app, bs_app]
      clear HO HB0 ZS HD HD1 HO2 HF BX hm hlt
      by_cases hcz : c = 0
      · have hcn : ¬ 0 < c := by omega
        have e1 : bs (cP c) = ⟨#[]⟩ := by unfold cP; rw [if_pos hcz]; rfl
        by_cases huz : u = -1
        · have hun : ¬ 0 ≤ u := by omega
          have HE : Hid (fin = os) := by
            show _ = _
            rw [hf1.out, e1]
            unfold uP
            rw [if_pos huz]
            show os ++ ByteArray.empty ++ ByteArray.empty = _
            rw [ByteArray.append_empty, ByteArray.append_empty]
          clear hf1 e1 huz hcz
          go_wp2
          go_ret
          exact ⟨ret_str HE.out.symm, hz2⟩
        · have hun : 0 ≤ u := by omega
          have D1 : Hid (∀ W, Calls Tryz.prog 115 #[.int .i64 u] W fun r w' => r = .returned (.string (bs t)) ∧ Below W.heap.size W w') := DU.out hun
          have HE : Hid (fin = os ++ ⟨#[32, 117, 110, 116, 105, 108, 32]⟩ ++ bs t) := by
            show _ = _
            rw [hf1.out, e1]
            unfold uP
            rw [if_neg huz]
            show os ++ ByteArray.empty ++ _ = _ ++ bs [32, 117, 110, 116, 105, 108, 32] ++ _
            rw [ByteArray.append_empty, ByteArray.append_assoc, bs_app]
            rfl
          clear hf1 e1 huz hcz DU
          generalize bs t = bt at D1 HE htl
          have q3 : ¬ 9223372036854775807 < os.size + 7 := by omega
          have q4 : ¬ 9223372036854775807 < os.size + 7 + bt.size := by omega
          go_wp2_with (go_at_call 115; refine Calls.mono (D1.out _) ?_; rintro r w3 ⟨rfl, hb3⟩)
          go_ret
          exact ⟨ret_str HE.out.symm, below_then hz2 hb3⟩
      · have hcn : 0 < c := by omega
        have huz : u = -1 := by rcases hcu with h | h <;> omega
        have hun : ¬ 0 ≤ u := by omega
        have HE : Hid (fin = os ++ ⟨#[32, 99, 111, 117, 110, 116, 32]⟩ ++ bs (Lib.itoa c)) := by
          show _ = _
          rw [hf1.out]
          unfold uP cP
          rw [if_neg hcz, if_pos huz]
          show _ ++ ByteArray.empty = _ ++ bs [32, 99, 111, 117, 110, 116, 32] ++ _
          rw [ByteArray.append_empty, ByteArray.append_assoc, bs_app]
          rfl
        clear hf1 huz hcz DU
        generalize bs (Lib.itoa c) = bt at DC HE hcl
        have q3 : ¬ 9223372036854775807 < os.size + 7 := by omega
        have q4 : ¬ 9223372036854775807 < os.size + 7 + bt.size := by omega
        go_wp2_with (go_at_call 116; refine Calls.mono (DC.out _) ?_; rintro r w3 ⟨rfl, hb3⟩; have y4 := cell_step x4 hb3)
        go_ret
        exact ⟨ret_str HE.out.symm, below_then hz2 hb3⟩

theorem ruleText_once (f : ByteArray) (e : Int) (sl : Value) (c u : Int) (ds : List Int) (t : List UInt8) (w : World) (hg : Got w sl ds)
    (hne : (f.toList == [111, 110, 99, 101]) = true) :
    Calls Tryz.prog 117 #[rv f e sl c u] w fun r w' => r = .returned (.string (bs (rtext (rd f e ds c u) t))) ∧ Below w.heap.size w w' := by
  obtain ⟨ra, rc, rfl⟩ := got_form hg
  have HR : Hid (bs (rtext (rd f e ds c u) t) = ⟨#[111, 110, 99, 101]⟩) := by
    unfold rtext words
    rw [if_pos (show (rd f e ds c u).freq = onceW by rw [beq_iff_eq] at hne; exact hne), Lib.join_one]
    exact rfl
  rw [HR.out]
  clear hg HR
  unfold rv
  go_enter Tryz.func117, Tryz.ntmps117
  go_wp2
  go_ret
  exact ⟨rfl, below_alloc _ _⟩
theorem ruleText_any (f : ByteArray) (e : Int) (sl : Value) (c u : Int) (ds : List Int) (t : List UInt8) (w : World) (hg : Got w sl ds) (h20 : ds.length ≤ 20) (hw : Well (rd f e ds c u)) (ht : UT (rd f e ds c u) t) :
    Calls Tryz.prog 117 #[rv f e sl c u] w fun r w' => r = .returned (.string (bs (rtext (rd f e ds c u) t))) ∧ Below w.heap.size w w' := by
  cases hne : (f.toList == [111, 110, 99, 101]) with
  | true => exact ruleText_once f e sl c u ds t w hg hne
  | false => exact ruleText_more f e sl c u ds t w hg h20 hw ht hne
end Go.Proofs.YtfdojecdnieccaaGreatDoor

/- The document's own FieldOf and EventText, of lists at any address. -/
namespace Go.Proofs.YtfdojecdnieccaaGreatDoor
open Go Go.RowKit Go.Sort Cal
attribute [local go_sem] Oper.semAt_some

theorem fo_title (E : EV) (ra : Option Addr) (rn rc : Nat) (sa : Option Addr) (sn sc : Nat) (ma : Option Addr) (mn mc : Nat) (w : World) :
    Calls Tryz.prog 94 #[ev E (.slice ra rn rc) (.slice sa sn sc) (.slice ma mn mc), .string (fldB 0)] w fun r w' => r = .returned (.string E.ti) ∧ Below w.heap.size w w' := by
  obtain ⟨idn, ti, st, lg, f, e, ds, c, u, sk, mv⟩ := E
  unfold ev fldB
  dsimp only
  go_enter Tryz.func94, Tryz.ntmps94
  go_wp2
  go_ret
  exact ⟨rfl, below_alloc _ _⟩
theorem fo_start (E : EV) (ra : Option Addr) (rn rc : Nat) (sa : Option Addr) (sn sc : Nat) (ma : Option Addr) (mn mc : Nat) (b : ByteArray) (w : World)
    (h : ∀ W, Below w.heap.size w W → Calls Tryz.prog 115 #[.int .i64 E.st] W fun r w' => r = .returned (.string b) ∧ Below W.heap.size W w') :
    Calls Tryz.prog 94 #[ev E (.slice ra rn rc) (.slice sa sn sc) (.slice ma mn mc), .string (fldB 1)] w fun r w' => r = .returned (.string b) ∧ Below w.heap.size w w' := by
  obtain ⟨idn, ti, st, lg, f, e, ds, c, u, sk, mv⟩ := E
  unfold ev fldB
  dsimp only at h ⊢
  have H : Hid (_) := h _ (below_alloc w (.cells #[.string idn, .string ti, .int .i64 st, .int .i64 lg, .string f, .int .i64 e, .slice ra rn rc, .int .i64 c, .int .i64 u, .slice sa sn sc, .slice ma mn mc] 35))
  clear h
  go_enter Tryz.func94, Tryz.ntmps94
  go_wp2_with (go_at_call 115; refine Calls.mono H.out ?_; rintro r w1 ⟨rfl, hb1⟩)
  go_ret
  exact ⟨rfl, below_then (below_alloc _ _) hb1⟩
theorem fo_long (E : EV) (ra : Option Addr) (rn rc : Nat) (sa : Option Addr) (sn sc : Nat) (ma : Option Addr) (mn mc : Nat) (b : ByteArray) (w : World)
    (h : ∀ W, Below w.heap.size w W → Calls Tryz.prog 116 #[.int .i64 E.lg] W fun r w' => r = .returned (.string b) ∧ Below W.heap.size W w') :
    Calls Tryz.prog 94 #[ev E (.slice ra rn rc) (.slice sa sn sc) (.slice ma mn mc), .string (fldB 2)] w fun r w' => r = .returned (.string b) ∧ Below w.heap.size w w' := by
  obtain ⟨idn, ti, st, lg, f, e, ds, c, u, sk, mv⟩ := E
  unfold ev fldB
  dsimp only at h ⊢
  have H : Hid (_) := h _ (below_alloc w (.cells #[.string idn, .string ti, .int .i64 st, .int .i64 lg, .string f, .int .i64 e, .slice ra rn rc, .int .i64 c, .int .i64 u, .slice sa sn sc, .slice ma mn mc] 35))
  clear h
  go_enter Tryz.func94, Tryz.ntmps94
  go_wp2_with (go_at_call 116; refine Calls.mono H.out ?_; rintro r w1 ⟨rfl, hb1⟩)
  go_ret
  exact ⟨rfl, below_then (below_alloc _ _) hb1⟩
theorem fo_rule (E : EV) (ra : Option Addr) (rn rc : Nat) (sa : Option Addr) (sn sc : Nat) (ma : Option Addr) (mn mc : Nat) (b : ByteArray) (w : World)
    (h0 : ∀ W, Below w.heap.size w W → Calls Tryz.prog 47 #[.agg #[.string E.f, .int .i64 E.e, .slice ra rn rc, .int .i64 E.c, .int .i64 E.u]] W fun r w' => r = .returned (.int .i64 0) ∧ Below W.heap.size W w')
    (h : ∀ W, Below w.heap.size w W → Calls Tryz.prog 117 #[.agg #[.string E.f, .int .i64 E.e, .slice ra rn rc, .int .i64 E.c, .int .i64 E.u]] W fun r w' => r = .returned (.string b) ∧ Below W.heap.size W w') :
    Calls Tryz.prog 94 #[ev E (.slice ra rn rc) (.slice sa sn sc) (.slice ma mn mc), .string (fldB 3)] w fun r w' => r = .returned (.string b) ∧ Below w.heap.size w w' := by
  obtain ⟨idn, ti, st, lg, f, e, ds, c, u, sk, mv⟩ := E
  unfold ev fldB
  dsimp only at h h0 ⊢
  have hA := below_alloc w (.cells #[.string idn, .string ti, .int .i64 st, .int .i64 lg, .string f, .int .i64 e, .slice ra rn rc, .int .i64 c, .int .i64 u, .slice sa sn sc, .slice ma mn mc] 35)
  have kE : (w.alloc (.cells #[.string idn, .string ti, .int .i64 st, .int .i64 lg, .string f, .int .i64 e, .slice ra rn rc, .int .i64 c, .int .i64 u, .slice sa sn sc, .slice ma mn mc] 35)).heap[w.heap.size]? = some (.cells #[.string idn, .string ti, .int .i64 st, .int .i64 lg, .string f, .int .i64 e, .slice ra rn rc, .int .i64 c, .int .i64 u, .slice sa sn sc, .slice ma mn mc] 35 (0, 0)) := block_at _ rfl
  have H0 : Hid (_) := h0 _ hA
  have H1 : Hid (∀ W, Below w.heap.size w W → _) := h
  have HA : Hid (_) := hA
  clear h h0 hA
  generalize hw0 : w.alloc (.cells #[.string idn, .string ti, .int .i64 st, .int .i64 lg, .string f, .int .i64 e, .slice ra rn rc, .int .i64 c, .int .i64 u, .slice sa sn sc, .slice ma mn mc] 35) = w0 at H0 HA kE
  obtain ⟨x0, x1, x2, x3, x4, x5, x6, x7, x8, x9, x10⟩ := blk11 kE
  have BX : Hid (∀ W, Below w0.heap.size w0 W → _) := fun W h => blk11 ((h.block _ (Array.getElem?_eq_some_iff.1 kE).1).trans kE)
  clear kE
  go_enter Tryz.func94, Tryz.ntmps94
  go_wp2_with (first
    | (go_at_call 117; refine Calls.mono H2.out ?_; rintro r w2 ⟨rfl, hb2⟩)
    | (go_at_call 47; refine Calls.mono H0.out ?_; rintro r w1 ⟨rfl, hb1⟩; have H2 : Hid (Calls _ _ _ _ _) := H1.out w1 (below_then HA.out hb1); clear x0 x1 x2 x3 x4 x5 x6 x7 x8 x9 x10; obtain ⟨x0, x1, x2, x3, x4, x5, x6, x7, x8, x9, x10⟩ := BX.out _ hb1))
  go_ret
  exact ⟨rfl, below_then HA.out (below_then hb1 hb2)⟩

set_option maxHeartbeats 2000000 in
set_option maxRecDepth 100000 in
theorem fo_skips (E : EV) (sl skv mvv : Value) (w : World) (hd : Got w sl E.ds) (hs : Got w skv E.sk) (hm : GotM w mvv E.mv) (hw : EW E) :
    Calls Tryz.prog 94 #[ev E sl skv mvv, .string (fldB 4)] w fun r w' => r = .returned (.string (bs (fT E 4))) ∧ Below w.heap.size w w' := by
  obtain ⟨k20, m20, _, _, kd, md, _⟩ := lk_of hw.ls
  obtain ⟨ra, rc, rfl⟩ := got_form hd
  obtain ⟨sa, sc, rfl⟩ := got_form hs
  obtain ⟨ma, mc, rfl⟩ := gotM_form hm
  have ZS : Hid (∀ j, j < E.sk.length → ∃ ad, sa = some ad ∧ ∀ W, Below w.heap.size w W → W.cell? (ad.add j) = some (.int .i64 (zS E.sk j))) := got_z hs
  have DT : Hid (∀ j, j < E.sk.length → ∀ W, Calls Tryz.prog 115 #[.int .i64 (zS E.sk j)] W fun r w' => r = .returned (.string (bs (dtx (zS E.sk j)))) ∧ Below W.heap.size W w') := fun j hj W => by
    have := kd _ (List.getElem_mem hj)
    rw [zS_at hj]
    exact dayTextR_any _ W this.1 this.2
  have JT : Hid (∀ j, j < E.sk.length → bs (joinTo (E.sk.map dtx) (j + 1)) = (if j = 0 then bs (joinTo (E.sk.map dtx) j) else bs (joinTo (E.sk.map dtx) j) ++ ⟨#[44]⟩) ++ bs (dtx (zS E.sk j))) := fun j hj => by
    rw [zS_at hj]
    cases j with
    | zero => rw [if_pos rfl, bs_app, joinTo_one _ (by simpa using hj), List.getElem_map]; rfl
    | succ j =>
      rw [if_neg (by omega), joinTo_succ _ (j + 1) (by omega) (by simpa using hj), List.getElem_map]
      show _ = bs _ ++ bs [44] ++ bs _
      rw [bs_app, bs_app]
      simp
  have JL : Hid (∀ j, (bs (joinTo (E.sk.map dtx) j)).size ≤ 10000) := fun j => by
    rw [bs_size]
    have := joinTo_len (E.sk.map dtx) j 10 (fun x hx => by obtain ⟨d, _, rfl⟩ := List.mem_map.1 hx; exact dtx_len d)
    rw [List.length_map] at this
    omega
  have JA : Hid (∀ j, E.sk.length ≤ j → joinTo (E.sk.map dtx) j = fT E 4) := fun j hj => joinTo_all _ _ (by simpa using hj)
  have DL : Hid (∀ x, (bs (dtx x)).size ≤ 10) := fun x => by rw [bs_size]; exact dtx_len x
  have hA := below_alloc w (.cells #[.string E.id, .string E.ti, .int .i64 E.st, .int .i64 E.lg, .string E.f, .int .i64 E.e, .slice ra E.ds.length rc, .int .i64 E.c, .int .i64 E.u, .slice sa E.sk.length sc, .slice ma E.mv.length mc] 35)
  have hB := EB.new w E (.slice ra E.ds.length rc) (.slice sa E.sk.length sc) (.slice ma E.mv.length mc)
  unfold EB at hB
  unfold ev fldB
  have HA : Hid (_) := hA
  clear hA hd hs hm hw kd md
  generalize hw0 : w.alloc (.cells #[.string E.id, .string E.ti, .int .i64 E.st, .int .i64 E.lg, .string E.f, .int .i64 E.e, .slice ra E.ds.length rc, .int .i64 E.c, .int .i64 E.u, .slice sa E.sk.length sc, .slice ma E.mv.length mc] 35) = w0 at HA hB
  generalize hL : E.sk.length = L at ZS DT JT JA hB k20 hw0 ⊢
  have BX : Hid (∀ W, Below w0.heap.size w0 W → _) := fun W h => blk11 ((h.block _ (Array.getElem?_eq_some_iff.1 hB).1).trans hB)
  obtain ⟨x0, x1, x2, x3, x4, x5, x6, x7, x8, x9, x10⟩ := blk11 hB
  clear hB hL
  generalize fT E 4 = fin at JA ⊢
  go_enter Tryz.func94, Tryz.ntmps94
  go_wp2
  go_loopw [5, 6] (fun o i wr => ∃ (m : Nat) (os : ByteArray), m ≤ L ∧ i = .int .i64 m ∧ o = .string os ∧ os.size ≤ 10000 ∧ Hid (os = bs (joinTo (E.sk.map dtx) m)) ∧ Hid (Below w0.heap.size w0 wr)) (fun _ i _ => L - (intOf i).toNat)
  case atStart => exact ⟨0, ⟨#[]⟩, Nat.zero_le _, rfl, rfl, by show (0:Nat) ≤ _; omega, rfl, Below.refl _ _⟩
  case round =>
    obtain ⟨m, os, hm, rfl, rfl, hos, HO, HBr⟩ := hrel
    clear x0 x1 x2 x3 x4 x5 x6 x7 x8 x9 x10
    obtain ⟨x0, x1, x2, x3, x4, x5, x6, x7, x8, x9, x10⟩ := BX.out wr HBr.out
    by_cases hlt : m < L
    · obtain ⟨ad, rfl, hc⟩ := ZS.out m hlt
      have c1 := hc wr (below_then HA.out HBr.out)
      have D1 : Hid (∀ W, Calls Tryz.prog 115 #[.int .i64 (zS E.sk m)] W fun r w' => r = .returned (.string (bs (dtx (zS E.sk m)))) ∧ Below W.heap.size W w') := DT.out m hlt
      have J1 : Hid (_) := JT.out m hlt
      have JL1 := JL.out (m + 1)
      have dl := DL.out (zS E.sk m)
      generalize zS E.sk m = x at c1 D1 J1 dl
      generalize bs (dtx x) = bx at D1 J1 dl
      have hl0 : (m : Int) < L := by omega
      clear hc
      cases m with
      | zero =>
        have hc0 : wr.cell? ad = some (.int .i64 x) := c1
        have hl1 : 0 < L := by omega
        have q1 : ¬ 9223372036854775807 < os.size + bx.size := by omega
        go_wp2_with (go_at_call 115; refine Calls.mono (D1.out _) ?_; rintro r w2 ⟨rfl, hb2⟩)
        go_roundw
        case rel =>
          have hj : bs (joinTo (E.sk.map dtx) (0 + 1)) = os ++ bx := by
            rw [J1.out, if_pos True.intro, ← HO.out]
          refine ⟨0 + 1, _, by omega, by go_num, rfl, ?_, hj.symm, below_then HBr.out hb2⟩
          rw [← hj]; exact JL1
        case measure => simp [intOf]; omega
      | succ m =>
        have hc0 : wr.cell? ⟨ad.block, ad.off + (m + 1), none⟩ = some (.int .i64 x) := c1
        have hl1 : (m : Int) + 1 < L := by omega
        have hl2 : m + 1 < L := by omega
        have hq0 : 0 ≤ (m : Int) + 1 := by omega
        have hq1 : ((m : Int) + 1).toNat = m + 1 := by omega
        have q0 : ¬ 9223372036854775807 < os.size + 1 := by omega
        have q1 : ¬ 9223372036854775807 < os.size + 1 + bx.size := by omega
        have hpos : (0 : Int) < (m : Int) + 1 := by omega
        go_wp2_with (go_at_call 115; refine Calls.mono (D1.out _) ?_; rintro r w2 ⟨rfl, hb2⟩)
        go_roundw
        case rel =>
          have hj : bs (joinTo (E.sk.map dtx) (m + 1 + 1)) = os ++ ⟨#[44]⟩ ++ bx := by
            rw [J1.out, if_neg (by omega), ← HO.out]
          refine ⟨m + 1 + 1, _, by omega, by go_num, rfl, ?_, hj.symm, below_then HBr.out hb2⟩
          rw [← hj]; exact JL1
        case measure => simp [intOf]; omega
    · have hml : L ≤ m := by omega
      have J2 : Hid (os = bs fin) := by
        show _ = _
        rw [HO.out, JA.out m hml]
      clear HO
      go_wp2
      go_ret
      exact ⟨ret_str J2.out, below_then HA.out HBr.out⟩

set_option maxHeartbeats 4000000 in
set_option maxRecDepth 100000 in
theorem fo_moves (E : EV) (sl skv mvv : Value) (w : World) (hd : Got w sl E.ds) (hs : Got w skv E.sk) (hm : GotM w mvv E.mv) (hw : EW E) :
    Calls Tryz.prog 94 #[ev E sl skv mvv, .string (fldB 5)] w fun r w' => r = .returned (.string (bs (fT E 5))) ∧ Below w.heap.size w w' := by
  obtain ⟨k20, m20, _, _, kd, md, _⟩ := lk_of hw.ls
  obtain ⟨ra, rc, rfl⟩ := got_form hd
  obtain ⟨sa, sc, rfl⟩ := got_form hs
  obtain ⟨ma, mc, rfl⟩ := gotM_form hm
  have ZM : Hid (∀ j, j < E.mv.length → ∃ ad, ma = some ad ∧ ∀ W, Below w.heap.size w W → W.cell? (ad.add (j * 2)) = some (.int .i64 (pM' E.mv j)) ∧ W.cell? (ad.add (j * 2 + 1)) = some (.int .i64 (qM' E.mv j))) := gotM_z hm
  have DT : Hid (∀ j, j < E.mv.length → (∀ W, Calls Tryz.prog 115 #[.int .i64 (pM' E.mv j)] W fun r w' => r = .returned (.string (bs (dtx (pM' E.mv j)))) ∧ Below W.heap.size W w') ∧ (∀ W, Calls Tryz.prog 115 #[.int .i64 (qM' E.mv j)] W fun r w' => r = .returned (.string (bs (dtx (qM' E.mv j)))) ∧ Below W.heap.size W w')) := fun j hj => by
    have := md _ (List.getElem_mem hj)
    rw [pM_at hj, qM_at hj]
    exact ⟨fun W => dayTextR_any _ W this.1.1 this.1.2, fun W => dayTextR_any _ W this.2.1 this.2.2⟩
  have JT : Hid (∀ j, j < E.mv.length → bs (joinTo (E.mv.map mtx) (j + 1)) = (if j = 0 then bs (joinTo (E.mv.map mtx) j) else bs (joinTo (E.mv.map mtx) j) ++ ⟨#[44]⟩) ++ bs (dtx (pM' E.mv j)) ++ ⟨#[62]⟩ ++ bs (dtx (qM' E.mv j))) := fun j hj => by
    rw [pM_at hj, qM_at hj]
    cases j with
    | zero =>
      rw [if_pos rfl, joinTo_one _ (by simpa using hj), List.getElem_map]
      show _ = bs _ ++ bs _ ++ bs [62] ++ bs _
      rw [bs_app, bs_app, bs_app]
      unfold mtx
      rw [joinTo_zero]
      simp
    | succ j =>
      rw [if_neg (by omega), joinTo_succ _ (j + 1) (by omega) (by simpa using hj), List.getElem_map]
      show _ = bs _ ++ bs [44] ++ bs _ ++ bs [62] ++ bs _
      rw [bs_app, bs_app, bs_app, bs_app]
      unfold mtx
      simp
  have JL : Hid (∀ j, (bs (joinTo (E.mv.map mtx) j)).size ≤ 10000) := fun j => by
    rw [bs_size]
    have := joinTo_len (E.mv.map mtx) j 21 (fun x hx => by obtain ⟨d, _, rfl⟩ := List.mem_map.1 hx; exact mtx_len d)
    rw [List.length_map] at this
    omega
  have JA : Hid (∀ j, E.mv.length ≤ j → joinTo (E.mv.map mtx) j = fT E 5) := fun j hj => joinTo_all _ _ (by simpa using hj)
  have DL : Hid (∀ x, (bs (dtx x)).size ≤ 10) := fun x => by rw [bs_size]; exact dtx_len x
  have hA := below_alloc w (.cells #[.string E.id, .string E.ti, .int .i64 E.st, .int .i64 E.lg, .string E.f, .int .i64 E.e, .slice ra E.ds.length rc, .int .i64 E.c, .int .i64 E.u, .slice sa E.sk.length sc, .slice ma E.mv.length mc] 35)
  have hB := EB.new w E (.slice ra E.ds.length rc) (.slice sa E.sk.length sc) (.slice ma E.mv.length mc)
  unfold EB at hB
  unfold ev fldB
  have HA : Hid (_) := hA
  clear hA hd hs hm hw kd md
  generalize hw0 : w.alloc (.cells #[.string E.id, .string E.ti, .int .i64 E.st, .int .i64 E.lg, .string E.f, .int .i64 E.e, .slice ra E.ds.length rc, .int .i64 E.c, .int .i64 E.u, .slice sa E.sk.length sc, .slice ma E.mv.length mc] 35) = w0 at HA hB
  generalize hL : E.mv.length = L at ZM DT JT JA hB m20 hw0 ⊢
  have BX : Hid (∀ W, Below w0.heap.size w0 W → _) := fun W h => blk11 ((h.block _ (Array.getElem?_eq_some_iff.1 hB).1).trans hB)
  obtain ⟨x0, x1, x2, x3, x4, x5, x6, x7, x8, x9, x10⟩ := blk11 hB
  clear hB hL
  generalize fT E 5 = fin at JA ⊢
  go_enter Tryz.func94, Tryz.ntmps94
  go_wp2
  go_loopw [5, 7] (fun o i wr => ∃ (m : Nat) (os : ByteArray), m ≤ L ∧ i = .int .i64 m ∧ o = .string os ∧ os.size ≤ 10000 ∧ Hid (os = bs (joinTo (E.mv.map mtx) m)) ∧ Hid (Below w0.heap.size w0 wr)) (fun _ i _ => L - (intOf i).toNat)
  case atStart => exact ⟨0, ⟨#[]⟩, Nat.zero_le _, rfl, rfl, by show (0:Nat) ≤ _; omega, rfl, Below.refl _ _⟩
  case round =>
    obtain ⟨m, os, hm, rfl, rfl, hos, HO, HBr⟩ := hrel
    clear x0 x1 x2 x3 x4 x5 x6 x7 x8 x9 x10
    obtain ⟨x0, x1, x2, x3, x4, x5, x6, x7, x8, x9, x10⟩ := BX.out wr HBr.out
    by_cases hlt : m < L
    · obtain ⟨ad, rfl, hc⟩ := ZM.out m hlt
      obtain ⟨c1, c2⟩ := hc wr (below_then HA.out HBr.out)
      have D1 : Hid (_) := DT.out m hlt
      have J1 : Hid (_) := JT.out m hlt
      have JL1 := JL.out (m + 1)
      have dl1 := DL.out (pM' E.mv m)
      have dl2 := DL.out (qM' E.mv m)
      generalize pM' E.mv m = d1 at c1 D1 J1 dl1
      generalize qM' E.mv m = d2 at c2 D1 J1 dl2
      have T1 : Hid (∀ d oo, Calls Tryz.prog 115 #[.int .i64 d1] (grow (redrawn wr d) oo) fun r w'' => r = .returned (.string (bs (dtx d1))) ∧ ∃ p : Regrown, w'' = grow (redrawn wr p.d) p.os) := fun d oo => Calls.regrown_of (D1.out.1 _)
      have T2 : Hid (∀ d oo, Calls Tryz.prog 115 #[.int .i64 d2] (grow (redrawn wr d) oo) fun r w'' => r = .returned (.string (bs (dtx d2))) ∧ ∃ p : Regrown, w'' = grow (redrawn wr p.d) p.os) := fun d oo => Calls.regrown_of (D1.out.2 _)
      generalize bs (dtx d1) = b1 at T1 J1 dl1
      generalize bs (dtx d2) = b2 at T2 J1 dl2
      have hl0 : (m : Int) < L := by omega
      clear hc D1
      cases m with
      | zero =>
        have hc0 : wr.cell? ad = some (.int .i64 d1) := c1
        have hc1 : wr.cell? ⟨ad.block, ad.off + 1, none⟩ = some (.int .i64 d2) := c2
        have hl1 : 0 < L := by omega
        have X10 := cell_regrown x10
        have Xc0 := cell_regrown hc0
        have Xc1 := cell_regrown hc1
        have q1 : ¬ 9223372036854775807 < os.size + b1.size := by omega
        have q2 : ¬ 9223372036854775807 < os.size + b1.size + 1 := by omega
        have q3 : ¬ 9223372036854775807 < os.size + b1.size + 1 + b2.size := by omega
        go_wp2_with (fail)
        refine wp_region_quiet_below (by kernel_rfl) (by kernel_rfl) ?_
        repeat (quiet_step (first | (go_at_call_of 115 (Value.int .i64 d1); exact T1.out _ _) | (go_at_call_of 115 (Value.int .i64 d2); exact T2.out _ _)))
        refine wpQuiet_nil ?_
        intro w2 hw'
        have hb2 : Below wr.heap.size wr w2 := by
          obtain ⟨⟨dq, osq⟩, hw''⟩ := hw'
          subst hw''
          exact below_regrown _ _ _
        clear hw' X10 Xc0 Xc1
        go_wp2
        go_roundw
        case rel =>
          have hj : bs (joinTo (E.mv.map mtx) (0 + 1)) = os ++ b1 ++ ⟨#[62]⟩ ++ b2 := by
            rw [J1.out, if_pos True.intro, ← HO.out]
          refine ⟨0 + 1, _, by omega, by go_num, rfl, ?_, hj.symm, below_then HBr.out hb2⟩
          rw [← hj]; exact JL1
        case measure => simp [intOf]; omega
      | succ m =>
        have hc0 : wr.cell? ⟨ad.block, ad.off + (m + 1) * 2, none⟩ = some (.int .i64 d1) := c1
        have hc1 : wr.cell? ((ad.add ((m + 1) * 2)).add 1) = some (.int .i64 d2) := by
          have e : (ad.add ((m + 1) * 2)).add 1 = ad.add ((m + 1) * 2 + 1) := Deep.add_add _ _ _
          rw [e]; exact c2
        have hc2 : wr.cell? ⟨ad.block, ad.off + (m + 1) * 2 + 1, none⟩ = some (.int .i64 d2) := hc1
        have hc3 : wr.cell? ⟨(ad.add ((m + 1) * 2)).block, (ad.add ((m + 1) * 2)).off + 1, none⟩ = some (.int .i64 d2) := hc1
        have hl1 : (m : Int) + 1 < L := by omega
        have hl2 : m + 1 < L := by omega
        have hq0 : 0 ≤ (m : Int) + 1 := by omega
        have hq1 : ((m : Int) + 1).toNat = m + 1 := by omega
        have hpos : (0 : Int) < (m : Int) + 1 := by omega
        have X10 := cell_regrown x10
        have Xc0 := cell_regrown hc0
        have Xc4 := cell_regrown c1
        have Xc1 := cell_regrown hc1
        have Xc2 := cell_regrown hc2
        have Xc3 := cell_regrown hc3
        have q0 : ¬ 9223372036854775807 < os.size + 1 := by omega
        have q1 : ¬ 9223372036854775807 < os.size + 1 + b1.size := by omega
        have q2 : ¬ 9223372036854775807 < os.size + 1 + b1.size + 1 := by omega
        have q3 : ¬ 9223372036854775807 < os.size + 1 + b1.size + 1 + b2.size := by omega
        go_wp2_with (fail)
        refine wp_region_quiet_below (by kernel_rfl) (by kernel_rfl) ?_
        repeat (quiet_step (first | (go_at_call_of 115 (Value.int .i64 d1); exact T1.out _ _) | (go_at_call_of 115 (Value.int .i64 d2); exact T2.out _ _)))
        refine wpQuiet_nil ?_
        intro w2 hw'
        have hb2 : Below wr.heap.size wr w2 := by
          obtain ⟨⟨dq, osq⟩, hw''⟩ := hw'
          subst hw''
          exact below_regrown _ _ _
        clear hw' X10 Xc0 Xc1 Xc2 Xc3 Xc4
        go_wp2
        go_roundw
        case rel =>
          have hj : bs (joinTo (E.mv.map mtx) (m + 1 + 1)) = os ++ ⟨#[44]⟩ ++ b1 ++ ⟨#[62]⟩ ++ b2 := by
            rw [J1.out, if_neg (by omega), ← HO.out]
          refine ⟨m + 1 + 1, _, by omega, by go_num, rfl, ?_, hj.symm, below_then HBr.out hb2⟩
          rw [← hj]; exact JL1
        case measure => simp [intOf]; omega
    · have hml : L ≤ m := by omega
      have J2 : Hid (os = bs fin) := by
        show _ = _
        rw [HO.out, JA.out m hml]
      clear HO
      go_wp2
      go_ret
      exact ⟨ret_str J2.out, below_then HA.out HBr.out⟩

theorem fieldOf_any (E : EV) (sl skv mvv : Value) (k : Nat) (hk : k < 6) (w : World) (hd : Got w sl E.ds) (hs : Got w skv E.sk) (hm : GotM w mvv E.mv) (h20 : E.ds.length ≤ 20) (hw : EW E) :
    Calls Tryz.prog 94 #[ev E sl skv mvv, .string (fldB k)] w fun r w' => r = .returned (.string (bs (fT E k))) ∧ Below w.heap.size w w' := by
  match k, hk with
  | 4, _ => exact fo_skips E sl skv mvv w hd hs hm hw
  | 5, _ => exact fo_moves E sl skv mvv w hd hs hm hw
  | 0, _ =>
    obtain ⟨ra, rc, rfl⟩ := got_form hd
    obtain ⟨sa, sc, rfl⟩ := got_form hs
    obtain ⟨ma, mc, rfl⟩ := gotM_form hm
    exact fo_title E ra _ rc sa _ sc ma _ mc w
  | 1, _ =>
    obtain ⟨ra, rc, rfl⟩ := got_form hd
    obtain ⟨sa, sc, rfl⟩ := got_form hs
    obtain ⟨ma, mc, rfl⟩ := gotM_form hm
    exact fo_start E ra _ rc sa _ sc ma _ mc _ w (fun W _ => dayTextR_any E.st W hw.bd.1.1 hw.bd.1.2)
  | 2, _ =>
    obtain ⟨ra, rc, rfl⟩ := got_form hd
    obtain ⟨sa, sc, rfl⟩ := got_form hs
    obtain ⟨ma, mc, rfl⟩ := gotM_form hm
    exact fo_long E ra _ rc sa _ sc ma _ mc _ w (fun W _ => decimal_int E.lg W (by have := hw.bd.2.1; omega) (by have := hw.bd.2.2; omega))
  | 3, _ =>
    obtain ⟨ra, rc, rfl⟩ := got_form hd
    obtain ⟨sa, sc, rfl⟩ := got_form hs
    obtain ⟨ma, mc, rfl⟩ := gotM_form hm
    obtain ⟨t, ht, e⟩ := ruT_ok hw.rl
    show Calls _ _ _ _ fun r w' => r = .returned (.string (bs (ruT _))) ∧ _
    rw [e]
    have hk : ErrK E.f E.e E.ds E.c E.u 0 := by
      obtain ⟨k, hk⟩ := errK_ex E.f E.e E.ds E.c E.u
      have := (errK_0 hk).2 hw.rl
      subst this
      exact hk
    exact fo_rule E ra _ rc sa _ sc ma _ mc _ w (fun W hW => ruleError_k E.f E.e _ E.c E.u E.ds 0 W (hd.step hW) h20 hk) (fun W hW => ruleText_any E.f E.e _ E.c E.u E.ds t W (hd.step hW) h20 hw.rl ht)

set_option maxHeartbeats 2000000 in
set_option maxRecDepth 100000 in
theorem eventText_any (E : EV) (sl skv mvv : Value) (w : World) (hd : Got w sl E.ds) (hs : Got w skv E.sk) (hm : GotM w mvv E.mv) (h20 : E.ds.length ≤ 20) (hw : EW E) :
    Calls Tryz.prog 63 #[ev E sl skv mvv] w fun r w' => r = .returned (.string (bs (eT E))) ∧ Below w.heap.size w w' := by
  obtain ⟨i12, t40, k20, m20⟩ : E.id.size ≤ 12 ∧ E.ti.size ≤ 40 ∧ E.sk.length ≤ 20 ∧ E.mv.length ≤ 20 := ⟨hw.id.2.2, hw.ti.2, (lk_of hw.ls).1, (lk_of hw.ls).2.1⟩
  have hk : ErrK E.f E.e E.ds E.c E.u 0 := by
    obtain ⟨k, hk⟩ := errK_ex E.f E.e E.ds E.c E.u
    have := (errK_0 hk).2 hw.rl
    subst this
    exact hk
  have hk0 : EvK E 0 := by
    obtain ⟨k, hk⟩ := evK_ex E
    have := (evK_0 hk).2 hw
    subst this
    exact hk
  have EE : Hid (∀ W, Below w.heap.size w W → Calls Tryz.prog 24 #[ev E sl skv mvv] W fun r w' => r = .returned (.int .i64 0) ∧ Below W.heap.size W w') := fun W hW => eventError_k E sl skv mvv 0 0 W (hd.step hW) (hs.step hW) (hm.step hW) (by omega) (by omega) (by omega) (by omega) hk hk0 (fun W' hG => ruleError_k E.f E.e _ E.c E.u E.ds 0 W' hG h20 hk)
  have FO : Hid (∀ k, k < 6 → ∀ W, Below w.heap.size w W → Calls Tryz.prog 94 #[ev E sl skv mvv, .string (fldB k)] W fun r w' => r = .returned (.string (bs (fT E k))) ∧ Below W.heap.size W w') := fun k hk W hW => fieldOf_any E sl skv mvv k hk W (hd.step hW) (hs.step hW) (hm.step hW) h20 hw
  have FL : Hid (∀ k, (bs (fT E k)).size ≤ 1000) := fun k => by rw [bs_size]; exact fT_len hw h20 k
  have TL : Hid (∀ k, k ≤ 6 → (bs (eTo E k)).size ≤ 10000) := fun k hk => by rw [bs_size]; exact eTo_len hw h20 k hk
  have T0 : Hid (E.id = bs (eTo E 0)) := by
    show _ = _
    rw [eTo_zero]
    rfl
  have TS : Hid (∀ k, k < 6 → bs (eTo E (k + 1)) = bs (eTo E k) ++ ⟨#[124]⟩ ++ bs (fT E k)) := fun k hk => by
    rw [eTo_succ E k hk]
    show _ = bs _ ++ bs [124] ++ bs _
    rw [bs_app, bs_app]
    simp
  rw [← eTo_all]
  obtain ⟨ra, rc, rfl⟩ := got_form hd
  obtain ⟨sa, sc, rfl⟩ := got_form hs
  obtain ⟨ma, mc, rfl⟩ := gotM_form hm
  have hA := below_alloc w (.cells #[.string E.id, .string E.ti, .int .i64 E.st, .int .i64 E.lg, .string E.f, .int .i64 E.e, .slice ra E.ds.length rc, .int .i64 E.c, .int .i64 E.u, .slice sa E.sk.length sc, .slice ma E.mv.length mc] 35)
  have hB := EB.new w E (.slice ra E.ds.length rc) (.slice sa E.sk.length sc) (.slice ma E.mv.length mc)
  unfold EB at hB
  unfold ev at EE FO ⊢
  have HA : Hid (_) := hA
  have EE1 : Hid (Calls _ _ _ _ _) := EE.out _ hA
  clear hA hd hs hm hw hk hk0 EE
  generalize hw0 : w.alloc (.cells #[.string E.id, .string E.ti, .int .i64 E.st, .int .i64 E.lg, .string E.f, .int .i64 E.e, .slice ra E.ds.length rc, .int .i64 E.c, .int .i64 E.u, .slice sa E.sk.length sc, .slice ma E.mv.length mc] 35) = w0 at HA hB EE1
  have BX : Hid (∀ W, Below w0.heap.size w0 W → _) := fun W h => blk11 ((h.block _ (Array.getElem?_eq_some_iff.1 hB).1).trans hB)
  obtain ⟨x0, x1, x2, x3, x4, x5, x6, x7, x8, x9, x10⟩ := blk11 hB
  clear hB
  go_enter Tryz.func63, Tryz.ntmps63
  go_wp2_with (first
    | (go_at_call 93; refine (rfields_any _).mono ?_; rintro r w' ⟨rfl, rfl⟩)
    | (go_at_call 24; refine Calls.mono EE1.out ?_; rintro r w1 ⟨rfl, hb1⟩; clear x0 x1 x2 x3 x4 x5 x6 x7 x8 x9 x10; obtain ⟨x0, x1, x2, x3, x4, x5, x6, x7, x8, x9, x10⟩ := BX.out _ hb1))
  have FC : Hid (∀ (i : Nat), i < 6 → (w1.alloc fldO).cell? ⟨w1.heap.size, i, none⟩ = some (.string (fldB i))) := fun i hi => fld_cell w1 i hi
  have B3 : Hid (Below w0.heap.size w0 (w1.alloc fldO)) := below_then hb1 (below_alloc _ _)
  clear x0 x1 x2 x3 x4 x5 x6 x7 x8 x9 x10
  generalize w1.alloc fldO = w3 at FC B3 ⊢
  generalize w1.heap.size = nf at FC ⊢
  go_loopw [3, 5] (fun o i wr => ∃ (m : Nat) (os : ByteArray), m ≤ 6 ∧ i = .int .i64 m ∧ o = .string os ∧ os.size ≤ 10000 ∧ Hid (os = bs (eTo E m)) ∧ Hid (Below w3.heap.size w3 wr)) (fun _ i _ => 6 - (intOf i).toNat)
  case atStart => exact ⟨0, E.id, Nat.zero_le _, rfl, rfl, by omega, T0.out, Below.refl _ _⟩
  case round =>
    obtain ⟨m, os, hm, rfl, rfl, hos, HO, HBr⟩ := hrel
    by_cases hlt : m < 6
    · obtain ⟨x0, x1, x2, x3, x4, x5, x6, x7, x8, x9, x10⟩ := BX.out wr (below_then B3.out HBr.out)
      have hc1 := cell_step (FC.out m hlt) HBr.out
      have J1 : Hid (_) := TS.out m hlt
      have JL1 := TL.out (m + 1) (by omega)
      have dl := FL.out m
      have T1 : Hid (∀ d oo, Calls Tryz.prog 94 #[.agg #[.string E.id, .string E.ti, .int .i64 E.st, .int .i64 E.lg, .string E.f, .int .i64 E.e, .slice ra E.ds.length rc, .int .i64 E.c, .int .i64 E.u, .slice sa E.sk.length sc, .slice ma E.mv.length mc], .string (fldB m)] (grow (redrawn wr d) oo) fun r w'' => r = .returned (.string (bs (fT E m))) ∧ ∃ p : Regrown, w'' = grow (redrawn wr p.d) p.os) := fun d oo => Calls.regrown_of (FO.out m hlt _ (below_then HA.out (below_then B3.out (below_then HBr.out (below_regrown _ _ _)))))
      generalize bs (fT E m) = b1 at T1 J1 dl
      generalize fldB m = fb at hc1 T1
      have X0 := cell_regrown x0
      have X1 := cell_regrown x1
      have X2 := cell_regrown x2
      have X3 := cell_regrown x3
      have X4 := cell_regrown x4
      have X5 := cell_regrown x5
      have X6 := cell_regrown x6
      have X7 := cell_regrown x7
      have X8 := cell_regrown x8
      have X9 := cell_regrown x9
      have X10 := cell_regrown x10
      have Xc := cell_regrown hc1
      have q0 : ¬ 9223372036854775807 < os.size + 1 := by omega
      have q1 : ¬ 9223372036854775807 < os.size + 1 + b1.size := by omega
      clear x0 x1 x2 x3 x4 x5 x6 x7 x8 x9 x10 hc1
      go_wp2_with (fail)
      refine wp_region_quiet_below (by kernel_rfl) (by kernel_rfl) ?_
      repeat (quiet_step ((go_at_call 94; exact T1.out _ _)))
      refine wpQuiet_nil ?_
      intro w2 hw'
      have hb2 : Below wr.heap.size wr w2 := by
        obtain ⟨⟨dq, osq⟩, hw''⟩ := hw'
        subst hw''
        exact below_regrown _ _ _
      clear hw' X0 X1 X2 X3 X4 X5 X6 X7 X8 X9 X10 Xc
      go_wp2
      go_roundw
      case rel =>
        have hj : bs (eTo E (m + 1)) = os ++ ⟨#[124]⟩ ++ b1 := by
          rw [J1.out, ← HO.out]
        refine ⟨m + 1, _, by omega, by go_num, rfl, ?_, hj.symm, below_then HBr.out hb2⟩
        rw [← hj]; exact JL1
      case measure => simp [intOf]; omega
    · have hm6 : m = 6 := by omega
      have J2 : Hid (os = bs (eTo E 6)) := by
        show _ = _
        rw [HO.out, hm6]
      clear HO
      go_wp2
      go_ret
      exact ⟨ret_str J2.out, below_then HA.out (below_then B3.out HBr.out)⟩
end Go.Proofs.YtfdojecdnieccaaGreatDoor
