/- Package merge's goalsOf. -/
import Derived.Test.YtekminpoiokgfaaGreatDoorYaN
import Derived.Test.YtekminpoiokgfaaGreatDoorYaM
import Derived.Lib.SplitLaws
import Derived.Test.YtekminpoiokgfaaGreatDoorYaF
import Derived.WalkKit
import Derived.Deep.DeepCutAuto
import Derived.Deep.RegionWith
namespace Go.Proofs.YtekminpoiokgfaaGreatDoor
open Go Go.RowKit Go.Maps Go.Sort Cal
attribute [local go_sem] Oper.semAt_some

/-- where a day is moved to -/
def gl (ms : List (Int × Int)) (x : Int) : Int × Bool := ms.foldl (fun f m => if m.1 = x then (m.2, true) else f) (0, false)
theorem gl_snoc (ms : List (Int × Int)) (m : Int × Int) (x : Int) : gl (ms ++ [m]) x = if m.1 = x then (m.2, true) else gl ms x := by
  unfold gl
  rw [List.foldl_append]
  rfl
theorem gLaw : Keyed Tryz.prog 3 := int_keyed Tryz.underlying3
def gKey (x : Int) : Lit := .int .i64 x
theorem gKey_of {x : Int} (h0 : 0 ≤ x) (h1 : x ≤ 73048) : keyOf Tryz.prog 3 (.int .i64 x) = some (gKey x) := keyOf_int_mk Tryz.underlying3 (by simp [Lit.wf, IntKind.min, IntKind.max, IntKind.bits, IntKind.signed]; omega)
/-- a map of goals -/
structure GM (W : World) (b : Nat) (ms : List (Int × Int)) : Prop where
  own : ∃ D, W.ownsMap Tryz.prog 3 hld b ms.length D ∧ ∀ x, D.atKey (gKey x) (.held (gV (0, false))) = .held (gV (gl ms x))
theorem GM.kept {W W' : World} {b : Nat} {ms : List (Int × Int)} (h : GM W b ms) (hb : Below W.heap.size W W') : GM W' b ms := by
  obtain ⟨D, h1, h2⟩ := h.own
  exact ⟨D, h1.kept (grown_below hb none) (by simp), h2⟩
theorem gKey_inj {x y : Int} (h : gKey x = gKey y) : x = y := by
  unfold gKey at h
  injection h

set_option maxHeartbeats 1000000 in
set_option maxRecDepth 100000 in
theorem goalsOf_any (ms : List (Int × Int)) (sl : Value) (w : World) (hd : Movs w sl ms) (hv : ∀ m ∈ ms, 0 ≤ m.1 ∧ m.1 ≤ 73048) :
    Calls Tryz.prog 134 #[sl] w fun r w' => ∃ b, r = .returned (.map (some b)) ∧ w.heap.size ≤ b ∧ GM w' b ms ∧ Below w.heap.size w w' := by
  obtain ⟨a, cap, rfl, h20, hcap, hc⟩ := hd
  have HC : Hid (_) := hc
  have HV : Hid (∀ m ∈ ms, 0 ≤ m.1 ∧ m.1 ≤ 73048) := hv
  have hmm := @run_makeMap Tryz.prog
  clear hc hv
  go_enter Tryz.func134, Tryz.ntmps134
  have hM0 : GM (w.alloc (.map #[] 0)) w.heap.size [] := ⟨.map [], World.ownsMap_made w Tryz.prog 3 hld, fun x => rfl⟩
  have HM0 : Hid (GM (w.alloc (.map #[] 0)) w.heap.size []) := hM0
  clear hM0
  go_wp2
  go_loopw [5, 9] (fun _ i wr => ∃ m : Nat, m ≤ ms.length ∧ i = .int .i64 m ∧ w.heap.size < wr.heap.size ∧ Hid (Below w.heap.size w wr) ∧ Hid (GM wr w.heap.size (ms.take m))) (fun _ i _ => ms.length - (intOf i).toNat)
  case atStart => exact ⟨0, Nat.zero_le _, rfl, by rw [World.size_alloc]; omega, below_alloc _ _, HM0.out⟩
  case round =>
    obtain ⟨m, hm, rfl, hsz, hB, HM⟩ := hrel
    clear HM0
    by_cases hlt : m < ms.length
    · obtain ⟨blk, rfl, hblk, hcell, hcell'⟩ := HC.out m hlt
      have hc1 := cell_step hcell hB.out
      have hc2 := cell_step hcell' hB.out
      have HT : Hid (ms.take (m + 1) = ms.take m ++ [ms[m]]) := List.take_succ_eq_append_getElem hlt
      have hlen : (ms.take m).length = m := by simp; omega
      have hx := HV.out ms[m] (List.getElem_mem hlt)
      clear HC HV hcell hcell'
      generalize ms[m] = x at hc1 hc2 HT hx
      obtain ⟨x1, x2⟩ := x
      dsimp only at hc1 hc2 HT hx
      generalize ms.take m = o at HM HT hlen
      have HKY : Hid (keyOf Tryz.prog 3 (.int .i64 x1) = some (gKey x1)) := gKey_of hx.1 hx.2
      have hA := below_alloc wr (.cells #[.int .i64 x1, .int .i64 x2] 72)
      have hc0 : (wr.alloc (.cells #[.int .i64 x1, .int .i64 x2] 72)).cell? ⟨wr.heap.size, 0, none⟩ = some (.int .i64 x1) := by rw [World.cell?_alloc_new]; rfl
      have hc9 : (wr.alloc (.cells #[.int .i64 x1, .int .i64 x2] 72)).cell? ⟨wr.heap.size, 1, none⟩ = some (.int .i64 x2) := by rw [World.cell?_alloc_new]; rfl
      have hsz1 : w.heap.size < (wr.alloc (.cells #[.int .i64 x1, .int .i64 x2] 72)).heap.size := by rw [World.size_alloc]; omega
      obtain ⟨D, hown, hat⟩ := (HM.out.kept hA).own
      have HOWN : Hid (World.ownsMap _ _ _ _ _ _ _) := hown
      have HAT : Hid (∀ x, D.atKey (gKey x) (.held (gV (0, false))) = .held (gV (gl o x))) := hat
      have HNM : Hid (o.length < maxLen) := by show _ < _; unfold maxLen; omega
      have HB1 : Hid (Below w.heap.size w (wr.alloc (.cells #[.int .i64 x1, .int .i64 x2] 72))) := below_then hB.out hA
      clear hown hat hx hA
      go_upto_region 5 with (fail)
      generalize wr.alloc (.cells #[.int .i64 x1, .int .i64 x2] 72) = wq at hc0 hc9 hsz1 HOWN HB1
      go_wp2_with (at_mapUpdate; refine wpList_mapUpdate_in _ rfl _ _ _ 173 rfl 3 176 gLaw Tryz.underlying173 _ w.heap.size _ D rfl HOWN.out HNM.out _ _ (gKey x1) rfl rfl HKY.out (.held (gV (x2, true))) [] rfl ?_; intro w5 hown5 hturn5)
      go_roundw
      case rel =>
        refine ⟨m + 1, by omega, by go_num, Nat.lt_of_lt_of_le hsz1 hturn5.grown.size, HB1.out.grown hturn5.grown (Nat.le_of_lt hsz1) (fun k q => by cases q; exact Nat.le_refl _), ?_⟩
        show GM _ _ _
        rw [HT.out]
        refine ⟨_, by rw [List.length_append]; exact hown5, fun x => ?_⟩
        rw [gl_snoc]
        dsimp only
        by_cases e : x1 = x
        · subst e
          rw [if_pos rfl]
          exact atKey_put_same HOWN.out.isMap (by trivial) _ _
        · rw [if_neg e, atKey_put_other (fun q => e (gKey_inj q).symm)]
          exact HAT.out x
      case measure => simp [intOf]; omega
    · have HE : Hid (ms.take m = ms) := List.take_of_length_le (by omega)
      rw [HE.out] at HM
      clear HC HV
      go_wp2
      go_ret
      exact ⟨_, rfl, Nat.le_refl _, HM.out, hB.out⟩
end Go.Proofs.YtekminpoiokgfaaGreatDoor

/- The texts of an event's lists in plain mathematics. -/
namespace Go.Proofs.YtekminpoiokgfaaGreatDoor
open Go Cal

open Classical in
/-- a day's text -/
noncomputable def dtx (n : Int) : List UInt8 := if h : ∃ t : List UInt8, ∃ y m d : Int, vld y m d ∧ num y m d = n ∧ t = txt y m d then h.choose else []
theorem dtx_ok {n : Int} (h0 : 0 ≤ n) (h1 : n ≤ 73048) : ∃ y m d : Int, vld y m d ∧ num y m d = n ∧ dtx n = txt y m d := by
  obtain ⟨y, m, d, hv, hn⟩ := exists_date n h0 h1
  have h : ∃ t : List UInt8, ∃ y m d : Int, vld y m d ∧ num y m d = n ∧ t = txt y m d := ⟨_, y, m, d, hv, hn, rfl⟩
  have hs := h.choose_spec
  unfold dtx
  rw [dif_pos h]
  exact hs
theorem dtx_cases (n : Int) : dtx n = [] ∨ ∃ y m d : Int, vld y m d ∧ num y m d = n ∧ dtx n = txt y m d := by
  by_cases h : ∃ t : List UInt8, ∃ y m d : Int, vld y m d ∧ num y m d = n ∧ t = txt y m d
  · have hs := h.choose_spec
    right
    unfold dtx
    rw [dif_pos h]
    exact hs
  · left; unfold dtx; rw [dif_neg h]
theorem dtx_len (n : Int) : (dtx n).length ≤ 10 := by
  rcases dtx_cases n with h | ⟨y, m, d, _, _, h⟩
  · rw [h]; simp
  · rw [h, txt_length]; exact Nat.le_refl _
theorem txt_most {y m d : Int} (h : vld y m d) : ∀ c ∈ txt y m d, c.toNat ≤ 57 := by
  obtain ⟨h1, h2, h3, h4, h5, h6⟩ := h
  have := (dim_bd y m).2
  intro c hc
  unfold txt four two at hc
  simp only [List.mem_append, List.mem_cons, List.not_mem_nil, or_false] at hc
  rcases hc with ((((rfl | rfl | rfl | rfl) | rfl) | rfl | rfl) | rfl) | rfl | rfl
  all_goals first
    | (rw [dgt_nat _ (by omega) (by omega)]; omega)
    | decide
    | skip
theorem dtx_signs (n : Int) : ∀ c ∈ dtx n, 45 ≤ c.toNat ∧ c.toNat ≤ 57 := by
  intro c hc
  rcases dtx_cases n with h | ⟨y, m, d, hv, _, h⟩
  · rw [h] at hc; simp at hc
  · rw [h] at hc; exact ⟨txt_signs hv c hc, txt_most hv c hc⟩
theorem dtx_no (n : Int) (c : UInt8) (hc : c.toNat < 45 ∨ 57 < c.toNat) : c ∉ dtx n := fun h => by have := dtx_signs n c h; omega

/-- a move's text -/
noncomputable def mtx (m : Int × Int) : List UInt8 := dtx m.1 ++ 62 :: dtx m.2
theorem mtx_len (m : Int × Int) : (mtx m).length ≤ 21 := by
  have := dtx_len m.1
  have := dtx_len m.2
  unfold mtx
  simp
  omega
theorem mtx_no (m : Int × Int) (c : UInt8) (hc : c.toNat < 45 ∨ 62 < c.toNat) : c ∉ mtx m := by
  unfold mtx
  intro h
  rcases List.mem_append.1 h with h | h
  · exact dtx_no _ c (by omega) h
  · rcases List.mem_cons.1 h with rfl | h
    · simp at hc
    · exact dtx_no _ c (by omega) h
theorem mtx_pieces (m : Int × Int) : pieces 62 (mtx m) = [dtx m.1, dtx m.2] := by
  unfold mtx
  rw [pieces_at 62 _ _ (dtx_no _ _ (by decide)), pieces_no 62 _ (dtx_no _ _ (by decide))]
theorem mtx_count (m : Int × Int) : (mtx m).count 62 = 1 := by
  unfold mtx
  rw [List.count_append, List.count_eq_zero.2 (dtx_no _ _ (by decide)), List.count_cons_self, List.count_eq_zero.2 (dtx_no _ _ (by decide))]
theorem index_at (c : UInt8) (t : List UInt8) : ∀ (a : List UInt8), c ∉ a → Lib.indexByte (a ++ c :: t) c = a.length
  | [], _ => by unfold Lib.indexByte; simp
  | x :: a, h => by
    have hx : (x == c) = false := by rw [beq_eq_false_iff_ne]; exact fun q => h (by simp [q])
    have ih := index_at c t a (fun q => h (List.mem_cons_of_mem _ q))
    rw [List.cons_append, Lib.indexByte, hx, ih]
    have : (((a.length : Nat) : Int) == -1) = false := by rw [beq_eq_false_iff_ne]; omega
    rw [this]
    simp
theorem mtx_index (m : Int × Int) : Lib.indexByte (mtx m) 62 = (dtx m.1).length := index_at 62 _ _ (dtx_no _ _ (by decide))

/-- a list's text is cut into its pieces' texts -/
theorem list_pieces {l : List (List UInt8)} (h : l ≠ []) (hn : ∀ x ∈ l, (44 : UInt8) ∉ x) : pieces 44 (Lib.join l [44]) = l := pieces_join 44 l h hn
theorem join_nil (sep : List UInt8) : Lib.join [] sep = [] := rfl
theorem join_ne {l : List (List UInt8)} (h : l ≠ []) (hn : ∀ x ∈ l, x ≠ []) : Lib.join l [44] ≠ [] := by
  match l, h with
  | [x], _ => 
    have := hn x (by simp)
    simpa [Lib.join] using this
  | x :: y :: r, _ => rw [join_cons2]; have := hn x (by simp); simp

/-- strings.Split's pieces at one sign -/
theorem splitB_one (c : UInt8) : ∀ (k : Nat) (s : ByteArray), Lib.countB s ⟨#[c]⟩ = k → (Lib.splitB ⟨#[c]⟩ 0 k s).map (·.data.toList) = pieces c s.data.toList := by
  intro k
  induction k with
  | zero =>
    intro s h
    have h' : s.data.toList.count c = 0 := by rw [← Lib.count_one]; exact h
    rw [Lib.splitB_zero, pieces_no c _ (List.count_eq_zero.1 h')]; rfl
  | succ k ih =>
    intro s h
    have h' : s.data.toList.count c = k + 1 := by rw [← Lib.count_one]; exact h
    have hm : c ∈ s.data.toList := List.count_pos_iff.1 (by omega)
    have hi : Lib.indexB s ⟨#[c]⟩ = Lib.indexByte s.data.toList c := Lib.index_one _ _
    obtain ⟨i, hi'⟩ : ∃ i : Nat, Lib.indexByte s.data.toList c = i := by
      have := Lib.indexByte_ge s.data.toList c
      by_cases q : Lib.indexByte s.data.toList c = -1
      · obtain ⟨j, hj, he⟩ := List.mem_iff_getElem.1 hm
        exact absurd (by rw [List.getElem?_eq_some_iff]; exact ⟨hj, he⟩) (Lib.indexByte_none q j)
      · exact ⟨(Lib.indexByte s.data.toList c).toNat, by omega⟩
    rw [Lib.splitB_hit _ _ _ _ i (hi.trans hi'), pieces_found hi', List.map_cons, Lib.extract_from_zero]
    have e2 : (s.extract (i + ByteArray.size ⟨#[c]⟩) s.size).data.toList = s.data.toList.drop (i + 1) := Lib.extract_to_end _ _
    refine List.cons_eq_cons.2 ⟨rfl, ?_⟩
    rw [ih _ ?_, e2]
    show Lib.count _ _ = k
    rw [show (ByteArray.data ⟨#[c]⟩).toList = [c] from rfl, Lib.count_one, e2]
    obtain ⟨h1, h2⟩ := Lib.indexByte_some hi'
    obtain ⟨hl, he⟩ := List.getElem?_eq_some_iff.1 h1
    have hz : (s.data.toList.take i).count c = 0 := List.count_eq_zero.2 (fun q => by
      obtain ⟨j, hj, he⟩ := List.mem_iff_getElem.1 q
      rw [List.length_take] at hj
      rw [List.getElem_take] at he
      exact h2 j (by omega) (by rw [List.getElem?_eq_some_iff]; exact ⟨by omega, he⟩))
    have hsum : s.data.toList.count c = (s.data.toList.take i).count c + ((s.data.toList.drop (i + 1)).count c + 1) := by
      conv => lhs; rw [← List.take_append_drop i s.data.toList, List.drop_eq_getElem_cons hl, he]
      rw [List.count_append, List.count_cons_self]
    omega
end Go.Proofs.YtekminpoiokgfaaGreatDoor

/- Contract of rule.daysText. -/
namespace Go.Proofs.YtekminpoiokgfaaGreatDoor
open Go.RowKit Cal

theorem nm7 (m : Nat) (h : m ≤ 6) {w : World} (g : GlobR w) : w.cell? ⟨7, m, none⟩ = some (.string (bs (nm m))) := g.days m (by omega)

set_option maxHeartbeats 1600000 in
set_option maxRecDepth 100000 in
theorem daysText_any (sl : Value) (ds : List Int) (w : World) (g : GlobR w) (hd : Days w sl ds) (h0 : ds ≠ []) (hD : bD ds) :
    Calls Tryz.prog 128 #[sl] w fun e w' => e = .returned (.string (bs (Lib.join (ds.map nm) [44]))) ∧ Below w.heap.size w w' := by
  obtain ⟨a, cap, rfl, h20, hcap, hc⟩ := hd
  obtain ⟨i0, hi, hz0, hz1, hz2⟩ := info_parts info_str
  have HC : Hid (_) := hc
  have HD : Hid (bD ds) := hD
  have G : Hid (GlobR w) := g
  have H0 : Hid (ds ≠ []) := h0
  clear hc hD g h0
  go_enter Tryz.func128, Tryz.ntmps128
  go_wp2
  go_loopw [3, 5, 8] (fun v d i wr => ∃ k : Nat, k ≤ ds.length ∧ i = .int .i64 k ∧ wr.ownsRow w.heap.size 9 1 v k (((ds.take k).map nm).map sv) ∧ Below w.heap.size w wr) (fun _ _ i _ => ds.length - (intOf i).toNat)
  case atStart => exact ⟨0, Nat.zero_le _, rfl, World.ownsRow_nil _ _ _ _, Below.refl _ _⟩
  case round =>
    obtain ⟨k, hk, rfl, hown, hB⟩ := hrel
    by_cases hlt : k < ds.length
    · obtain ⟨blk, rfl, hblk, hcell⟩ := HC.out k hlt
      have hdk := HD.out ds[k] (List.getElem_mem hlt)
      have HT : Hid (ds.take (k + 1) = ds.take k ++ [ds[k]]) := List.take_succ_eq_append_getElem hlt
      have hcell2 := cell_step hcell hB
      clear hcell HC HD H0
      generalize ds[k] = d at hcell2 hdk HT
      obtain ⟨m, rfl⟩ : ∃ m : Nat, d = m := ⟨d.toNat, by omega⟩
      have hm6 : m ≤ 6 := by omega
      have hn2 := nm7 m hm6 (G.out.step hB)
      clear hdk
      generalize hbm : bs (nm m) = bm at hn2
      have HBM : Hid (bs (nm m) = bm) := hbm
      clear hbm
      generalize hL : ((ds.take k).map nm).map sv = xs at hown
      have HL : Hid (((ds.take k).map nm).map sv = xs) := hL
      clear hL
      go_wp2_with (first
        | (at_builtin; refine wpList_append_own _ rfl _ _ 37 rfl w.heap.size 9 i0 (.string ⟨#[]⟩) 1 16 Tryz.underlying37 hi hz0 hz1 hz2 rfl (by decide) _ _ _ rfl (hown.alloc _) ⟨wr.heap.size, 0, none⟩ 1 1 [.string bm] rfl rfl ?c1 ?c2 ?c3 ?c4 ?c5 ?_)
        | go_in)
      case c1 =>
        intro j u hj
        match j, hj with
        | 0, hj => simp at hj; subst hj; simp [Addr.add]
      case c2 => intro u hu; simp at hu; subst hu; rfl
      case c3 => unfold maxLen; omega
      case c4 => omega
      case c5 => have := hB.size; simp; omega
      · intro v' w1 hown' hgrow _
        have hb1 : Below w.heap.size w w1 := (hB.alloc hB.size _).grown hgrow (by have := hB.size; simp; omega) (fun j ej => (hown.lt j ej).1)
        have HOW : Hid (_) := hown'
        clear hown'
        go_wp2
        go_roundw
        case rel =>
          refine ⟨k + 1, by omega, by go_num, ?_, hb1⟩
          rw [HT.out, List.map_append, List.map_append]
          show w1.ownsRow _ _ _ _ _ (_ ++ [Value.string (bs (nm m))])
          rw [HBM.out, HL.out]; exact HOW.out
        case measure => simp [intOf]; omega
    · have ek : k = ds.length := by omega
      subst ek
      have hown2 : wr.ownsRow w.heap.size 9 1 u3 (ds.map nm).length ((ds.map nm).map sv) := by
        rw [List.length_map]; rw [List.take_length] at hown; exact hown
      have J := join_any u3 w.heap.size (ds.map nm) [44] wr (by simpa using H0.out) hown2 (by simp; omega) (by have := days_len ds; omega)
      have JJ : Hid (_) := J
      clear J hown hown2 HC HD
      go_wp2_with (go_at_call 67; refine Calls.mono JJ.out ?_; rintro e w1 ⟨rfl, hb1⟩)
      go_ret
      exact ⟨rfl, hB.trans (hb1.mono hB.size)⟩
end Go.Proofs.YtekminpoiokgfaaGreatDoor

/- Contract of rule.Text: a rule that is well has its words, joined by blanks. -/
namespace Go.Proofs.YtekminpoiokgfaaGreatDoor
open Go.RowKit Cal

/-- a rule's box -/
def RBx (w : World) (f : ByteArray) (e : Int) (sl : Value) (c u : Int) : World := w.alloc (.cells #[.string f, .int .i64 e, sl, .int .i64 c, .int .i64 u] 41)

set_option maxHeartbeats 1000000 in
set_option maxRecDepth 100000 in
theorem rtext_more (f : ByteArray) (e : Int) (sl : Value) (c u : Int) (ds : List Int) (t : List UInt8) (w : World) (g : GlobR w) (hd : Days w sl ds) (hw : Well (rd f e ds c u)) (ht : UT (rd f e ds c u) t)
    (hne : (f.toList == [111, 110, 99, 101]) = false) :
    Calls Tryz.prog 100 #[rv f e sl c u] w fun r w' => r = .returned (.string (bs (rtext (rd f e ds c u) t))) ∧ Below w.heap.size w w' := by
  have D : Hid (Days w sl ds) := hd
  obtain ⟨a, cap, rfl, h20, hcap, hc⟩ := hd
  obtain ⟨i0, hi, hz0, hz1, hz2⟩ := info_parts info_str
  have G : Hid (GlobR w) := g
  have W : Hid (Well (rd f e ds c u)) := hw
  have U : Hid (UT (rd f e ds c u) t) := ht
  have he : 1 ≤ e ∧ e ≤ 100 := hw.ev
  obtain ⟨he0, he1⟩ := he
  have he0' : 0 ≤ e := by omega
  have he1' : e ≤ 100000 := by omega
  clear hc g hw ht
  unfold rv
  go_enter Tryz.func100, Tryz.ntmps100
  go_upto_region 5 with (go_at_call 53; refine (check_ok f e _ c u ds _ (D.out.step (below_alloc _ _)) W.out).mono ?_; rintro r w1 ⟨rfl, hb1⟩; obtain ⟨x0, x1, x2, x3, x4⟩ := box5 hb1)
  have T1 : Hid (Tab w1.drew) := (G.out.step (below_then (below_alloc _ _) (below_then hb1 (drew_below _)))).tab
  go_cut [3] (fun v wx => TR (RBx w f e (.slice a ds.length cap) c u) wx v [f.data.toList, Lib.itoa e])
  case first =>
    go_region_with (go_at_call 99; refine (itoa_any e _ he0' he1' T1.out).mono ?_; rintro r w2 ⟨rfl, hb2⟩; have y0 := cell_step (w := w1.drew) x0 hb2)
    all_goals
      go_wp2_with fail
      go_meet
      case rel => exact TR.lit (below_then hb1 (below_then (drew_below _) hb2)) f (bs (Lib.itoa e))
  case rest =>
    have hT : Hid (TR (RBx w f e (.slice a ds.length cap) c u) wc u3 [f.data.toList, Lib.itoa e]) := hcut
    clear x0 x1 x2 x3 x4 T1 hb1 hcut
    obtain ⟨x0, x1, x2, x3, x4⟩ := box5 hT.out.below
    go_upto_if 19 with fail
    go_cut [3] (fun v wx => TR (RBx w f e (.slice a ds.length cap) c u) wx v ([f.data.toList, Lib.itoa e] ++ wDays (rd f e ds c u)))
    case first =>
      by_cases h0 : ds = []
      · have hl : ¬ 0 < ds.length := by rw [h0]; simp
        have HE : Hid (wDays (rd f e ds c u) = []) := by unfold wDays; rw [if_pos (show (rd f e ds c u).days = [] from h0)]; trivial
        clear h0
        go_wp2
        go_meet
        case rel => rw [HE.out, List.append_nil]; exact hT.out
      · have hl : 0 < ds.length := List.length_pos_iff.2 h0
        have HE : Hid (wDays (rd f e ds c u) = [Lib.join (ds.map nm) [44]]) := by unfold wDays; rw [if_neg (show ¬ (rd f e ds c u).days = [] from h0)]; trivial
        have DT : Hid (Calls Tryz.prog 128 #[.slice a ds.length cap] wc fun e w' => e = .returned (.string (bs (Lib.join (ds.map nm) [44]))) ∧ Below wc.heap.size wc w') :=
          daysText_any _ ds wc (G.out.step (below_then (below_alloc _ _) hT.out.below)) (D.out.step (below_then (below_alloc _ _) hT.out.below)) h0 W.out.ds
        clear h0
        generalize hjb : bs (Lib.join (ds.map nm) [44]) = jb at DT
        have HJ : Hid (bs (Lib.join (ds.map nm) [44]) = jb) := hjb
        clear hjb
        go_wp2_with (first
          | (go_at_call 128; refine Calls.mono DT.out ?_; rintro r w2 ⟨rfl, hb2⟩)
          | (at_builtin; refine wpList_append_own _ rfl _ _ 37 rfl (RBx w f e (.slice a ds.length cap) c u).heap.size 9 i0 (.string ⟨#[]⟩) 1 16 Tryz.underlying37 hi hz0 hz1 hz2 rfl (by decide) _ _ _ rfl ((hT.out.step hb2).own.alloc _) ⟨w2.heap.size, 0, none⟩ 1 1 [.string jb] rfl rfl ?c1 ?c2 ?c3 ?c4 ?c5 ?_)
          | go_in)
        case c1 =>
          intro j u hj
          match j, hj with
          | 0, hj => simp at hj; subst hj; simp [Addr.add]
        case c2 => intro u hu; simp at hu; subst hu; rfl
        case c3 => unfold maxLen; simp
        case c4 => simp
        case c5 => have := (hT.out.step hb2).below.size; simp; omega
        · intro v' w3 hown' hgrow _
          have HOW : Hid (TR (RBx w f e (.slice a ds.length cap) c u) w3 v' ([f.data.toList, Lib.itoa e] ++ wDays (rd f e ds c u))) := by
            rw [HE.out]
            refine TR.app [Lib.join (ds.map nm) [44]] (hT.out.step hb2) rfl ?_ hown' hgrow
            rw [← HJ.out]; rfl
          clear hown' hgrow
          go_wp2
          go_meet
          case rel => exact HOW.out
    case rest =>
      have HL : Hid (TR (RBx w f e (.slice a ds.length cap) c u) wc u3 ([f.data.toList, Lib.itoa e] ++ wDays (rd f e ds c u))) := hcut
      clear x0 x1 x2 x3 x4 hcut hT
      have hll : ([f.data.toList, Lib.itoa e] ++ wDays (rd f e ds c u)).length ≤ 3 := by unfold wDays; split <;> simp
      generalize hL0 : [f.data.toList, Lib.itoa e] ++ wDays (rd f e ds c u) = L at HL hll
      have HL0 : Hid ([f.data.toList, Lib.itoa e] ++ wDays (rd f e ds c u) = L) := hL0
      clear hL0
      have hT : Hid (TR (RBx w f e (.slice a ds.length cap) c u) wc u3 L) := HL.out
      clear HL
      obtain ⟨x0, x1, x2, x3, x4⟩ := box5 hT.out.below
      have hc0 : 0 ≤ c ∧ c ≤ 1000 := W.out.co
      obtain ⟨hc0, hc1⟩ := hc0
      have hc1' : c ≤ 100000 := by omega
      go_upto_if 28 with fail
      go_cut [3] (fun v wx => TR (RBx w f e (.slice a ds.length cap) c u) wx v (L ++ wCount (rd f e ds c u)))
      case first =>
        by_cases h0 : c = 0
        · have hl : ¬ 0 < c := by omega
          have HE : Hid (wCount (rd f e ds c u) = []) := by unfold wCount; rw [if_pos (show (rd f e ds c u).count = 0 from h0)]; trivial
          clear h0
          go_wp2
          go_meet
          case rel => rw [HE.out, List.append_nil]; exact hT.out
        · have hl : 0 < c := by omega
          have HE : Hid (wCount (rd f e ds c u) = [countW, Lib.itoa c]) := by unfold wCount; rw [if_neg (show ¬ (rd f e ds c u).count = 0 from h0)]; trivial
          have DT : Hid (Calls Tryz.prog 99 #[.int .i64 c] wc fun e w' => e = .returned (.string (bs (Lib.itoa c))) ∧ Below wc.heap.size wc w') :=
            itoa_any c wc hc0 hc1' (G.out.step (below_then (below_alloc _ _) hT.out.below)).tab
          clear h0
          generalize hjb : bs (Lib.itoa c) = jb at DT
          have HJ : Hid (bs (Lib.itoa c) = jb) := hjb
          clear hjb
          go_wp2_with (first
            | (go_at_call 99; refine Calls.mono DT.out ?_; rintro r w2 ⟨rfl, hb2⟩)
            | (at_builtin; refine wpList_append_own _ rfl _ _ 37 rfl (RBx w f e (.slice a ds.length cap) c u).heap.size 9 i0 (.string ⟨#[]⟩) 1 16 Tryz.underlying37 hi hz0 hz1 hz2 rfl (by decide) _ _ _ rfl ((hT.out.step hb2).own.alloc _) ⟨w2.heap.size, 0, none⟩ 2 2 [.string ⟨#[99, 111, 117, 110, 116]⟩, .string jb] rfl rfl ?c1 ?c2 ?c3 ?c4 ?c5 ?_)
            | go_in)
          case c1 =>
            intro j u hj
            match j, hj with
            | 0, hj => simp at hj; subst hj; simp [Addr.add]
            | 1, hj => simp at hj; subst hj; simp [Addr.add]
          case c2 => intro u hu; simp at hu; rcases hu with rfl | rfl <;> rfl
          case c3 => unfold maxLen; omega
          case c4 => omega
          case c5 => have := (hT.out.step hb2).below.size; simp; omega
          · intro v' w3 hown' hgrow _
            have HOW : Hid (TR (RBx w f e (.slice a ds.length cap) c u) w3 v' (L ++ wCount (rd f e ds c u))) := by
              rw [HE.out]
              refine TR.app [countW, Lib.itoa c] (hT.out.step hb2) (by simp) ?_ hown' hgrow
              rw [← HJ.out, List.map_append]; rfl
            clear hown' hgrow
            go_wp2
            go_meet
            case rel => exact HOW.out
      case rest =>
        have HL : Hid (TR (RBx w f e (.slice a ds.length cap) c u) wc u3 (L ++ wCount (rd f e ds c u))) := hcut
        clear x0 x1 x2 x3 x4 hcut hT
        have hll2 : (L ++ wCount (rd f e ds c u)).length ≤ 5 := by rw [List.length_append]; unfold wCount; split <;> simp <;> omega
        generalize hM0 : L ++ wCount (rd f e ds c u) = M at HL hll2
        have HM0 : Hid (L ++ wCount (rd f e ds c u) = M) := hM0
        clear hM0
        have hT : Hid (TR (RBx w f e (.slice a ds.length cap) c u) wc u3 M) := HL.out
        clear HL hll
        obtain ⟨x0, x1, x2, x3, x4⟩ := box5 hT.out.below
        go_upto_if 37 with fail
        go_cut [3] (fun v wx => TR (RBx w f e (.slice a ds.length cap) c u) wx v (M ++ wUntil (rd f e ds c u) t))
        case first =>
          by_cases h0 : u = -1
          · have hl : (u != -1) = false := by simp [h0]
            have HE : Hid (wUntil (rd f e ds c u) t = []) := by unfold wUntil; rw [if_pos (show (rd f e ds c u).til = -1 from h0)]; trivial
            clear h0
            go_wp2
            go_meet
            case rel => rw [HE.out, List.append_nil]; exact hT.out
          · have hl : (u != -1) = true := by simp [h0]
            have HE : Hid (wUntil (rd f e ds c u) t = [untilW, t]) := by unfold wUntil; rw [if_neg (show ¬ (rd f e ds c u).til = -1 from h0)]; trivial
            have DT : Hid (Calls Tryz.prog 98 #[.int .i64 u] wc fun e w' => e = .returned (.string (bs t)) ∧ Below wc.heap.size wc w') := by
              rcases U.out with ⟨e1, _⟩ | ⟨_, y, m, d, hv, hn, rfl⟩
              · exact absurd e1 h0
              · exact text_ok u y m d wc hv hn (G.out.step (below_then (below_alloc _ _) hT.out.below)).tab
            clear h0
            generalize hjb : bs t = jb at DT
            have HJ : Hid (bs t = jb) := hjb
            clear hjb
            go_wp2_with (first
              | (go_at_call 98; refine Calls.mono DT.out ?_; rintro r w2 ⟨rfl, hb2⟩)
              | (at_builtin; refine wpList_append_own _ rfl _ _ 37 rfl (RBx w f e (.slice a ds.length cap) c u).heap.size 9 i0 (.string ⟨#[]⟩) 1 16 Tryz.underlying37 hi hz0 hz1 hz2 rfl (by decide) _ _ _ rfl ((hT.out.step hb2).own.alloc _) ⟨w2.heap.size, 0, none⟩ 2 2 [.string ⟨#[117, 110, 116, 105, 108]⟩, .string jb] rfl rfl ?c1 ?c2 ?c3 ?c4 ?c5 ?_)
              | go_in)
            case c1 =>
              intro j u hj
              match j, hj with
              | 0, hj => simp at hj; subst hj; simp [Addr.add]
              | 1, hj => simp at hj; subst hj; simp [Addr.add]
            case c2 => intro u hu; simp at hu; rcases hu with rfl | rfl <;> rfl
            case c3 => unfold maxLen; omega
            case c4 => omega
            case c5 => have := (hT.out.step hb2).below.size; simp; omega
            · intro v' w3 hown' hgrow _
              have HOW : Hid (TR (RBx w f e (.slice a ds.length cap) c u) w3 v' (M ++ wUntil (rd f e ds c u) t)) := by
                rw [HE.out]
                refine TR.app [untilW, t] (hT.out.step hb2) (by simp) ?_ hown' hgrow
                rw [← HJ.out, List.map_append]; rfl
              clear hown' hgrow
              go_wp2
              go_meet
              case rel => exact HOW.out
        case rest =>
          have hW : M ++ wUntil (rd f e ds c u) t = words (rd f e ds c u) t := by
            rw [← HM0.out, ← HL0.out]
            unfold words
            rw [if_neg (by rw [beq_eq_false_iff_ne] at hne; exact hne)]
            have e1 : (rd f e ds c u).freq = f.data.toList := ByteArray.toList_eq ..
            rw [e1]
            show _ = _ :: Lib.itoa e :: _
            simp
          have HL : Hid (TR (RBx w f e (.slice a ds.length cap) c u) wc u3 (words (rd f e ds c u) t)) := by rw [← hW]; exact hcut
          have J : Hid (Calls Tryz.prog 67 #[u3, .string ⟨#[32]⟩] wc fun e' w' => e' = .returned (.string (bs (rtext (rd f e ds c u) t))) ∧ Below wc.heap.size wc w') :=
            join_any u3 _ (words (rd f e ds c u) t) [32] wc (words_ne _ _) HL.out.own (by have := words_len (rd f e ds c u) t; omega) (by have := rtext_len W.out U.out h20; unfold rtext at this; omega)
          clear hW hcut hT x0 x1 x2 x3 x4
          go_wp2_with (go_at_call 67; refine Calls.mono J.out ?_; rintro r w1 ⟨rfl, hb1⟩)
          go_ret
          exact ⟨rfl, below_then (below_alloc _ _) (below_then HL.out.below hb1)⟩
end Go.Proofs.YtekminpoiokgfaaGreatDoor

/- Contract of rule.Text, once and otherwise. -/
namespace Go.Proofs.YtekminpoiokgfaaGreatDoor
open Go.RowKit Cal

theorem rtext_once (f : ByteArray) (e : Int) (sl : Value) (c u : Int) (ds : List Int) (t : List UInt8) (w : World) (hd : Days w sl ds) (hw : Well (rd f e ds c u))
    (hne : (f.toList == [111, 110, 99, 101]) = true) :
    Calls Tryz.prog 100 #[rv f e sl c u] w fun r w' => r = .returned (.string (bs (rtext (rd f e ds c u) t))) ∧ Below w.heap.size w w' := by
  have D : Hid (Days w sl ds) := hd
  obtain ⟨a, cap, rfl, h20, hcap, hc⟩ := hd
  have W : Hid (Well (rd f e ds c u)) := hw
  have HR : Hid (bs (rtext (rd f e ds c u) t) = ⟨#[111, 110, 99, 101]⟩) := by
    unfold rtext words
    rw [if_pos (show (rd f e ds c u).freq = onceW by rw [beq_iff_eq] at hne; exact hne), Lib.join_one]
    exact rfl
  rw [HR.out]
  clear hc hw HR
  unfold rv
  go_enter Tryz.func100, Tryz.ntmps100
  go_wp2_with (go_at_call 53; refine (check_ok f e _ c u ds _ (D.out.step (below_alloc _ _)) W.out).mono ?_; rintro r w1 ⟨rfl, hb1⟩; obtain ⟨x0, x1, x2, x3, x4⟩ := box5 hb1)
  go_ret
  exact ⟨rfl, below_then (below_alloc _ _) hb1⟩

theorem rtext_any (f : ByteArray) (e : Int) (sl : Value) (c u : Int) (ds : List Int) (t : List UInt8) (w : World) (g : GlobR w) (hd : Days w sl ds) (hw : Well (rd f e ds c u)) (ht : UT (rd f e ds c u) t) :
    Calls Tryz.prog 100 #[rv f e sl c u] w fun r w' => r = .returned (.string (bs (rtext (rd f e ds c u) t))) ∧ Below w.heap.size w w' := by
  cases hne : (f.toList == [111, 110, 99, 101]) with
  | true => exact rtext_once f e sl c u ds t w hd hw hne
  | false => exact rtext_more f e sl c u ds t w g hd hw ht hne
end Go.Proofs.YtekminpoiokgfaaGreatDoor
