/- Package event's Fields, Get, listText and Text: an event's parts, one behind the other. -/
import Derived.Test.YtekminpoiokgfaaGreatDoorYaE
import Derived.Test.YtekminpoiokgfaaGreatDoorYaF
import Derived.Deep.DeepCutAuto
import Derived.Maps.AppendAt
import Derived.Laws.AppendOwnNone
import Derived.Test.YtekminpoiokgfaaGreatDoorYaB
import Derived.Lib.LaidTab
import Derived.Lib.SmallJoins
import Derived.Deep.SlicePairs
namespace Go.Proofs.YtekminpoiokgfaaGreatDoor
open Go Go.RowKit Cal
attribute [local go_sem] Oper.semAt_some

/-- the fields' names -/
def fldB : Nat → ByteArray
  | 0 => ⟨#[116, 105, 116, 108, 101]⟩
  | 1 => ⟨#[115, 116, 97, 114, 116]⟩
  | 2 => ⟨#[108, 111, 110, 103]⟩
  | 3 => ⟨#[114, 117, 108, 101]⟩
  | 4 => ⟨#[115, 107, 105, 112, 115]⟩
  | _ => ⟨#[109, 111, 118, 101, 115]⟩
/-- the row of the fields' names -/
def fldO : Obj := .cells #[.string ⟨#[116, 105, 116, 108, 101]⟩, .string ⟨#[115, 116, 97, 114, 116]⟩, .string ⟨#[108, 111, 110, 103]⟩, .string ⟨#[114, 117, 108, 101]⟩, .string ⟨#[115, 107, 105, 112, 115]⟩, .string ⟨#[109, 111, 118, 101, 115]⟩] 9
theorem fld_cell (w : World) (i : Nat) (h : i < 6) : (w.alloc fldO).cell? ⟨w.heap.size, i, none⟩ = some (.string (fldB i)) := by
  unfold fldO
  rw [World.cell?_alloc_new]
  match i, h with
  | 0, _ => rfl
  | 1, _ => rfl
  | 2, _ => rfl
  | 3, _ => rfl
  | 4, _ => rfl
  | 5, _ => rfl
theorem fields_any (w : World) : Calls Tryz.prog 65 #[] w fun r w' => r = .returned (.slice (some ⟨w.heap.size, 0, none⟩) 6 6) ∧ w' = w.alloc fldO := by
  unfold fldO
  go_enter Tryz.func65, Tryz.ntmps65
  go_wp2
  go_ret
  exact ⟨rfl, rfl⟩

set_option maxHeartbeats 1600000 in
set_option maxRecDepth 100000 in
theorem listTextI_any (ds : List Int) (sl : Value) (tx : Int → List UInt8) (w : World) (hd : Ints w sl ds) (h20 : ds.length ≤ 60) (hl : ∀ x ∈ ds, (tx x).length ≤ 30)
    (hc : ∀ x ∈ ds, ∀ W, Below w.heap.size w W → Calls Tryz.prog 98 #[.int .i64 x] W fun r w' => r = .returned (.string (bs (tx x))) ∧ Below W.heap.size W w') :
    Calls Tryz.prog 101 #[sl, .func (.func 98) #[] #[]] w fun r w' => r = .returned (.string (bs (Lib.join (ds.map tx) [44]))) ∧ Below w.heap.size w w' := by
  obtain ⟨a, cap, rfl, _, hcap, hcell⟩ := hd
  obtain ⟨i0, hi, hz0, hz1, hz2⟩ := info_parts info_str
  have HC : Hid (_) := hcell
  have HT : Hid (_) := hc
  have HL : Hid (_) := hl
  clear hcell hc hl
  go_enter Tryz.func101, Tryz.ntmps101
  go_wp2
  go_loopw [5, 7, 10] (fun v _ i wr => ∃ m : Nat, m ≤ ds.length ∧ i = .int .i64 m ∧ Hid (TR w wr v ((ds.map tx).take m))) (fun _ _ i _ => ds.length - (intOf i).toNat)
  case atStart => exact ⟨0, Nat.zero_le _, rfl, TR.nil w⟩
  case round =>
    obtain ⟨m, hm, rfl, HO⟩ := hrel
    by_cases hlt : m < ds.length
    · obtain ⟨blk, rfl, hblk, hcl⟩ := HC.out m hlt
      have hc1 := cell_step hcl HO.out.below
      have HN : Hid ((ds.map tx).take (m + 1) = (ds.map tx).take m ++ [tx ds[m]]) := by
        show _ = _
        rw [List.take_succ_eq_append_getElem (by simpa using hlt)]; simp
      have hcall := HT.out ds[m] (List.getElem_mem hlt) wr HO.out.below
      have hlen : ((ds.map tx).take m).length = m := by simp; omega
      clear HC HT HL hcl
      generalize ds[m] = x at hc1 HN hcall
      generalize (ds.map tx).take m = L at HO HN hlen
      obtain ⟨oa, oc, rfl⟩ := HO.out.form
      rw [hlen] at HO
      have HLN : Hid (L.length = m) := hlen
      have HCL : Hid (_) := hcall
      generalize hbt : bs (tx x) = bt at HCL
      have HBT : Hid (bs (tx x) = bt) := hbt
      clear hlen hcall hbt
      rw [HLN.out]
      go_wp2_with (first
        | (go_at_call 98; refine Calls.mono HCL.out ?_; rintro r w2 ⟨rfl, hb2⟩; have T2 : Hid (TR w w2 (.slice oa m oc) L) := HO.out.step hb2; have NC : Hid (_) := word_cell w2 bt; have hz2' : w.heap.size ≤ w2.heap.size := T2.out.below.size)
        | (at_builtin; refine wpList_append_own _ rfl _ _ 37 rfl w.heap.size 9 i0 (.string ⟨#[]⟩) 1 16 Tryz.underlying37 hi hz0 hz1 hz2 rfl (by decide) _ _ _ rfl (show World.ownsRow _ _ _ _ _ m (L.map sv) by have := T2.out.own.alloc (.cells #[.string bt] 9); rwa [HLN.out] at this) ⟨w2.heap.size, 0, none⟩ 1 1 [.string bt] rfl rfl NC.out (fun v hv => by rw [List.mem_singleton.1 hv]; rfl) (by unfold maxLen; omega) (by omega) (by simp; omega) ?_; intro v' w3 hown' hgrow _; have T3 : Hid (TR w w3 v' (L ++ [tx x])) := TR.app [tx x] T2.out (by rw [List.length_append, HLN.out]; rfl) (by rw [List.map_append, ← HBT.out]; rfl) hown' hgrow; obtain ⟨g', cap', rfl⟩ := ownsRow_succ hown'; clear hown' hgrow)
        | go_in)
      go_roundw
      case rel => exact ⟨m + 1, by omega, by go_num, by rw [HN.out]; exact T3.out⟩
      case measure => simp [intOf]; omega
    · have HE : Hid ((ds.map tx).take m = ds.map tx) := List.take_of_length_le (by simp; omega)
      rw [HE.out] at HO
      have hle : (Lib.join (ds.map tx) [44]).length ≤ 100000 := by
        have := joinLen (ds.map tx) [44] 30 (fun y hy => by obtain ⟨x, hx, rfl⟩ := List.mem_map.1 hy; exact HL.out x hx)
        simp at this
        have h31 : ds.length * 31 ≤ 60 * 31 := Nat.mul_le_mul_right _ h20
        omega
      have J : Hid (_) := joins_any w _ (ds.map tx) [44] wr HO.out (by simp; omega) hle
      obtain ⟨oa, oc, rfl⟩ := HO.out.form
      rw [List.length_map] at HO J ⊢
      clear HC HT HL hle
      unfold bs at J
      go_wp2_with (go_at_call 67; refine Calls.mono J.out ?_; rintro r w2 ⟨rfl, hb2⟩)
      go_ret
      exact ⟨rfl, below_then HO.out.below hb2⟩
theorem get_title (E : EV) (ra : Option Addr) (rn rc : Nat) (sa : Option Addr) (sn sc : Nat) (ma : Option Addr) (mn mc : Nat) (w : World) :
    Calls Tryz.prog 66 #[ev E (.slice ra rn rc) (.slice sa sn sc) (.slice ma mn mc), .string (fldB 0)] w fun r w' => r = .returned (.string E.ti) ∧ Below w.heap.size w w' := by
  obtain ⟨idn, ti, st, lg, f, e, ds, c, u, sk, mv⟩ := E
  unfold ev fldB
  dsimp only
  go_enter Tryz.func66, Tryz.ntmps66
  go_wp2
  go_ret
  exact ⟨rfl, below_alloc _ _⟩
theorem get_start (E : EV) (ra : Option Addr) (rn rc : Nat) (sa : Option Addr) (sn sc : Nat) (ma : Option Addr) (mn mc : Nat) (b : ByteArray) (w : World)
    (h : ∀ W, Below w.heap.size w W → Calls Tryz.prog 98 #[.int .i64 E.st] W fun r w' => r = .returned (.string b) ∧ Below W.heap.size W w') :
    Calls Tryz.prog 66 #[ev E (.slice ra rn rc) (.slice sa sn sc) (.slice ma mn mc), .string (fldB 1)] w fun r w' => r = .returned (.string b) ∧ Below w.heap.size w w' := by
  obtain ⟨idn, ti, st, lg, f, e, ds, c, u, sk, mv⟩ := E
  unfold ev fldB
  dsimp only at h ⊢
  have H : Hid (_) := h _ (below_alloc w (.cells #[.string idn, .string ti, .int .i64 st, .int .i64 lg, .string f, .int .i64 e, .slice ra rn rc, .int .i64 c, .int .i64 u, .slice sa sn sc, .slice ma mn mc] 44))
  clear h
  go_enter Tryz.func66, Tryz.ntmps66
  go_wp2_with (go_at_call 98; refine Calls.mono H.out ?_; rintro r w1 ⟨rfl, hb1⟩)
  go_ret
  exact ⟨rfl, below_then (below_alloc _ _) hb1⟩
theorem get_long (E : EV) (ra : Option Addr) (rn rc : Nat) (sa : Option Addr) (sn sc : Nat) (ma : Option Addr) (mn mc : Nat) (b : ByteArray) (w : World)
    (h : ∀ W, Below w.heap.size w W → Calls Tryz.prog 99 #[.int .i64 E.lg] W fun r w' => r = .returned (.string b) ∧ Below W.heap.size W w') :
    Calls Tryz.prog 66 #[ev E (.slice ra rn rc) (.slice sa sn sc) (.slice ma mn mc), .string (fldB 2)] w fun r w' => r = .returned (.string b) ∧ Below w.heap.size w w' := by
  obtain ⟨idn, ti, st, lg, f, e, ds, c, u, sk, mv⟩ := E
  unfold ev fldB
  dsimp only at h ⊢
  have H : Hid (_) := h _ (below_alloc w (.cells #[.string idn, .string ti, .int .i64 st, .int .i64 lg, .string f, .int .i64 e, .slice ra rn rc, .int .i64 c, .int .i64 u, .slice sa sn sc, .slice ma mn mc] 44))
  clear h
  go_enter Tryz.func66, Tryz.ntmps66
  go_wp2_with (go_at_call 99; refine Calls.mono H.out ?_; rintro r w1 ⟨rfl, hb1⟩)
  go_ret
  exact ⟨rfl, below_then (below_alloc _ _) hb1⟩
theorem get_rule (E : EV) (ra : Option Addr) (rn rc : Nat) (sa : Option Addr) (sn sc : Nat) (ma : Option Addr) (mn mc : Nat) (b : ByteArray) (w : World)
    (h : ∀ W, Below w.heap.size w W → Calls Tryz.prog 100 #[.agg #[.string E.f, .int .i64 E.e, .slice ra rn rc, .int .i64 E.c, .int .i64 E.u]] W fun r w' => r = .returned (.string b) ∧ Below W.heap.size W w') :
    Calls Tryz.prog 66 #[ev E (.slice ra rn rc) (.slice sa sn sc) (.slice ma mn mc), .string (fldB 3)] w fun r w' => r = .returned (.string b) ∧ Below w.heap.size w w' := by
  obtain ⟨idn, ti, st, lg, f, e, ds, c, u, sk, mv⟩ := E
  unfold ev fldB
  dsimp only at h ⊢
  have H : Hid (_) := h _ (below_alloc w (.cells #[.string idn, .string ti, .int .i64 st, .int .i64 lg, .string f, .int .i64 e, .slice ra rn rc, .int .i64 c, .int .i64 u, .slice sa sn sc, .slice ma mn mc] 44))
  clear h
  go_enter Tryz.func66, Tryz.ntmps66
  go_wp2_with (go_at_call 100; refine Calls.mono H.out ?_; rintro r w1 ⟨rfl, hb1⟩)
  go_ret
  exact ⟨rfl, below_then (below_alloc _ _) hb1⟩
theorem get_skips (E : EV) (ra : Option Addr) (rn rc : Nat) (sa : Option Addr) (sn sc : Nat) (ma : Option Addr) (mn mc : Nat) (b : ByteArray) (w : World)
    (h : ∀ W, Below w.heap.size w W → Calls Tryz.prog 101 #[.slice sa sn sc, .func (.func 98) #[] #[]] W fun r w' => r = .returned (.string b) ∧ Below W.heap.size W w') :
    Calls Tryz.prog 66 #[ev E (.slice ra rn rc) (.slice sa sn sc) (.slice ma mn mc), .string (fldB 4)] w fun r w' => r = .returned (.string b) ∧ Below w.heap.size w w' := by
  obtain ⟨idn, ti, st, lg, f, e, ds, c, u, sk, mv⟩ := E
  unfold ev fldB
  dsimp only at h ⊢
  have H : Hid (_) := h _ (below_alloc w (.cells #[.string idn, .string ti, .int .i64 st, .int .i64 lg, .string f, .int .i64 e, .slice ra rn rc, .int .i64 c, .int .i64 u, .slice sa sn sc, .slice ma mn mc] 44))
  clear h
  go_enter Tryz.func66, Tryz.ntmps66
  go_wp2_with (go_at_call 101; refine Calls.mono H.out ?_; rintro r w1 ⟨rfl, hb1⟩)
  go_ret
  exact ⟨rfl, below_then (below_alloc _ _) hb1⟩
theorem get_moves (E : EV) (ra : Option Addr) (rn rc : Nat) (sa : Option Addr) (sn sc : Nat) (ma : Option Addr) (mn mc : Nat) (b : ByteArray) (w : World)
    (h : ∀ W, Below w.heap.size w W → Calls Tryz.prog 102 #[.slice ma mn mc, .func (.func 103) #[] #[]] W fun r w' => r = .returned (.string b) ∧ Below W.heap.size W w') :
    Calls Tryz.prog 66 #[ev E (.slice ra rn rc) (.slice sa sn sc) (.slice ma mn mc), .string (fldB 5)] w fun r w' => r = .returned (.string b) ∧ Below w.heap.size w w' := by
  obtain ⟨idn, ti, st, lg, f, e, ds, c, u, sk, mv⟩ := E
  unfold ev fldB
  dsimp only at h ⊢
  have H : Hid (_) := h _ (below_alloc w (.cells #[.string idn, .string ti, .int .i64 st, .int .i64 lg, .string f, .int .i64 e, .slice ra rn rc, .int .i64 c, .int .i64 u, .slice sa sn sc, .slice ma mn mc] 44))
  clear h
  go_enter Tryz.func66, Tryz.ntmps66
  go_wp2_with (go_at_call 102; refine Calls.mono H.out ?_; rintro r w1 ⟨rfl, hb1⟩)
  go_ret
  exact ⟨rfl, below_then (below_alloc _ _) hb1⟩

set_option maxHeartbeats 1600000 in
set_option maxRecDepth 100000 in
/-- an event's text, out of the texts of its fields -/
theorem etext_of (E : EV) (sl skv mvv : Value) (ps : List (List UInt8)) (s : Nat → Addr) (w : World) (g : GlobK s w) (hd : Days w sl E.ds) (hs : Ints w skv E.sk) (hm : Movs w mvv E.mv) (h30 : E.id.size ≤ 60) (h60 : E.ti.size ≤ 60) (hw : EW E) (hps : ps.length = 6) (hpl : ∀ p ∈ ps, p.length ≤ 10000)
    (hget : ∀ (i : Nat), i < 6 → ∀ (W : World), Below w.heap.size w W → Calls Tryz.prog 66 #[ev E sl skv mvv, .string (fldB i)] W fun r w' => r = .returned (.string (bs (ps.getD i []))) ∧ Below W.heap.size W w') :
    Calls Tryz.prog 41 #[ev E sl skv mvv] w fun r w' => r = .returned (.string (bs (Lib.join (E.id.data.toList :: ps) [124]))) ∧ Below w.heap.size w w' := by
  have hA := below_alloc w (.cells #[.string E.id, .string E.ti, .int .i64 E.st, .int .i64 E.lg, .string E.f, .int .i64 E.e, sl, .int .i64 E.c, .int .i64 E.u, skv, mvv] 44)
  have hB := EB.new w E sl skv mvv
  have CK : Calls Tryz.prog 30 #[ev E sl skv mvv] _ _ := evCheck_k E sl skv mvv 0 s _ (g.step hA) (hd.step hA) (hs.step hA) (hm.step hA) h30 h60 (by obtain ⟨k, hk⟩ := evK_ex E; have := (evK_0 hk).2 hw; subst this; exact hk)
  rw [errV_0] at CK
  obtain ⟨ra, rc, rfl, _⟩ := hd
  obtain ⟨sa, sc, rfl, _⟩ := hs
  obtain ⟨ma, mc, rfl, _⟩ := hm
  obtain ⟨i0, hi, hz0, hz1, hz2⟩ := info_parts info_str
  have HCK : Hid (Calls _ _ _ _ _) := CK
  have HG : Hid (_) := hget
  have HPL : Hid (_) := hpl
  have HPS : Hid (_) := hps
  clear CK hget g hw hpl hps
  obtain ⟨idn, ti, st, lg, f, e, ds, c, u, sk, mv⟩ := E
  unfold ev EB at *
  dsimp only at *
  have HA : Hid (_) := hA
  clear hA
  generalize hw0 : w.alloc (.cells #[.string idn, .string ti, .int .i64 st, .int .i64 lg, .string f, .int .i64 e, .slice ra ds.length rc, .int .i64 c, .int .i64 u, .slice sa sk.length sc, .slice ma mv.length mc] 44) = w0 at HCK HA hB
  obtain ⟨x0, x1, x2, x3, x4, x5, x6, x7, x8, x9, x10⟩ := blk11 hB
  have BX : Hid (∀ W, Below w0.heap.size w0 W → _) := fun W h => blk11 ((h.block _ (Array.getElem?_eq_some_iff.1 hB).1).trans hB)
  clear hB
  have FA : Hid (∀ W, _) := fun W => fields_any W
  go_enter Tryz.func41, Tryz.ntmps41
  go_upto_region 4 with (go_at_call 30; refine Calls.mono HCK.out ?_; rintro r w1 ⟨rfl, hb1⟩; obtain ⟨y0, y1, y2, y3, y4, y5, y6, y7, y8, y9, y10⟩ := BX.out _ hb1)
  have T1 : Hid (TR w0 (w1.alloc (.cells #[.string idn] 9)) (.slice (some ⟨w1.heap.size, 0, none⟩) 1 1) [idn.data.toList]) := TR.one hb1 idn
  generalize hw2 : w1.alloc (.cells #[.string idn] 9) = w2 at T1
  clear x0 x1 x2 x3 x4 x5 x6 x7 x8 x9 x10 y0 y1 y2 y3 y4 y5 y6 y7 y8 y9 y10
  go_wp2_with (go_at_call 65; refine (FA.out _).mono ?_; rintro r w' ⟨rfl, rfl⟩)
  have T2 : Hid (TR w0 (w2.alloc fldO) (.slice (some ⟨w1.heap.size, 0, none⟩) 1 1) [idn.data.toList]) := T1.out.step (below_alloc _ _)
  have FC : Hid (∀ (i : Nat), i < 6 → (w2.alloc fldO).cell? ⟨w2.heap.size, i, none⟩ = some (.string (fldB i))) := fun i hi => fld_cell w2 i hi
  have hnf : w2.heap.size < (w2.alloc fldO).heap.size := by rw [World.size_alloc]; exact Nat.lt_succ_self _
  have hnp : w1.heap.size ≠ w2.heap.size := by rw [← hw2, World.size_alloc]; exact Nat.ne_of_lt (Nat.lt_succ_self _)
  clear T1 hb1 hw2
  generalize w2.alloc fldO = w3 at T2 FC hnf ⊢
  generalize w2.heap.size = nf at FC hnf hnp ⊢
  generalize w1.heap.size = np at T2 hnp ⊢
  go_loopw [3, 5, 14] (fun v _ i wr => ∃ m : Nat, m ≤ 6 ∧ i = .int .i64 m ∧ Hid ((∀ (i : Nat), i < 6 → wr.cell? ⟨nf, i, none⟩ = some (.string (fldB i))) ∧ nf < wr.heap.size ∧ v.ownBlock ≠ some nf) ∧ Hid (TR w0 wr v (idn.data.toList :: ps.take m))) (fun _ _ i _ => 6 - (intOf i).toNat)
  case atStart => exact ⟨0, Nat.zero_le _, rfl, ⟨FC.out, hnf, by simp [Value.ownBlock]; exact hnp⟩, T2.out⟩
  case round =>
    obtain ⟨m, hm, rfl, hB, HO⟩ := hrel
    by_cases hlt : m < 6
    · have hc1 := hB.out.1 m hlt
      have HN : Hid (ps.take (m + 1) = ps.take m ++ [ps.getD m []]) := by
        show _ = _
        rw [List.take_succ_eq_append_getElem (by rw [HPS.out]; exact hlt), List.getD_eq_getElem?_getD, List.getElem?_eq_getElem (by rw [HPS.out]; exact hlt)]; rfl
      have hcall := HG.out m hlt wr (below_then HA.out HO.out.below)
      obtain ⟨y0, y1, y2, y3, y4, y5, y6, y7, y8, y9, y10⟩ := BX.out wr HO.out.below
      have hlen : (idn.data.toList :: ps.take m).length = m + 1 := by simp; rw [HPS.out]; omega
      have HNL : Hid (idn.data.toList :: ps.take (m + 1) = (idn.data.toList :: ps.take m) ++ [ps.getD m []]) := by show _ = _; rw [HN.out]; rfl
      clear HN HG
      generalize idn.data.toList :: ps.take m = L at HO hlen HNL
      generalize ps.getD m [] = px at HNL hcall
      obtain ⟨oa, oc, rfl⟩ := HO.out.form
      rw [hlen] at HO hB
      have HLN : Hid (L.length = m + 1) := hlen
      have HCL : Hid (Calls _ _ _ _ _) := hcall
      generalize hbt : bs px = bt at HCL
      have HBT : Hid (bs px = bt) := hbt
      have hw3 : w0.heap.size ≤ wr.heap.size := HO.out.below.size
      clear hlen hcall hbt
      rw [HLN.out]
      generalize fldB m = fb at hc1 HCL
      go_wp2_with (first
        | (go_at_call 66; refine Calls.mono HCL.out ?_; rintro r w2 ⟨rfl, hb2⟩; have T3 : Hid (TR w0 w2 (.slice oa (m + 1) oc) L) := HO.out.step hb2; have NC : Hid (_) := word_cell w2 bt; have hz2' : w0.heap.size ≤ w2.heap.size := T3.out.below.size; have CW : Hid ((∀ (i : Nat), i < 6 → w2.cell? ⟨nf, i, none⟩ = some (.string (fldB i))) ∧ nf < w2.heap.size) := ⟨fun i hi => cell_step (hB.out.1 i hi) hb2, Nat.lt_of_lt_of_le hB.out.2.1 hb2.size⟩)
        | (at_builtin; refine wpList_append_own_at _ rfl _ _ 37 rfl w0.heap.size 9 i0 (.string ⟨#[]⟩) 1 16 Tryz.underlying37 hi hz0 hz1 hz2 rfl (by decide) _ _ _ rfl (show World.ownsRow _ _ _ _ _ (m + 1) (L.map sv) by have := T3.out.own.alloc (.cells #[.string bt] 9); rwa [HLN.out] at this) ⟨w2.heap.size, 0, none⟩ 1 1 [.string bt] rfl rfl NC.out (fun v hv => by rw [List.mem_singleton.1 hv]; rfl) (by unfold maxLen; omega) (by omega) (by simp; omega) ?_; intro v' w3' hown' hgrow _ hat; have T4 : Hid (TR w0 w3' v' (L ++ [px])) := TR.app [px] T3.out (by rw [List.length_append, HLN.out]; rfl) (by rw [List.map_append, ← HBT.out]; rfl) hown' hgrow; obtain ⟨g', cap', rfl⟩ := ownsRow_succ hown'; have HGR : Hid ((w2.alloc (.cells #[.string bt] 9)).grownBy w3' (Value.slice oa (m + 1) oc).ownBlock) := hgrow; have HAT : Hid (_) := hat; clear hown' hgrow hat)
        | go_in)
      go_roundw
      case rel =>
        have hne := hB.out.2.2
        have hblk : w3'.heap[nf]? = w2.heap[nf]? := (HGR.out.block nf (by rw [World.size_alloc]; have := CW.out.2; omega) (fun q => hne q.symm)).trans ((below_alloc w2 _).block nf CW.out.2)
        refine ⟨m + 1, by omega, by go_num, ⟨fun i hi => (World.cell?_of_block (a := ⟨nf, i, none⟩) hblk).trans (CW.out.1 i hi), ?_, ?_⟩, by rw [HNL.out]; exact T4.out⟩
        · have := HGR.out.size; rw [World.size_alloc] at this; have := CW.out.2; omega
        · rcases HAT.out with q | q
          · exact fun q2 => hne (q.symm.trans q2)
          · rw [q, World.size_alloc]
            intro q2
            have q3 : w2.heap.size + 1 = nf := by simpa using q2
            have := CW.out.2
            omega
      case measure => simp [intOf]; omega
    · have hm6 : m = 6 := by omega
      subst hm6
      have HE : Hid (ps.take 6 = ps) := List.take_of_length_le (by rw [HPS.out]; exact Nat.le_refl _)
      rw [HE.out] at HO
      have hle : (Lib.join (idn.data.toList :: ps) [124]).length ≤ 100000 := by
        have := joinLen (idn.data.toList :: ps) [124] 10000 (fun y hy => by
          rcases List.mem_cons.1 hy with rfl | q
          · have : idn.data.toList.length = idn.size := Array.length_toList
            omega
          · exact HPL.out y q)
        rw [List.length_cons, HPS.out] at this
        simp at this
        omega
      have J : Hid (_) := joins_any w0 _ (idn.data.toList :: ps) [124] wr HO.out (by rw [List.length_cons, HPS.out]; omega) hle
      obtain ⟨oa, oc, rfl⟩ := HO.out.form
      clear HG hle
      generalize hrb : bs (Lib.join (idn.data.toList :: ps) [124]) = rb at J
      have HRB : Hid (_) := hrb
      clear hrb
      unfold bs at J
      go_wp2_with (go_at_call 67; refine Calls.mono J.out ?_; rintro r w2 ⟨rfl, hb2⟩)
      go_ret
      exact ⟨by rw [HRB.out]; rfl, below_then HA.out (below_then HO.out.below hb2)⟩
end Go.Proofs.YtekminpoiokgfaaGreatDoor

/- The laws' own evented, LongEvent and OwnEvent. -/
namespace Go.Proofs.YtekminpoiokgfaaGreatDoor
open Go Go.RowKit Cal
attribute [local go_sem] Oper.semAt_some

/-- the closed event -/
def E0 : EV := ⟨⟨#[97]⟩, ⟨#[65, 32, 98]⟩, 5, 1, ⟨#[111, 110, 99, 101]⟩, 1, [], 0, -1, [], []⟩
theorem E0_rule : Well (rd ⟨#[111, 110, 99, 101]⟩ 1 [] 0 (-1)) := by
  refine ⟨?_, ?_, by decide, by decide, by decide, fun _ => ⟨rfl, rfl, rfl⟩, fun _ => rfl, Or.inl rfl, ?_⟩
  · left; exact ByteArray.toList_eq _
  · intro d hd; cases hd
  · intro i h; exact absurd h (by simp [rd])
/-- the texts of its fields -/
def P0 : List (List UInt8) := [[65, 32, 98], [50, 48, 48, 48, 45, 48, 49, 45, 48, 54], [49], [111, 110, 99, 101], [], []]

/-- too long for a law? -/
def lngE (E : EV) : Int := if (20 < E.f.size ∨ 20 < E.ds.length) ∨ 30 < E.id.size ∨ 60 < E.ti.size ∨ 25 < E.sk.length ∨ 25 < E.mv.length then 1 else 0
theorem lngE_0 {E : EV} (h : lngE E = 0) : E.f.size ≤ 20 ∧ E.ds.length ≤ 20 ∧ E.id.size ≤ 30 ∧ E.ti.size ≤ 60 ∧ E.sk.length ≤ 25 ∧ E.mv.length ≤ 25 := by
  unfold lngE at h
  split at h
  · omega
  · omega

set_option maxHeartbeats 1000000 in
theorem longEvent_any (E : EV) (ra : Option Addr) (rc : Nat) (sa : Option Addr) (sc : Nat) (ma : Option Addr) (mc : Nat) (w : World) :
    Calls Tryz.prog 17 #[ev E (.slice ra E.ds.length rc) (.slice sa E.sk.length sc) (.slice ma E.mv.length mc)] w fun r w' => r = .returned (.int .i64 (lngE E)) ∧ Below w.heap.size w w' := by
  have HK : Hid (lngE E = if (20 < E.f.size ∨ 20 < E.ds.length) ∨ 30 < E.id.size ∨ 60 < E.ti.size ∨ 25 < E.sk.length ∨ 25 < E.mv.length then 1 else 0) := rfl
  generalize lngE E = k at HK ⊢
  have hB := EB.new w E (.slice ra E.ds.length rc) (.slice sa E.sk.length sc) (.slice ma E.mv.length mc)
  obtain ⟨idn, ti, st, lg, f, e, ds, c, u, sk, mv⟩ := E
  unfold ev EB at *
  dsimp only at *
  have LR : Hid (∀ W, Calls Tryz.prog 32 #[.agg #[.string f, .int .i64 e, .slice ra ds.length rc, .int .i64 c, .int .i64 u]] W fun r w' => r = .returned (.int .i64 (if 20 < f.size ∨ 20 < ds.length then 1 else 0)) ∧ Below W.heap.size W w') := fun W => longRule_any f e ra ds.length rc c u W _ rfl
  have HA : Hid (_) := below_alloc w (.cells #[.string idn, .string ti, .int .i64 st, .int .i64 lg, .string f, .int .i64 e, .slice ra ds.length rc, .int .i64 c, .int .i64 u, .slice sa sk.length sc, .slice ma mv.length mc] 44)
  generalize hw0 : w.alloc (.cells #[.string idn, .string ti, .int .i64 st, .int .i64 lg, .string f, .int .i64 e, .slice ra ds.length rc, .int .i64 c, .int .i64 u, .slice sa sk.length sc, .slice ma mv.length mc] 44) = w0 at HA hB
  obtain ⟨x0, x1, x2, x3, x4, x5, x6, x7, x8, x9, x10⟩ := blk11 hB
  have BX : Hid (∀ W, Below w0.heap.size w0 W → _) := fun W h => blk11 ((h.block _ (Array.getElem?_eq_some_iff.1 hB).1).trans hB)
  clear hB
  have h1 : (20 < f.size ∨ 20 < ds.length) ∨ (¬ (20 < f.size ∨ 20 < ds.length) ∧ 30 < idn.size) ∨ (¬ (20 < f.size ∨ 20 < ds.length) ∧ idn.size ≤ 30 ∧ 60 < ti.size) ∨ (¬ (20 < f.size ∨ 20 < ds.length) ∧ idn.size ≤ 30 ∧ ti.size ≤ 60 ∧ 25 < sk.length) ∨ (¬ (20 < f.size ∨ 20 < ds.length) ∧ idn.size ≤ 30 ∧ ti.size ≤ 60 ∧ sk.length ≤ 25 ∧ 25 < mv.length) ∨ (¬ (20 < f.size ∨ 20 < ds.length) ∧ idn.size ≤ 30 ∧ ti.size ≤ 60 ∧ sk.length ≤ 25 ∧ mv.length ≤ 25) := by omega
  have HK2 : Hid (k = if (20 < f.size ∨ 20 < ds.length) ∨ 30 < idn.size ∨ 60 < ti.size ∨ 25 < sk.length ∨ 25 < mv.length then 1 else 0) := HK.out
  clear HK
  rcases h1 with h1 | ⟨h1, h2⟩ | ⟨h1, h2, h3⟩ | ⟨h1, h2, h3, h4⟩ | ⟨h1, h2, h3, h4, h5⟩ | ⟨h1, h2, h3, h4, h5⟩
  all_goals
    first
    | rw [if_pos h1] at LR
    | rw [if_neg h1] at LR
    first
    | rw [if_pos (by omega)] at HK2
    | rw [if_neg (by omega)] at HK2
    clear h1
    go_enter Tryz.func17, Tryz.ntmps17
    go_wp2_with (go_at_call 32; refine (LR.out _).mono ?_; rintro r w1 ⟨rfl, hb1⟩; obtain ⟨y0, y1, y2, y3, y4, y5, y6, y7, y8, y9, y10⟩ := BX.out _ hb1)
    go_ret
    exact ⟨ret_int HK2.out.symm, below_then HA.out hb1⟩

/-- moves as they were handed over -/
def GotM (w : World) (sl : Value) (ms : List (Int × Int)) : Prop :=
  ∃ (a : Option Addr) (cap : Nat), sl = .slice a ms.length cap ∧ (a = none → ms.length = 0 ∧ cap = 0) ∧ ∀ ad, a = some ad → ∀ (j : Nat) (h : j < ms.length), ad.block < w.heap.size ∧ w.cell? (ad.add (j * 2)) = some (.int .i64 ms[j].1) ∧ w.cell? (ad.add (j * 2 + 1)) = some (.int .i64 ms[j].2)
theorem GotM.step {w w' : World} {sl : Value} {ms : List (Int × Int)} (h : GotM w sl ms) (hb : Below w.heap.size w w') : GotM w' sl ms := by
  obtain ⟨a, cap, h1, h2, h3⟩ := h
  refine ⟨a, cap, h1, h2, fun ad e j hj => ?_⟩
  obtain ⟨h4, h5, h6⟩ := h3 ad e j hj
  exact ⟨Nat.lt_of_lt_of_le h4 hb.size, (World.cell?_of_block (a := ad.add (j * 2)) (hb.block _ (by rw [addr_add_block]; exact h4))).trans h5, (World.cell?_of_block (a := ad.add (j * 2 + 1)) (hb.block _ (by rw [addr_add_block]; exact h4))).trans h6⟩
/-- the cells of moves -/
def mcells : List (Int × Int) → List Value
  | [] => []
  | m :: r => .int .i64 m.1 :: .int .i64 m.2 :: mcells r
theorem mcells_len : ∀ ms : List (Int × Int), (mcells ms).length = ms.length * 2
  | [] => rfl
  | m :: r => by simp [mcells, mcells_len r]; omega
theorem mcells_at : ∀ (ms : List (Int × Int)) (j : Nat) (h : j < ms.length), (mcells ms)[j * 2]? = some (.int .i64 ms[j].1) ∧ (mcells ms)[j * 2 + 1]? = some (.int .i64 ms[j].2)
  | m :: r, 0, _ => ⟨rfl, rfl⟩
  | m :: r, j + 1, h => by
    have := mcells_at r j (by simpa using h)
    rw [show (j + 1) * 2 = j * 2 + 1 + 1 by omega]
    exact this
theorem mcells_one (ms : List (Int × Int)) : ∀ u ∈ mcells ms, u.oneCell' = true := by
  induction ms with
  | nil => intro u hu; cases hu
  | cons m r ih =>
    intro u hu
    rcases List.mem_cons.1 hu with rfl | hu
    · rfl
    · rcases List.mem_cons.1 hu with rfl | hu
      · rfl
      · exact ih u hu
theorem mcells_of (ms : List (Int × Int)) (P : Nat → Value → Prop) (h : ∀ (j : Nat) (h : j < ms.length), P (j * 2) (.int .i64 ms[j].1) ∧ P (j * 2 + 1) (.int .i64 ms[j].2)) : ∀ (i : Nat) (u : Value), (mcells ms)[i]? = some u → P i u := fun i u hu => by
  have hi : i < ms.length * 2 := by rw [← mcells_len]; exact (List.getElem?_eq_some_iff.1 hu).1
  have hj : i / 2 < ms.length := by omega
  obtain ⟨a1, a2⟩ := mcells_at ms (i / 2) hj
  obtain ⟨b1, b2⟩ := h (i / 2) hj
  rcases Nat.mod_two_eq_zero_or_one i with q | q
  · have e : i / 2 * 2 = i := by omega
    rw [e] at a1 b1
    rw [hu] at a1
    cases a1; exact b1
  · have e : i / 2 * 2 + 1 = i := by omega
    rw [e] at a2 b2
    rw [hu] at a2
    cases a2; exact b2
theorem info_move : (Tryz.prog.info? 72).map (fun i => (i.zero, i.size, i.bytes)) = some (some (.agg #[.int .i64 0, .int .i64 0]), 2, 16) := by kernel_rfl
/-- a row of moves of one's own -/
def OwM (base : Nat) (W : World) (sl : Value) (ms : List (Int × Int)) : Prop := W.ownsRow base 72 2 sl ms.length (mcells ms)
theorem OwM.grown {base B : Nat} {W W' : World} {sl : Value} {ds : List (Int × Int)} (h : OwM base W sl ds) (hg : W.grownBy W' (some B)) (hB : B < base) : OwM base W' sl ds :=
  World.ownsRow.kept h hg (.inr (fun he => by have := (World.ownsRow.lt h _ he).1; omega))
theorem owm_cell {W : World} {g : Nat} {cur : Array Value} {ms : List (Int × Int)} (hg : W.heap[g]? = some (.cells cur 72 (0, 0))) (htake : cur.toList.take (ms.length * 2) = mcells ms) (j : Nat) (hj : j < ms.length) :
    W.cell? ⟨g, j * 2, none⟩ = some (.int .i64 ms[j].1) ∧ W.cell? ⟨g, j * 2 + 1, none⟩ = some (.int .i64 ms[j].2) := by
  obtain ⟨a1, a2⟩ := mcells_at ms j hj
  rw [← htake, List.getElem?_take_of_lt (by omega), Array.getElem?_toList] at a1 a2
  constructor
  · simp only [World.cell?, hg]; simpa using a1
  · simp only [World.cell?, hg]; simpa using a2
theorem owm_movs {base : Nat} {W : World} {sl : Value} {ms : List (Int × Int)} (h : OwM base W sl ms) (hl : ms.length ≤ 80000) : Movs W sl ms ∧ GotM W sl ms := by
  rcases h.2 with ⟨rfl, h0⟩ | ⟨g, cap, cur, rfl, hb, hg, hcap, hmax, hsz, htake⟩
  · rw [List.length_eq_zero_iff.1 h0]; exact ⟨Movs.nil W 0, none, 0, rfl, fun _ => ⟨rfl, rfl⟩, fun ad q => by cases q⟩
  · have hlt := (Array.getElem?_eq_some_iff.1 hg).1
    refine ⟨⟨_, cap, rfl, hl, hcap, fun j hj => ?_⟩, ⟨_, cap, rfl, (fun q => by cases q), fun ad q j hj => ?_⟩⟩
    · obtain ⟨c1, c2⟩ := owm_cell hg htake j hj
      exact ⟨g, rfl, hlt, c1, c2⟩
    · cases q
      obtain ⟨c1, c2⟩ := owm_cell hg htake j hj
      rw [Addr.add_lit, Addr.add_lit, Nat.zero_add, Nat.zero_add]
      exact ⟨hlt, c1, c2⟩
end Go.Proofs.YtekminpoiokgfaaGreatDoor

/- What the rows' lists of package-level variables give the walks over package event: the library's table, the errors' cells; an event as an argument, opened. -/
namespace Go.Proofs.YtekminpoiokgfaaGreatDoor
open Go.ChangeShapes Go.WideShapes Go.ChangeAt Go.RowKit Cal

theorem tPow : (Tryz.prog.globals[9]?).map (·.type) = some 223 := by kernel_rfl
theorem cPow : Tryz.prog.cellsOf 223 = 20 := by kernel_rfl
theorem cU64 : Tryz.prog.cellsOf 136 = 1 := by kernel_rfl
theorem gText : Tryz.prog.globalNamed "lammastide/api.ErrText" = some 3 := by kernel_rfl
theorem tText : (Tryz.prog.globals[3]?).map (·.type) = some 50 := by kernel_rfl
theorem gExist : Tryz.prog.globalNamed "lammastide/api.ErrExist" = some 6 := by kernel_rfl
theorem tExist : (Tryz.prog.globals[6]?).map (·.type) = some 50 := by kernel_rfl
theorem gFull : Tryz.prog.globalNamed "lammastide/api.ErrFull" = some 1 := by kernel_rfl
theorem tFull : (Tryz.prog.globals[1]?).map (·.type) = some 50 := by kernel_rfl
theorem cEvent : Tryz.prog.cellsOf 44 = 11 := by kernel_rfl
theorem cMove : Tryz.prog.cellsOf 72 = 2 := by kernel_rfl
theorem cMoves : Tryz.prog.cellsOf 42 = 1 := by kernel_rfl

/-- the table at the head of the list -/
theorem table {r : List (String × DataW Unit)} {W : World} (h : laidMet Tryz.prog (("internal/strconv.uint64pow10", Rows.laid_internal_strconv_uint64pow10) :: r) W) : Tab W :=
  Lib.tabIs_of_head gPow tPow Tryz.underlying223 Tryz.underlying136 cU64 cPow h
/-- seven addresses by their numbers -/
def seven (a0 a1 a2 a3 a5 a6 a7 : Addr) : Nat → Addr
  | 0 => a0 | 1 => a1 | 2 => a2 | 3 => a3 | 5 => a5 | 6 => a6 | _ => a7

section
variable {H : Type} {enc : TypeId × Value → H} {W : World}
/-- numbers that were handed over -/
theorem open_got {fuel : Nat} {v : Value} {x : DataW H × List MemPlace} (h : DataW.trod enc Tryz.prog W 0 (fun _ => true) true fuel 39 [v] = some x) : ∃ ds : List Int, Got W v ds := by
  rcases open_ints Tryz.underlying39 Tryz.underlying3 cInt h with ⟨e2, _⟩ | ⟨a, len, cap, zs, e2, _, hlc, _, hz, _, hc, _⟩
  · cases e2
    exact ⟨[], none, 0, rfl, fun _ => ⟨rfl, rfl⟩, fun ad ha => by cases ha⟩
  · cases e2
    have hzl : zs.length = cap := by simpa using hz
    have hl' : (zs.take len).length = len := by simp; omega
    refine ⟨zs.take len, some a, cap, by rw [hl'], fun ha => (by cases ha), fun ad ha j hj => ?_⟩
    cases ha
    have hj' : j < len := by omega
    have hcell := hc j (by omega)
    have e5 : zs.getD j 0 = (zs.take len)[j] := by simp [List.getD, List.getElem?_eq_getElem (show j < zs.length by omega)]
    rw [e5] at hcell
    refine ⟨?_, hcell⟩
    rcases Nat.lt_or_ge a.block W.heap.size with h | h
    · exact h
    · have hb : W.heap.size ≤ (a.add j).block := by rw [addr_add_block]; exact h
      simp [World.cell?, Array.getElem?_eq_none hb] at hcell
/-- moves that were handed over -/
theorem open_gotM {fuel : Nat} {v : Value} {x : DataW H × List MemPlace} (h : DataW.trod enc Tryz.prog W 0 (fun _ => true) true fuel 42 [v] = some x) : ∃ ms : List (Int × Int), GotM W v ms := by
  rcases Deep.open_slice_pairs Tryz.underlying42 Tryz.underlying72 cMove rfl rfl cInt cInt h with ⟨e2, _⟩ | ⟨a, len, cap, m, n, V0, V1, D0, D1, P0, P1, e2, _, hlc, _, hm, _, hx⟩
  · cases e2
    exact ⟨[], none, 0, rfl, fun _ => ⟨rfl, rfl⟩, fun ad ha => by cases ha⟩
  · cases e2
    have hm' : m = cap := by simpa using hm
    have each : ∀ i, i < len → ∃ q : Int × Int, W.cell? (a.add (i * 2)) = some (.int .i64 q.1) ∧ W.cell? (a.add (i * 2 + 1)) = some (.int .i64 q.2) := by
      intro i hi
      obtain ⟨c0, c1, t0, t1⟩ := hx i (by omega)
      obtain ⟨x0, e0, _, _⟩ := DataW.trod_int Tryz.underlying3 t0
      obtain ⟨x1, e1, _, _⟩ := DataW.trod_int Tryz.underlying3 t1
      exact ⟨(x0, x1), c0.trans (congrArg some (List.cons.inj e0).1), c1.trans (congrArg some (List.cons.inj e1).1)⟩
    obtain ⟨q, hq⟩ := Deep.choose_lt each
    refine ⟨(List.range len).map q, some a, cap, by simp, fun ha => (by cases ha), fun ad ha j hj => ?_⟩
    cases ha
    have hj' : j < len := by simpa using hj
    have e5 : ((List.range len).map q)[j] = q j := by simp
    obtain ⟨h1, h2⟩ := hq j hj'
    rw [e5]
    refine ⟨?_, h1, h2⟩
    rcases Nat.lt_or_ge a.block W.heap.size with h | h
    · exact h
    · have hb : W.heap.size ≤ (a.add (j * 2)).block := by rw [addr_add_block]; exact h
      simp [World.cell?, Array.getElem?_eq_none hb] at h1

end
end Go.Proofs.YtekminpoiokgfaaGreatDoor
