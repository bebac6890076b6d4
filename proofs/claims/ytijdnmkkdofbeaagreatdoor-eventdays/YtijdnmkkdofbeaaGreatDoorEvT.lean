/- Package event's Fields, Get, listText and Text: an event's parts, one behind the other. -/
import Derived.Test.YtijdnmkkdofbeaaGreatDoorEvE
import Derived.Test.YtijdnmkkdofbeaaGreatDoorJoinW
import Derived.Deep.DeepCutAuto
import Derived.Maps.AppendAt
namespace Go.Proofs.YtijdnmkkdofbeaaGreatDoor
open Go Go.RowKit Cal
attribute [local go_sem] Oper.semAt_some

/-- the fields' names -/
def fldB : Nat → ByteArray
  | 0 => ⟨#[116, 105, 116, 108, 101]⟩
  | 1 => ⟨#[115, 116, 97, 114, 116]⟩
  | 2 => ⟨#[108, 111, 110, 103]⟩
  | 3 => ⟨#[114, 117, 108, 101]⟩
  | 4 => ⟨#[115, 107, 105, 112, 115]⟩
  | _ => ⟨#[109, 111, 118, 101, 115]⟩
/-- the row of the fields' names -/
def fldO : Obj := .cells #[.string ⟨#[116, 105, 116, 108, 101]⟩, .string ⟨#[115, 116, 97, 114, 116]⟩, .string ⟨#[108, 111, 110, 103]⟩, .string ⟨#[114, 117, 108, 101]⟩, .string ⟨#[115, 107, 105, 112, 115]⟩, .string ⟨#[109, 111, 118, 101, 115]⟩] 9
theorem fld_cell (w : World) (i : Nat) (h : i < 6) : (w.alloc fldO).cell? ⟨w.heap.size, i, none⟩ = some (.string (fldB i)) := by
  unfold fldO
  rw [World.cell?_alloc_new]
  match i, h with
  | 0, _ => rfl
  | 1, _ => rfl
  | 2, _ => rfl
  | 3, _ => rfl
  | 4, _ => rfl
  | 5, _ => rfl
theorem fields_any (w : World) : Calls Tryz.prog 38 #[] w fun r w' => r = .returned (.slice (some ⟨w.heap.size, 0, none⟩) 6 6) ∧ w' = w.alloc fldO := by
  unfold fldO
  go_enter Tryz.func38, Tryz.ntmps38
  go_wp2
  go_ret
  exact ⟨rfl, rfl⟩

set_option maxHeartbeats 1600000 in
set_option maxRecDepth 100000 in
theorem listTextI_any (ds : List Int) (sl : Value) (tx : Int → List UInt8) (w : World) (hd : Ints w sl ds) (h20 : ds.length ≤ 60) (hl : ∀ x ∈ ds, (tx x).length ≤ 30)
    (hc : ∀ x ∈ ds, ∀ W, Below w.heap.size w W → Calls Tryz.prog 64 #[.int .i64 x] W fun r w' => r = .returned (.string (bs (tx x))) ∧ Below W.heap.size W w') :
    Calls Tryz.prog 67 #[sl, .func (.func 64) #[] #[]] w fun r w' => r = .returned (.string (bs (Lib.join (ds.map tx) [44]))) ∧ Below w.heap.size w w' := by
  obtain ⟨a, cap, rfl, _, hcap, hcell⟩ := hd
  obtain ⟨i0, hi, hz0, hz1, hz2⟩ := info_parts info_str
  have HC : Hid (_) := hcell
  have HT : Hid (_) := hc
  have HL : Hid (_) := hl
  clear hcell hc hl
  go_enter Tryz.func67, Tryz.ntmps67
  go_wp2
  go_loopw [5, 7, 10] (fun v _ i wr => ∃ m : Nat, m ≤ ds.length ∧ i = .int .i64 m ∧ Hid (TR w wr v ((ds.map tx).take m))) (fun _ _ i _ => ds.length - (intOf i).toNat)
  case atStart => exact ⟨0, Nat.zero_le _, rfl, TR.nil w⟩
  case round =>
    obtain ⟨m, hm, rfl, HO⟩ := hrel
    by_cases hlt : m < ds.length
    · obtain ⟨blk, rfl, hblk, hcl⟩ := HC.out m hlt
      have hc1 := cell_step hcl HO.out.below
      have HN : Hid ((ds.map tx).take (m + 1) = (ds.map tx).take m ++ [tx ds[m]]) := by
        show _ = _
        rw [List.take_succ_eq_append_getElem (by simpa using hlt)]; simp
      have hcall := HT.out ds[m] (List.getElem_mem hlt) wr HO.out.below
      have hlen : ((ds.map tx).take m).length = m := by simp; omega
      clear HC HT HL hcl
      generalize ds[m] = x at hc1 HN hcall
      generalize (ds.map tx).take m = L at HO HN hlen
      obtain ⟨oa, oc, rfl⟩ := HO.out.form
      rw [hlen] at HO
      have HLN : Hid (L.length = m) := hlen
      have HCL : Hid (_) := hcall
      generalize hbt : bs (tx x) = bt at HCL
      have HBT : Hid (bs (tx x) = bt) := hbt
      clear hlen hcall hbt
      rw [HLN.out]
      go_wp2_with (first
        | (go_at_call 64; refine Calls.mono HCL.out ?_; rintro r w2 ⟨rfl, hb2⟩; have T2 : Hid (TR w w2 (.slice oa m oc) L) := HO.out.step hb2; have NC : Hid (_) := word_cell w2 bt; have hz2' : w.heap.size ≤ w2.heap.size := T2.out.below.size)
        | (at_builtin; refine wpList_append_own _ rfl _ _ 62 rfl w.heap.size 9 i0 (.string ⟨#[]⟩) 1 16 Tryz.underlying62 hi hz0 hz1 hz2 rfl (by decide) _ _ _ rfl (show World.ownsRow _ _ _ _ _ m (L.map sv) by have := T2.out.own.alloc (.cells #[.string bt] 9); rwa [HLN.out] at this) ⟨w2.heap.size, 0, none⟩ 1 1 [.string bt] rfl rfl NC.out (fun v hv => by rw [List.mem_singleton.1 hv]; rfl) (by unfold maxLen; omega) (by omega) (by simp; omega) ?_; intro v' w3 hown' hgrow _; have T3 : Hid (TR w w3 v' (L ++ [tx x])) := TR.app [tx x] T2.out (by rw [List.length_append, HLN.out]; rfl) (by rw [List.map_append, ← HBT.out]; rfl) hown' hgrow; obtain ⟨g', cap', rfl⟩ := ownsRow_succ hown'; clear hown' hgrow)
        | go_in)
      go_roundw
      case rel => exact ⟨m + 1, by omega, by go_num, by rw [HN.out]; exact T3.out⟩
      case measure => simp [intOf]; omega
    · have HE : Hid ((ds.map tx).take m = ds.map tx) := List.take_of_length_le (by simp; omega)
      rw [HE.out] at HO
      have hle : (Lib.join (ds.map tx) [44]).length ≤ 100000 := by
        have := joinLen (ds.map tx) [44] 30 (fun y hy => by obtain ⟨x, hx, rfl⟩ := List.mem_map.1 hy; exact HL.out x hx)
        simp at this
        have h31 : ds.length * 31 ≤ 60 * 31 := Nat.mul_le_mul_right _ h20
        omega
      have J : Hid (_) := joins_any w _ (ds.map tx) [44] wr HO.out (by simp; omega) hle
      obtain ⟨oa, oc, rfl⟩ := HO.out.form
      rw [List.length_map] at HO J ⊢
      clear HC HT HL hle
      unfold bs at J
      go_wp2_with (go_at_call 40; refine Calls.mono J.out ?_; rintro r w2 ⟨rfl, hb2⟩)
      go_ret
      exact ⟨rfl, below_then HO.out.below hb2⟩
theorem get_title (E : EV) (ra : Option Addr) (rn rc : Nat) (sa : Option Addr) (sn sc : Nat) (ma : Option Addr) (mn mc : Nat) (w : World) :
    Calls Tryz.prog 39 #[ev E (.slice ra rn rc) (.slice sa sn sc) (.slice ma mn mc), .string (fldB 0)] w fun r w' => r = .returned (.string E.ti) ∧ Below w.heap.size w w' := by
  obtain ⟨idn, ti, st, lg, f, e, ds, c, u, sk, mv⟩ := E
  unfold ev fldB
  dsimp only
  go_enter Tryz.func39, Tryz.ntmps39
  go_wp2
  go_ret
  exact ⟨rfl, below_alloc _ _⟩
theorem get_start (E : EV) (ra : Option Addr) (rn rc : Nat) (sa : Option Addr) (sn sc : Nat) (ma : Option Addr) (mn mc : Nat) (b : ByteArray) (w : World)
    (h : ∀ W, Below w.heap.size w W → Calls Tryz.prog 64 #[.int .i64 E.st] W fun r w' => r = .returned (.string b) ∧ Below W.heap.size W w') :
    Calls Tryz.prog 39 #[ev E (.slice ra rn rc) (.slice sa sn sc) (.slice ma mn mc), .string (fldB 1)] w fun r w' => r = .returned (.string b) ∧ Below w.heap.size w w' := by
  obtain ⟨idn, ti, st, lg, f, e, ds, c, u, sk, mv⟩ := E
  unfold ev fldB
  dsimp only at h ⊢
  have H : Hid (_) := h _ (below_alloc w (.cells #[.string idn, .string ti, .int .i64 st, .int .i64 lg, .string f, .int .i64 e, .slice ra rn rc, .int .i64 c, .int .i64 u, .slice sa sn sc, .slice ma mn mc] 27))
  clear h
  go_enter Tryz.func39, Tryz.ntmps39
  go_wp2_with (go_at_call 64; refine Calls.mono H.out ?_; rintro r w1 ⟨rfl, hb1⟩)
  go_ret
  exact ⟨rfl, below_then (below_alloc _ _) hb1⟩
theorem get_long (E : EV) (ra : Option Addr) (rn rc : Nat) (sa : Option Addr) (sn sc : Nat) (ma : Option Addr) (mn mc : Nat) (b : ByteArray) (w : World)
    (h : ∀ W, Below w.heap.size w W → Calls Tryz.prog 65 #[.int .i64 E.lg] W fun r w' => r = .returned (.string b) ∧ Below W.heap.size W w') :
    Calls Tryz.prog 39 #[ev E (.slice ra rn rc) (.slice sa sn sc) (.slice ma mn mc), .string (fldB 2)] w fun r w' => r = .returned (.string b) ∧ Below w.heap.size w w' := by
  obtain ⟨idn, ti, st, lg, f, e, ds, c, u, sk, mv⟩ := E
  unfold ev fldB
  dsimp only at h ⊢
  have H : Hid (_) := h _ (below_alloc w (.cells #[.string idn, .string ti, .int .i64 st, .int .i64 lg, .string f, .int .i64 e, .slice ra rn rc, .int .i64 c, .int .i64 u, .slice sa sn sc, .slice ma mn mc] 27))
  clear h
  go_enter Tryz.func39, Tryz.ntmps39
  go_wp2_with (go_at_call 65; refine Calls.mono H.out ?_; rintro r w1 ⟨rfl, hb1⟩)
  go_ret
  exact ⟨rfl, below_then (below_alloc _ _) hb1⟩
theorem get_rule (E : EV) (ra : Option Addr) (rn rc : Nat) (sa : Option Addr) (sn sc : Nat) (ma : Option Addr) (mn mc : Nat) (b : ByteArray) (w : World)
    (h : ∀ W, Below w.heap.size w W → Calls Tryz.prog 66 #[.agg #[.string E.f, .int .i64 E.e, .slice ra rn rc, .int .i64 E.c, .int .i64 E.u]] W fun r w' => r = .returned (.string b) ∧ Below W.heap.size W w') :
    Calls Tryz.prog 39 #[ev E (.slice ra rn rc) (.slice sa sn sc) (.slice ma mn mc), .string (fldB 3)] w fun r w' => r = .returned (.string b) ∧ Below w.heap.size w w' := by
  obtain ⟨idn, ti, st, lg, f, e, ds, c, u, sk, mv⟩ := E
  unfold ev fldB
  dsimp only at h ⊢
  have H : Hid (_) := h _ (below_alloc w (.cells #[.string idn, .string ti, .int .i64 st, .int .i64 lg, .string f, .int .i64 e, .slice ra rn rc, .int .i64 c, .int .i64 u, .slice sa sn sc, .slice ma mn mc] 27))
  clear h
  go_enter Tryz.func39, Tryz.ntmps39
  go_wp2_with (go_at_call 66; refine Calls.mono H.out ?_; rintro r w1 ⟨rfl, hb1⟩)
  go_ret
  exact ⟨rfl, below_then (below_alloc _ _) hb1⟩
theorem get_skips (E : EV) (ra : Option Addr) (rn rc : Nat) (sa : Option Addr) (sn sc : Nat) (ma : Option Addr) (mn mc : Nat) (b : ByteArray) (w : World)
    (h : ∀ W, Below w.heap.size w W → Calls Tryz.prog 67 #[.slice sa sn sc, .func (.func 64) #[] #[]] W fun r w' => r = .returned (.string b) ∧ Below W.heap.size W w') :
    Calls Tryz.prog 39 #[ev E (.slice ra rn rc) (.slice sa sn sc) (.slice ma mn mc), .string (fldB 4)] w fun r w' => r = .returned (.string b) ∧ Below w.heap.size w w' := by
  obtain ⟨idn, ti, st, lg, f, e, ds, c, u, sk, mv⟩ := E
  unfold ev fldB
  dsimp only at h ⊢
  have H : Hid (_) := h _ (below_alloc w (.cells #[.string idn, .string ti, .int .i64 st, .int .i64 lg, .string f, .int .i64 e, .slice ra rn rc, .int .i64 c, .int .i64 u, .slice sa sn sc, .slice ma mn mc] 27))
  clear h
  go_enter Tryz.func39, Tryz.ntmps39
  go_wp2_with (go_at_call 67; refine Calls.mono H.out ?_; rintro r w1 ⟨rfl, hb1⟩)
  go_ret
  exact ⟨rfl, below_then (below_alloc _ _) hb1⟩
theorem get_moves (E : EV) (ra : Option Addr) (rn rc : Nat) (sa : Option Addr) (sn sc : Nat) (ma : Option Addr) (mn mc : Nat) (b : ByteArray) (w : World)
    (h : ∀ W, Below w.heap.size w W → Calls Tryz.prog 68 #[.slice ma mn mc, .func (.func 69) #[] #[]] W fun r w' => r = .returned (.string b) ∧ Below W.heap.size W w') :
    Calls Tryz.prog 39 #[ev E (.slice ra rn rc) (.slice sa sn sc) (.slice ma mn mc), .string (fldB 5)] w fun r w' => r = .returned (.string b) ∧ Below w.heap.size w w' := by
  obtain ⟨idn, ti, st, lg, f, e, ds, c, u, sk, mv⟩ := E
  unfold ev fldB
  dsimp only at h ⊢
  have H : Hid (_) := h _ (below_alloc w (.cells #[.string idn, .string ti, .int .i64 st, .int .i64 lg, .string f, .int .i64 e, .slice ra rn rc, .int .i64 c, .int .i64 u, .slice sa sn sc, .slice ma mn mc] 27))
  clear h
  go_enter Tryz.func39, Tryz.ntmps39
  go_wp2_with (go_at_call 68; refine Calls.mono H.out ?_; rintro r w1 ⟨rfl, hb1⟩)
  go_ret
  exact ⟨rfl, below_then (below_alloc _ _) hb1⟩

theorem listTextM_nil (a : Option Addr) (cap : Nat) (w : World) :
    Calls Tryz.prog 68 #[.slice a 0 cap, .func (.func 69) #[] #[]] w fun r w' => r = .returned (.string ⟨#[]⟩) ∧ Below w.heap.size w w' := by
  have J : Hid (∀ W, _) := fun W => Tryz.strings_Join_none none 0 ⟨#[44]⟩ W
  go_enter Tryz.func68, Tryz.ntmps68
  go_wp2
  go_loop [5, 10] (fun v i => v = .slice none 0 0 ∧ i = .int .i64 0) (fun _ _ => 0)
  case atStart => exact ⟨rfl, rfl⟩
  case round =>
    obtain ⟨rfl, rfl⟩ := hrel
    go_wp2_with (go_at_call 40; refine (J.out _).mono ?_; rintro r w2 ⟨rfl, rfl⟩)
    go_ret
    exact ⟨rfl, Below.refl _ _⟩

set_option maxHeartbeats 1600000 in
set_option maxRecDepth 100000 in
/-- an event's text, out of the texts of its fields -/
theorem etext_of (E : EV) (sl skv mvv : Value) (ps : List (List UInt8)) (s : Nat → Addr) (w : World) (g : GlobK s w) (hd : Days w sl E.ds) (hs : Ints w skv E.sk) (hm : Movs w mvv E.mv) (h30 : E.id.size ≤ 60) (h60 : E.ti.size ≤ 60) (hw : EW E) (hps : ps.length = 6) (hpl : ∀ p ∈ ps, p.length ≤ 10000)
    (hget : ∀ (i : Nat), i < 6 → ∀ (W : World), Below w.heap.size w W → Calls Tryz.prog 39 #[ev E sl skv mvv, .string (fldB i)] W fun r w' => r = .returned (.string (bs (ps.getD i []))) ∧ Below W.heap.size W w') :
    Calls Tryz.prog 18 #[ev E sl skv mvv] w fun r w' => r = .returned (.string (bs (Lib.join (E.id.data.toList :: ps) [124]))) ∧ Below w.heap.size w w' := by
  have hA := below_alloc w (.cells #[.string E.id, .string E.ti, .int .i64 E.st, .int .i64 E.lg, .string E.f, .int .i64 E.e, sl, .int .i64 E.c, .int .i64 E.u, skv, mvv] 27)
  have hB := EB.new w E sl skv mvv
  have CK : Calls Tryz.prog 17 #[ev E sl skv mvv] _ _ := evCheck_k E sl skv mvv 0 s _ (g.step hA) (hd.step hA) (hs.step hA) (hm.step hA) h30 h60 (by obtain ⟨k, hk⟩ := evK_ex E; have := (evK_0 hk).2 hw; subst this; exact hk)
  rw [errV_0] at CK
  obtain ⟨ra, rc, rfl, _⟩ := hd
  obtain ⟨sa, sc, rfl, _⟩ := hs
  obtain ⟨ma, mc, rfl, _⟩ := hm
  obtain ⟨i0, hi, hz0, hz1, hz2⟩ := info_parts info_str
  have HCK : Hid (Calls _ _ _ _ _) := CK
  have HG : Hid (_) := hget
  have HPL : Hid (_) := hpl
  have HPS : Hid (_) := hps
  clear CK hget g hw hpl hps
  obtain ⟨idn, ti, st, lg, f, e, ds, c, u, sk, mv⟩ := E
  unfold ev EB at *
  dsimp only at *
  have HA : Hid (_) := hA
  clear hA
  generalize hw0 : w.alloc (.cells #[.string idn, .string ti, .int .i64 st, .int .i64 lg, .string f, .int .i64 e, .slice ra ds.length rc, .int .i64 c, .int .i64 u, .slice sa sk.length sc, .slice ma mv.length mc] 27) = w0 at HCK HA hB
  obtain ⟨x0, x1, x2, x3, x4, x5, x6, x7, x8, x9, x10⟩ := blk11 hB
  have BX : Hid (∀ W, Below w0.heap.size w0 W → _) := fun W h => blk11 ((h.block _ (Array.getElem?_eq_some_iff.1 hB).1).trans hB)
  clear hB
  have FA : Hid (∀ W, _) := fun W => fields_any W
  go_enter Tryz.func18, Tryz.ntmps18
  go_upto_region 4 with (go_at_call 17; refine Calls.mono HCK.out ?_; rintro r w1 ⟨rfl, hb1⟩; obtain ⟨y0, y1, y2, y3, y4, y5, y6, y7, y8, y9, y10⟩ := BX.out _ hb1)
  have T1 : Hid (TR w0 (w1.alloc (.cells #[.string idn] 9)) (.slice (some ⟨w1.heap.size, 0, none⟩) 1 1) [idn.data.toList]) := TR.one hb1 idn
  generalize hw2 : w1.alloc (.cells #[.string idn] 9) = w2 at T1
  clear x0 x1 x2 x3 x4 x5 x6 x7 x8 x9 x10 y0 y1 y2 y3 y4 y5 y6 y7 y8 y9 y10
  go_wp2_with (go_at_call 38; refine (FA.out _).mono ?_; rintro r w' ⟨rfl, rfl⟩)
  have T2 : Hid (TR w0 (w2.alloc fldO) (.slice (some ⟨w1.heap.size, 0, none⟩) 1 1) [idn.data.toList]) := T1.out.step (below_alloc _ _)
  have FC : Hid (∀ (i : Nat), i < 6 → (w2.alloc fldO).cell? ⟨w2.heap.size, i, none⟩ = some (.string (fldB i))) := fun i hi => fld_cell w2 i hi
  have hnf : w2.heap.size < (w2.alloc fldO).heap.size := by rw [World.size_alloc]; exact Nat.lt_succ_self _
  have hnp : w1.heap.size ≠ w2.heap.size := by rw [← hw2, World.size_alloc]; exact Nat.ne_of_lt (Nat.lt_succ_self _)
  clear T1 hb1 hw2
  generalize w2.alloc fldO = w3 at T2 FC hnf ⊢
  generalize w2.heap.size = nf at FC hnf hnp ⊢
  generalize w1.heap.size = np at T2 hnp ⊢
  go_loopw [3, 5, 14] (fun v _ i wr => ∃ m : Nat, m ≤ 6 ∧ i = .int .i64 m ∧ Hid ((∀ (i : Nat), i < 6 → wr.cell? ⟨nf, i, none⟩ = some (.string (fldB i))) ∧ nf < wr.heap.size ∧ v.ownBlock ≠ some nf) ∧ Hid (TR w0 wr v (idn.data.toList :: ps.take m))) (fun _ _ i _ => 6 - (intOf i).toNat)
  case atStart => exact ⟨0, Nat.zero_le _, rfl, ⟨FC.out, hnf, by simp [Value.ownBlock]; exact hnp⟩, T2.out⟩
  case round =>
    obtain ⟨m, hm, rfl, hB, HO⟩ := hrel
    by_cases hlt : m < 6
    · have hc1 := hB.out.1 m hlt
      have HN : Hid (ps.take (m + 1) = ps.take m ++ [ps.getD m []]) := by
        show _ = _
        rw [List.take_succ_eq_append_getElem (by rw [HPS.out]; exact hlt), List.getD_eq_getElem?_getD, List.getElem?_eq_getElem (by rw [HPS.out]; exact hlt)]; rfl
      have hcall := HG.out m hlt wr (below_then HA.out HO.out.below)
      obtain ⟨y0, y1, y2, y3, y4, y5, y6, y7, y8, y9, y10⟩ := BX.out wr HO.out.below
      have hlen : (idn.data.toList :: ps.take m).length = m + 1 := by simp; rw [HPS.out]; omega
      have HNL : Hid (idn.data.toList :: ps.take (m + 1) = (idn.data.toList :: ps.take m) ++ [ps.getD m []]) := by show _ = _; rw [HN.out]; rfl
      clear HN HG
      generalize idn.data.toList :: ps.take m = L at HO hlen HNL
      generalize ps.getD m [] = px at HNL hcall
      obtain ⟨oa, oc, rfl⟩ := HO.out.form
      rw [hlen] at HO hB
      have HLN : Hid (L.length = m + 1) := hlen
      have HCL : Hid (Calls _ _ _ _ _) := hcall
      generalize hbt : bs px = bt at HCL
      have HBT : Hid (bs px = bt) := hbt
      have hw3 : w0.heap.size ≤ wr.heap.size := HO.out.below.size
      clear hlen hcall hbt
      rw [HLN.out]
      generalize fldB m = fb at hc1 HCL
      go_wp2_with (first
        | (go_at_call 39; refine Calls.mono HCL.out ?_; rintro r w2 ⟨rfl, hb2⟩; have T3 : Hid (TR w0 w2 (.slice oa (m + 1) oc) L) := HO.out.step hb2; have NC : Hid (_) := word_cell w2 bt; have hz2' : w0.heap.size ≤ w2.heap.size := T3.out.below.size; have CW : Hid ((∀ (i : Nat), i < 6 → w2.cell? ⟨nf, i, none⟩ = some (.string (fldB i))) ∧ nf < w2.heap.size) := ⟨fun i hi => cell_step (hB.out.1 i hi) hb2, Nat.lt_of_lt_of_le hB.out.2.1 hb2.size⟩)
        | (at_builtin; refine wpList_append_own_at _ rfl _ _ 62 rfl w0.heap.size 9 i0 (.string ⟨#[]⟩) 1 16 Tryz.underlying62 hi hz0 hz1 hz2 rfl (by decide) _ _ _ rfl (show World.ownsRow _ _ _ _ _ (m + 1) (L.map sv) by have := T3.out.own.alloc (.cells #[.string bt] 9); rwa [HLN.out] at this) ⟨w2.heap.size, 0, none⟩ 1 1 [.string bt] rfl rfl NC.out (fun v hv => by rw [List.mem_singleton.1 hv]; rfl) (by unfold maxLen; omega) (by omega) (by simp; omega) ?_; intro v' w3' hown' hgrow _ hat; have T4 : Hid (TR w0 w3' v' (L ++ [px])) := TR.app [px] T3.out (by rw [List.length_append, HLN.out]; rfl) (by rw [List.map_append, ← HBT.out]; rfl) hown' hgrow; obtain ⟨g', cap', rfl⟩ := ownsRow_succ hown'; have HGR : Hid ((w2.alloc (.cells #[.string bt] 9)).grownBy w3' (Value.slice oa (m + 1) oc).ownBlock) := hgrow; have HAT : Hid (_) := hat; clear hown' hgrow hat)
        | go_in)
      go_roundw
      case rel =>
        have hne := hB.out.2.2
        have hblk : w3'.heap[nf]? = w2.heap[nf]? := (HGR.out.block nf (by rw [World.size_alloc]; have := CW.out.2; omega) (fun q => hne q.symm)).trans ((below_alloc w2 _).block nf CW.out.2)
        refine ⟨m + 1, by omega, by go_num, ⟨fun i hi => (World.cell?_of_block (a := ⟨nf, i, none⟩) hblk).trans (CW.out.1 i hi), ?_, ?_⟩, by rw [HNL.out]; exact T4.out⟩
        · have := HGR.out.size; rw [World.size_alloc] at this; have := CW.out.2; omega
        · rcases HAT.out with q | q
          · exact fun q2 => hne (q.symm.trans q2)
          · rw [q, World.size_alloc]
            intro q2
            have q3 : w2.heap.size + 1 = nf := by simpa using q2
            have := CW.out.2
            omega
      case measure => simp [intOf]; omega
    · have hm6 : m = 6 := by omega
      subst hm6
      have HE : Hid (ps.take 6 = ps) := List.take_of_length_le (by rw [HPS.out]; exact Nat.le_refl _)
      rw [HE.out] at HO
      have hle : (Lib.join (idn.data.toList :: ps) [124]).length ≤ 100000 := by
        have := joinLen (idn.data.toList :: ps) [124] 10000 (fun y hy => by
          rcases List.mem_cons.1 hy with rfl | q
          · have : idn.data.toList.length = idn.size := Array.length_toList
            omega
          · exact HPL.out y q)
        rw [List.length_cons, HPS.out] at this
        simp at this
        omega
      have J : Hid (_) := joins_any w0 _ (idn.data.toList :: ps) [124] wr HO.out (by rw [List.length_cons, HPS.out]; omega) hle
      obtain ⟨oa, oc, rfl⟩ := HO.out.form
      clear HG hle
      generalize hrb : bs (Lib.join (idn.data.toList :: ps) [124]) = rb at J
      have HRB : Hid (_) := hrb
      clear hrb
      unfold bs at J
      go_wp2_with (go_at_call 40; refine Calls.mono J.out ?_; rintro r w2 ⟨rfl, hb2⟩)
      go_ret
      exact ⟨by rw [HRB.out]; rfl, below_then HA.out (below_then HO.out.below hb2)⟩
end Go.Proofs.YtijdnmkkdofbeaaGreatDoor
