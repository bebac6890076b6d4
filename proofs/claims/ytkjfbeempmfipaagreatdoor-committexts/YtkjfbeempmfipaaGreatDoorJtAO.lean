/- Package commit's Read: of any text. -/
import Derived.Test.YtkjfbeempmfipaaGreatDoorCmSP
import Derived.BigRegion
namespace Go.Proofs.YtkjfbeempmfipaaGreatDoor
open Go Go.RowKit Go.Sort Cal
attribute [local go_sem] Oper.semAt_some

/-- how Read ends -/
def ReadIs (s : Nat → Addr) (l : List UInt8) (base : Nat) (r : Ending) (w' : World) : Prop :=
  (∃ (t at_ : Int) (ps : List Int) (note : ByteArray) (a : Option Addr) (n c : Nat), FrmC l t ps at_ note.data.toList ∧ bdC t ps at_ ∧ noteOk note ∧ r = .returned (.tuple #[.agg #[.int .i64 t, .slice a n c, .int .i64 at_, .string note], .nilIface]) ∧ w'.ownsRow base 3 1 (.slice a n c) ps.length (ps.map (Value.int .i64))) ∨
  (((¬ ∃ t ps at_ note, FrmC l t ps at_ note) ∨ ∃ t ps at_ note, FrmC l t ps at_ (ByteArray.data note).toList ∧ bdC t ps at_ ∧ ¬ noteOk note) ∧ r = .returned (.tuple #[.agg #[.int .i64 0, .slice none 0 0, .int .i64 0, .string ⟨#[]⟩], .iface 221 (.pointer (some (s 0)))])) ∨
  ((∃ t ps at_ note, FrmC l t ps at_ (ByteArray.data note).toList ∧ ¬ bdC t ps at_) ∧ r = .returned (.tuple #[.agg #[.int .i64 0, .slice none 0 0, .int .i64 0, .string ⟨#[]⟩], .iface 221 (.pointer (some (s 1)))]))

open Classical in
theorem boolC (P : Prop) : ∃ b : Bool, (b = true ↔ P) := ⟨decide P, decide_eq_true_iff⟩
theorem frm_note {l : List UInt8} {t : Int} {ps : List Int} {at_ : Int} {note : ByteArray} (h : FrmC l t ps at_ note.data.toList) : note.data.toList.length ≤ l.length := by
  obtain ⟨w1, ws, wh, e, _⟩ := h.e
  unfold cutsC at e
  split at e
  · cases e
  · split at e
    · cases e
    · injection e with e
      injection e with _ e
      injection e with _ e
      rw [← e, List.length_drop, List.length_drop]
      omega

theorem owC_ints {base : Nat} {W : World} {sl : Value} {ds : List Int} (h : Ow base W sl ds) (hl : ds.length ≤ 80000) : Ints W sl ds := by
  rcases h.2 with ⟨rfl, h0⟩ | ⟨g, cap, cur, rfl, hb, hg, hcap, hmax, hsz, htake⟩
  · rw [List.length_eq_zero_iff.1 h0]; exact Ints.nil W 0
  · refine ⟨_, cap, rfl, hl, hcap, fun j hj => ⟨g, rfl, (Array.getElem?_eq_some_iff.1 hg).1, ?_⟩⟩
    have := World.ownsRow.cellAt h j (by omega)
    rw [this, List.getElem?_map, List.getElem?_eq_getElem hj]; rfl
theorem nums_len (ws : List ByteArray) : (numsV ws).length = ws.length := by unfold numsV; rw [List.length_map]
theorem frm_len {l : List UInt8} {t : Int} {ps : List Int} {at_ : Int} {note : List UInt8} (h : FrmC l t ps at_ note) (hl : l.length ≤ 1000) : ps.length ≤ 1000 := by
  obtain ⟨w1, ws, wh, e, _, ⟨_, rfl⟩, _⟩ := h.e
  rw [nums_len, List.length_map]
  unfold cutsC at e
  split at e
  · cases e
  · split at e
    · cases e
    · injection e with e
      injection e with e _
      have h1 := pieces_len 32 (l.take (Lib.indexByte l 10).toNat)
      rw [e, List.length_take] at h1
      simp only [List.length_cons] at h1
      omega
theorem set_far {W : World} {B o b p : Nat} {v u : Value} (h : W.cell? ⟨b, p, none⟩ = some u) (hne : b ≠ B) : (W.setCell ⟨B, o, none⟩ v).cell? ⟨b, p, none⟩ = some u :=
  (World.cell?_of_block (a := ⟨b, p, none⟩) (Below.heap_setCell _ _ _ _ hne)).trans h
set_option maxHeartbeats 4000000 in
set_option maxRecDepth 100000 in
theorem cmRead_any (s : Nat → Addr) (x : ByteArray) (w : World) (g : GlobN w) (gp : GlobP s w) (hs : x.size ≤ 1000) :
    Calls Tryz.prog 7 #[.string x] w fun r w' => Below w.heap.size w w' ∧ ReadIs s x.data.toList w.heap.size r w' := by
  have HG : Hid (GlobN w ∧ GlobP s w) := ⟨g, gp⟩
  clear g gp
  have KR : Hid ((w.alloc (.cells #[.int .i64 0, .slice none 0 0, .int .i64 0, .string ⟨#[]⟩] 26)).heap[w.heap.size]? = some (.cells #[.int .i64 0, .slice none 0 0, .int .i64 0, .string ⟨#[]⟩] 26 (0, 0))) := block_at _ rfl
  have HA : Hid (Below w.heap.size w (w.alloc (.cells #[.int .i64 0, .slice none 0 0, .int .i64 0, .string ⟨#[]⟩] 26))) := below_alloc _ _
  have HLT : Hid (w.heap.size < (w.alloc (.cells #[.int .i64 0, .slice none 0 0, .int .i64 0, .string ⟨#[]⟩] 26)).heap.size) := by show _ < _; rw [World.size_alloc]; omega
  generalize hwA : w.alloc (.cells #[.int .i64 0, .slice none 0 0, .int .i64 0, .string ⟨#[]⟩] 26) = w0 at KR HA HLT
  have SP : Hid (Calls _ _ _ _ _) := cmSplit_any x w0 (HG.out.1.step HA.out) hs
  go_enter Tryz.func7, Tryz.ntmps7
  go_wp2_with fail
  refine Calls.mono SP.out ?_
  rintro r w1 ⟨hb1, t, at_, a, n, c, note, b, rfl, hS⟩
  have HB1 : Hid (Below w0.heap.size w0 w1) := hb1
  have HS : Hid (_) := hS
  have hA1 := below_alloc w1 (.cells #[.int .i64 t, .slice a n c, .int .i64 at_, .string note] 26)
  have KC : Hid ((w1.alloc (.cells #[.int .i64 t, .slice a n c, .int .i64 at_, .string note] 26)).heap[w1.heap.size]? = some (.cells #[.int .i64 t, .slice a n c, .int .i64 at_, .string note] 26 (0, 0))) := block_at _ rfl
  clear hb1 hS SP
  go_upto_region 2 with (fail)
  have B2 : Hid (Below w0.heap.size w0 (w1.alloc (.cells #[.int .i64 t, .slice a n c, .int .i64 at_, .string note] 26))) := below_then HB1.out hA1
  have HS2 : Hid ((b = true ∧ ∃ ps, FrmC x.data.toList t ps at_ note.data.toList ∧ (w1.alloc (.cells #[.int .i64 t, .slice a n c, .int .i64 at_, .string note] 26)).ownsRow w0.heap.size 3 1 (.slice a n c) ps.length (ps.map (Value.int .i64))) ∨ (b = false ∧ ¬ ∃ t ps at_ note, FrmC x.data.toList t ps at_ note)) := HS.out.imp (fun ⟨q1, ps, q2, q3⟩ => ⟨q1, ps, q2, own_step q3 hA1⟩) id
  have HQ : Hid (w.heap.size ≠ w1.heap.size) := by have := HLT.out; have := HB1.out.size; show _ ≠ _; omega
  clear hA1 HB1 HS
  generalize w1.alloc (.cells #[.int .i64 t, .slice a n c, .int .i64 at_, .string note] 26) = w2 at KC B2 HS2 ⊢
  generalize w1.heap.size = q1 at KC HQ ⊢
  have KR2 : Hid (w2.heap[w.heap.size]? = some (.cells #[.int .i64 0, .slice none 0 0, .int .i64 0, .string ⟨#[]⟩] 26 (0, 0))) := (B2.out.block _ HLT.out).trans KR.out
  have BF2 : Hid (Below w.heap.size w w2) := below_then HA.out B2.out
  clear KR HA
  cases b with
  | false =>
    have HNO : Hid (¬ ∃ t ps at_ note, FrmC x.data.toList t ps at_ note) := by
      rcases HS2.out with ⟨q, _⟩ | ⟨_, q⟩
      · cases q
      · exact q
    clear HS2
    obtain ⟨z0, z1, z2, z3⟩ := blkC KR2.out
    obtain ⟨f0, f1, f2, f3⟩ := blkC_frozen KR2.out
    have ce := (HG.out.2.step BF2.out).text
    have hne := lt_of_cell HG.out.2.text
    have ce1 : (w2.setCell ⟨w.heap.size, 0, none⟩ (.int .i64 0)).cell? ⟨0, 0, none⟩ = some (.iface 221 (.pointer (some (s 0)))) := set_far ce (by omega)
    have ce2 : (((((w2.setCell ⟨w.heap.size, 0, none⟩ (.int .i64 0)).setCell ⟨w.heap.size, 1, none⟩ (.slice none 0 0)).setCell ⟨w.heap.size, 2, none⟩ (.int .i64 0)).setCell ⟨w.heap.size, 3, none⟩ (.string ⟨#[]⟩)).drew).cell? ⟨0, 0, none⟩ = some (.iface 221 (.pointer (some (s 0)))) := set_far (set_far (set_far (set_far ce (by omega)) (by omega)) (by omega)) (by omega)
    have n4 : (((((w2.setCell ⟨w.heap.size, 0, none⟩ (.int .i64 0)).setCell ⟨w.heap.size, 1, none⟩ (.slice none 0 0)).setCell ⟨w.heap.size, 2, none⟩ (.int .i64 0)).setCell ⟨w.heap.size, 3, none⟩ (.string ⟨#[]⟩)).drew).heap[w.heap.size]? = some (.cells #[.int .i64 0, .slice none 0 0, .int .i64 0, .string ⟨#[]⟩] 26 (0, 0)) := put4_blkC (.int .i64 0) (.slice none 0 0) (.int .i64 0) (.string ⟨#[]⟩) KR2.out
    have g4 := put4_grownC w2 w.heap.size (.int .i64 0) (.slice none 0 0) (.int .i64 0) (.string ⟨#[]⟩)
    have HC4 : Hid (_) := blkC n4
    have BZ : Hid (Below w.heap.size w (((((w2.setCell ⟨w.heap.size, 0, none⟩ (.int .i64 0)).setCell ⟨w.heap.size, 1, none⟩ (.slice none 0 0)).setCell ⟨w.heap.size, 2, none⟩ (.int .i64 0)).setCell ⟨w.heap.size, 3, none⟩ (.string ⟨#[]⟩)).drew)) := below_then (BF2.out.grown g4 BF2.out.size (fun k q => by cases q; exact Nat.le_refl _)) (drew_below _)
    clear n4 g4
    go_upto_region 3 with (fail)
    go_region
    all_goals
      go_wp2
      obtain ⟨c0, c1, c2, c3⟩ := HC4.out
      refine bodyPost_ret (v := .tuple #[.agg #[.int .i64 0, .slice none 0 0, .int .i64 0, .string ⟨#[]⟩], .iface 221 (.pointer (some (s 0)))]) (by simp [results, Tryz.f7, go_sem, c0, c1, c2, c3]) rfl ⟨BZ.out, .inr (.inl ⟨.inl HNO.out, rfl⟩)⟩
  | true =>
    obtain ⟨ps, hF, hO⟩ : ∃ ps, FrmC x.data.toList t ps at_ note.data.toList ∧ w2.ownsRow w0.heap.size 3 1 (.slice a n c) ps.length (ps.map (Value.int .i64)) := by
      rcases HS2.out with ⟨_, q⟩ | ⟨q, _⟩
      · exact q
      · cases q
    obtain ⟨bb, hbb⟩ := boolC (bdC t ps at_)
    obtain ⟨nb, hnb⟩ := boolC (noteOk note)
    have hpl : ps.length ≤ 1000 := frm_len hF (by rw [← Lib.size_eq]; exact hs)
    have hnl : note.size ≤ 1000 := by have := frm_note hF; rw [← Lib.size_eq, ← Lib.size_eq] at this; omega
    have IB : Hid (Calls _ _ _ _ _) := cmInB_any t at_ (.slice a n c) ps note w2 (owC_ints hO (by omega)) bb hbb
    have IN : Hid (∀ W, Calls _ _ _ _ _) := fun W => cmNote_any note W hnl nb hnb
    have HF : Hid (FrmC x.data.toList t ps at_ note.data.toList) := hF
    have HO : Hid (w2.ownsRow w0.heap.size 3 1 (.slice a n c) ps.length (ps.map (Value.int .i64))) := hO
    have HBB : Hid (bb = true ↔ bdC t ps at_) := hbb
    have HNB : Hid (nb = true ↔ noteOk note) := hnb
    obtain ⟨k0, k1, k2, k3⟩ := blkC KC.out
    clear HS2 hF hO hbb hnb hpl hnl
    go_upto_region 4 with (fail)
    go_wp2_with fail
    refine Calls.mono IB.out ?_
    rintro r w3 ⟨rfl, hb3⟩
    have KR3 : Hid (w3.heap[w.heap.size]? = _) := (hb3.block _ (Array.getElem?_eq_some_iff.1 KR2.out).1).trans KR2.out
    have KC3 : Hid (w3.heap[q1]? = _) := (hb3.block _ (Array.getElem?_eq_some_iff.1 KC.out).1).trans KC.out
    have BF3 : Hid (Below w.heap.size w w3) := below_then BF2.out hb3
    have HO3 : Hid (w3.ownsRow w0.heap.size 3 1 (.slice a n c) ps.length (ps.map (Value.int .i64))) := own_step HO.out hb3
    clear hb3 IB KC KR2 BF2 HO B2 k0 k1 k2 k3
    cases bb with
    | false =>
      have HNB2 : Hid (¬ bdC t ps at_) := fun q => by have := HBB.out.2 q; cases this
      obtain ⟨z0, z1, z2, z3⟩ := blkC KR3.out
      obtain ⟨f0, f1, f2, f3⟩ := blkC_frozen KR3.out
      have ce := (HG.out.2.step BF3.out).bound
      have hne := lt_of_cell HG.out.2.bound
      have ce1 : (w3.setCell ⟨w.heap.size, 0, none⟩ (.int .i64 0)).cell? ⟨1, 0, none⟩ = some (.iface 221 (.pointer (some (s 1)))) := set_far ce (by omega)
      have ce2 : (((((w3.setCell ⟨w.heap.size, 0, none⟩ (.int .i64 0)).setCell ⟨w.heap.size, 1, none⟩ (.slice none 0 0)).setCell ⟨w.heap.size, 2, none⟩ (.int .i64 0)).setCell ⟨w.heap.size, 3, none⟩ (.string ⟨#[]⟩)).drew).cell? ⟨1, 0, none⟩ = some (.iface 221 (.pointer (some (s 1)))) := set_far (set_far (set_far (set_far ce (by omega)) (by omega)) (by omega)) (by omega)
      have n4 : (((((w3.setCell ⟨w.heap.size, 0, none⟩ (.int .i64 0)).setCell ⟨w.heap.size, 1, none⟩ (.slice none 0 0)).setCell ⟨w.heap.size, 2, none⟩ (.int .i64 0)).setCell ⟨w.heap.size, 3, none⟩ (.string ⟨#[]⟩)).drew).heap[w.heap.size]? = some (.cells #[.int .i64 0, .slice none 0 0, .int .i64 0, .string ⟨#[]⟩] 26 (0, 0)) := put4_blkC (.int .i64 0) (.slice none 0 0) (.int .i64 0) (.string ⟨#[]⟩) KR3.out
      have g4 := put4_grownC w3 w.heap.size (.int .i64 0) (.slice none 0 0) (.int .i64 0) (.string ⟨#[]⟩)
      have HC4 : Hid (_) := blkC n4
      have BZ : Hid (Below w.heap.size w (((((w3.setCell ⟨w.heap.size, 0, none⟩ (.int .i64 0)).setCell ⟨w.heap.size, 1, none⟩ (.slice none 0 0)).setCell ⟨w.heap.size, 2, none⟩ (.int .i64 0)).setCell ⟨w.heap.size, 3, none⟩ (.string ⟨#[]⟩)).drew)) := below_then (BF3.out.grown g4 BF3.out.size (fun k q => by cases q; exact Nat.le_refl _)) (drew_below _)
      clear n4 g4
      go_upto_region 5 with (fail)
      go_region
      all_goals
        go_wp2
        obtain ⟨c0, c1, c2, c3⟩ := HC4.out
        refine bodyPost_ret (v := .tuple #[.agg #[.int .i64 0, .slice none 0 0, .int .i64 0, .string ⟨#[]⟩], .iface 221 (.pointer (some (s 1)))]) (by simp [results, Tryz.f7, go_sem, c0, c1, c2, c3]) rfl ⟨BZ.out, .inr (.inr ⟨⟨t, ps, at_, note, HF.out, HNB2.out⟩, rfl⟩)⟩
    | true =>
      have HB2 : Hid (bdC t ps at_) := HBB.out.1 rfl
      obtain ⟨k0, k1, k2, k3⟩ := blkC KC3.out
      go_upto_region 6 with (fail)
      go_wp2_with fail
      refine Calls.mono (IN.out w3) ?_
      rintro r w4 ⟨rfl, hb4⟩
      have KR4 : Hid (w4.heap[w.heap.size]? = _) := (hb4.block _ (Array.getElem?_eq_some_iff.1 KR3.out).1).trans KR3.out
      have KC4 : Hid (w4.heap[q1]? = _) := (hb4.block _ (Array.getElem?_eq_some_iff.1 KC3.out).1).trans KC3.out
      have BF4 : Hid (Below w.heap.size w w4) := below_then BF3.out hb4
      have HO4 : Hid (w4.ownsRow w0.heap.size 3 1 (.slice a n c) ps.length (ps.map (Value.int .i64))) := own_step HO3.out hb4
      clear hb4 IN KC3 KR3 BF3 HO3 k0 k1 k2 k3 HBB
      cases nb with
      | false =>
        have HNN : Hid (¬ noteOk note) := fun q => by have := HNB.out.2 q; cases this
        obtain ⟨z0, z1, z2, z3⟩ := blkC KR4.out
        obtain ⟨f0, f1, f2, f3⟩ := blkC_frozen KR4.out
        have ce := (HG.out.2.step BF4.out).text
        have hne := lt_of_cell HG.out.2.text
        have ce1 : (w4.setCell ⟨w.heap.size, 0, none⟩ (.int .i64 0)).cell? ⟨0, 0, none⟩ = some (.iface 221 (.pointer (some (s 0)))) := set_far ce (by omega)
        have ce2 : (((((w4.setCell ⟨w.heap.size, 0, none⟩ (.int .i64 0)).setCell ⟨w.heap.size, 1, none⟩ (.slice none 0 0)).setCell ⟨w.heap.size, 2, none⟩ (.int .i64 0)).setCell ⟨w.heap.size, 3, none⟩ (.string ⟨#[]⟩)).drew).cell? ⟨0, 0, none⟩ = some (.iface 221 (.pointer (some (s 0)))) := set_far (set_far (set_far (set_far ce (by omega)) (by omega)) (by omega)) (by omega)
        have n4 : (((((w4.setCell ⟨w.heap.size, 0, none⟩ (.int .i64 0)).setCell ⟨w.heap.size, 1, none⟩ (.slice none 0 0)).setCell ⟨w.heap.size, 2, none⟩ (.int .i64 0)).setCell ⟨w.heap.size, 3, none⟩ (.string ⟨#[]⟩)).drew).heap[w.heap.size]? = some (.cells #[.int .i64 0, .slice none 0 0, .int .i64 0, .string ⟨#[]⟩] 26 (0, 0)) := put4_blkC (.int .i64 0) (.slice none 0 0) (.int .i64 0) (.string ⟨#[]⟩) KR4.out
        have g4 := put4_grownC w4 w.heap.size (.int .i64 0) (.slice none 0 0) (.int .i64 0) (.string ⟨#[]⟩)
        have HC4 : Hid (_) := blkC n4
        have BZ : Hid (Below w.heap.size w (((((w4.setCell ⟨w.heap.size, 0, none⟩ (.int .i64 0)).setCell ⟨w.heap.size, 1, none⟩ (.slice none 0 0)).setCell ⟨w.heap.size, 2, none⟩ (.int .i64 0)).setCell ⟨w.heap.size, 3, none⟩ (.string ⟨#[]⟩)).drew)) := below_then (BF4.out.grown g4 BF4.out.size (fun k q => by cases q; exact Nat.le_refl _)) (drew_below _)
        clear n4 g4
        go_upto_region 7 with (fail)
        go_region
        all_goals
          go_wp2
          obtain ⟨c0, c1, c2, c3⟩ := HC4.out
          refine bodyPost_ret (v := .tuple #[.agg #[.int .i64 0, .slice none 0 0, .int .i64 0, .string ⟨#[]⟩], .iface 221 (.pointer (some (s 0)))]) (by simp [results, Tryz.f7, go_sem, c0, c1, c2, c3]) rfl ⟨BZ.out, .inr (.inl ⟨.inr ⟨t, ps, at_, note, HF.out, HB2.out, HNN.out⟩, rfl⟩)⟩
      | true =>
        have HN2 : Hid (noteOk note) := HNB.out.1 rfl
        obtain ⟨k0, k1, k2, k3⟩ := blkC KC4.out
        obtain ⟨z0, z1, z2, z3⟩ := blkC KR4.out
        obtain ⟨f0, f1, f2, f3⟩ := blkC_frozen KR4.out
        have n4 := put4_blkC (.int .i64 t) (.slice a n c) (.int .i64 at_) (.string note) KR4.out
        have g4 := put4_grownC w4 w.heap.size (.int .i64 t) (.slice a n c) (.int .i64 at_) (.string note)
        have HC4 : Hid (_) := blkC n4
        have BZ : Hid (Below w.heap.size w _) := BF4.out.grown g4 BF4.out.size (fun k q => by cases q; exact Nat.le_refl _)
        have HOZ : Hid (World.ownsRow _ w.heap.size 3 1 (.slice a n c) ps.length (ps.map (Value.int .i64))) := own_base (HO4.out.kept g4 (.inr (fun q => by have := (World.ownsRow.lt HO4.out _ q).1; have := HLT.out; omega))) (Nat.le_of_lt HLT.out)
        clear n4 g4 HNB HO4
        go_wp2
        obtain ⟨c0, c1, c2, c3⟩ := HC4.out
        refine bodyPost_ret (v := .tuple #[.agg #[.int .i64 t, .slice a n c, .int .i64 at_, .string note], .nilIface]) (by simp [results, Tryz.f7, go_sem, c0, c1, c2, c3]) rfl ⟨BZ.out, .inl ⟨t, at_, ps, note, a, n, c, HF.out, HB2.out, HN2.out, rfl, HOZ.out⟩⟩
end Go.Proofs.YtkjfbeempmfipaaGreatDoor

/- The document's own Cut, ReadCommit. -/
namespace Go.Proofs.YtkjfbeempmfipaaGreatDoor
open Go Go.RowKit Go.Sort Cal
attribute [local go_sem] Oper.semAt_some

/-- the pieces of a text's first k bytes that are ended, and where the last one begins -/
theorem pieces_snoc_hit (c : UInt8) : ∀ l : List UInt8, pieces c (l ++ [c]) = pieces c l ++ [[]]
  | [] => by simp [pieces]
  | b :: t => by
    have h := pieces_snoc_hit c t
    rw [List.cons_append]
    unfold pieces
    by_cases hb : b = c
    · rw [if_pos hb, if_pos hb, h]; rfl
    · rw [if_neg hb, if_neg hb, h]
      cases hq : pieces c t with
      | nil => exact absurd hq (pieces_some c t)
      | cons x r => rfl
theorem pieces_snoc_miss (c d : UInt8) (hd : d ≠ c) : ∀ l : List UInt8, ∃ (I : List (List UInt8)) (x : List UInt8), pieces c l = I ++ [x] ∧ pieces c (l ++ [d]) = I ++ [x ++ [d]]
  | [] => ⟨[], [], by simp [pieces], by simp [pieces, hd]⟩
  | b :: t => by
    obtain ⟨I, x, h1, h2⟩ := pieces_snoc_miss c d hd t
    rw [List.cons_append]
    unfold pieces
    by_cases hb : b = c
    · rw [if_pos hb, if_pos hb, h1, h2]
      exact ⟨[] :: I, x, rfl, rfl⟩
    · rw [if_neg hb, if_neg hb, h1, h2]
      cases I with
      | nil => exact ⟨[], b :: x, rfl, rfl⟩
      | cons y r => exact ⟨(b :: y) :: r, x, rfl, rfl⟩
/-- the pieces that are ended, and the one that is not -/
def pcInit (c : UInt8) (l : List UInt8) : List (List UInt8) := (pieces c l).dropLast
def pcLast (c : UInt8) (l : List UInt8) : List UInt8 := (pieces c l).getLast (pieces_some c l)
theorem pc_both (c : UInt8) (l : List UInt8) : pieces c l = pcInit c l ++ [pcLast c l] := (List.dropLast_concat_getLast (pieces_some c l)).symm
theorem pc_hit (c : UInt8) (l : List UInt8) : pcInit c (l ++ [c]) = pcInit c l ++ [pcLast c l] ∧ pcLast c (l ++ [c]) = [] := by
  have h := pieces_snoc_hit c l
  have h2 := pc_both c (l ++ [c])
  rw [h, pc_both c l] at h2
  have h3 := List.append_inj' h2 rfl
  exact ⟨h3.1.symm, by injection h3.2 with q _; exact q.symm⟩
theorem pc_miss (c d : UInt8) (l : List UInt8) (hd : d ≠ c) : pcInit c (l ++ [d]) = pcInit c l ∧ pcLast c (l ++ [d]) = pcLast c l ++ [d] := by
  obtain ⟨I, x, h1, h2⟩ := pieces_snoc_miss c d hd l
  have e1 := pc_both c l
  have e2 := pc_both c (l ++ [d])
  rw [h1] at e1
  rw [h2] at e2
  have q1 := List.append_inj' e1 rfl
  have q2 := List.append_inj' e2 rfl
  have r1 : x = pcLast c l := by injection q1.2
  have r2 : x ++ [d] = pcLast c (l ++ [d]) := by injection q2.2
  exact ⟨q2.1.symm.trans q1.1, r2.symm.trans (by rw [r1])⟩

theorem extract_at (s : ByteArray) (a b : Nat) : s.extract a b = bs ((s.data.toList.take b).drop a) := by
  apply pl_ext
  rw [bs_data]
  simp [ByteArray.data_extract, Array.toList_extract, List.drop_take]
theorem word_cellC (W : World) (x : ByteArray) : ∀ (j : Nat) (v : Value), [Value.string x][j]? = some v → (W.alloc (.cells #[.string x] 9)).cell? ((⟨W.heap.size, 0, none⟩ : Addr).add j) = some v := fun j v hv => by
  match j, hv with
  | 0, hv => simp at hv; subst hv; simp [Addr.add]
/-- what Cut has behind k bytes -/
structure CutAt (s : ByteArray) (c : UInt8) (w wr : World) (k f : Nat) (v : Value) : Prop where
  own : wr.ownsRow w.heap.size 9 1 v (pcInit c (s.data.toList.take k)).length ((pcInit c (s.data.toList.take k)).map sv)
  below : Below w.heap.size w wr
  le : f ≤ k
  last : (s.data.toList.take k).drop f = pcLast c (s.data.toList.take k)
theorem CutAt.miss {s : ByteArray} {c : UInt8} {w wr : World} {k f : Nat} {v : Value} (h : CutAt s c w wr k f v) (hk : k < s.size) (hne : s[k] ≠ c) : CutAt s c w wr (k + 1) f v := by
  have e := take_snoc s k hk
  obtain ⟨q1, q2⟩ := pc_miss c s[k] (s.data.toList.take k) hne
  have hl : (s.data.toList.take k).length = k := by rw [List.length_take, ← Lib.size_eq]; omega
  refine ⟨by rw [e, q1]; exact h.own, h.below, by have := h.le; omega, ?_⟩
  rw [e, q2, List.drop_append_of_le_length (by rw [hl]; exact h.le), h.last]
theorem cutAt_hit {s : ByteArray} {c : UInt8} {w w5 : World} {k : Nat} {v' : Value} (hk : k < s.size) (he : s[k] = c) (ho : w5.ownsRow w.heap.size 9 1 v' ((pcInit c (s.data.toList.take k)).length + 1) ((pcInit c (s.data.toList.take k)).map sv ++ [sv (pcLast c (s.data.toList.take k))])) (hb : Below w.heap.size w w5) : CutAt s c w w5 (k + 1) (k + 1) v' := by
  have e := take_snoc s k hk
  obtain ⟨q1, q2⟩ := pc_hit c (s.data.toList.take k)
  rw [he] at e
  have hl : (s.data.toList.take (k + 1)).length = k + 1 := by rw [List.length_take, ← Lib.size_eq]; omega
  refine ⟨?_, hb, Nat.le_refl _, ?_⟩
  · rw [e, q1, List.length_append, List.map_append]
    exact ho
  · rw [List.drop_of_length_le (by rw [hl]; exact Nat.le_refl _), e, q2]
set_option maxHeartbeats 2000000 in
set_option maxRecDepth 100000 in
theorem rcut_any (s : ByteArray) (c : UInt8) (w : World) (hs : s.size ≤ 1000) :
    Calls Tryz.prog 20 #[.string s, .int .u8 c.toNat] w fun r w' => Below w.heap.size w w' ∧ ∃ v, r = .returned v ∧ w'.ownsRow w.heap.size 9 1 v (pieces c s.data.toList).length ((pieces c s.data.toList).map sv) := by
  obtain ⟨i0, hi, hz0, hz1, hz2⟩ := info_parts info_str
  go_enter Tryz.func20, Tryz.ntmps20
  go_wp2
  go_loopw [5, 6, 7] (fun v fr i wr => ∃ k f : Nat, k ≤ s.size ∧ i = .int .i64 k ∧ fr = .int .i64 f ∧ (∃ a n c, v = .slice a n c) ∧ f ≤ k ∧ Hid (CutAt s c w wr k f v)) (fun _ _ i _ => s.size - (intOf i).toNat)
  case atStart => exact ⟨0, 0, Nat.zero_le _, rfl, rfl, ⟨_, _, _, rfl⟩, Nat.le_refl _, ⟨by rw [List.take_zero]; exact World.ownsRow_nil _ _ _ _, Below.refl _ _, Nat.le_refl _, by rw [List.take_zero]; rfl⟩⟩
  case round =>
    obtain ⟨k, f, hk, rfl, rfl, ⟨va, vn, vc, rfl⟩, hfk, HR⟩ := hrel
    have hvl : (pcInit c (s.data.toList.take k)).length ≤ 1001 := by
      have h1 := pieces_len c (s.data.toList.take k)
      rw [List.length_take, ← Lib.size_eq] at h1
      unfold pcInit
      rw [List.length_dropLast]
      omega
    have hvn : vn = (pcInit c (s.data.toList.take k)).length := by
      obtain ⟨a9, c9, e9⟩ := own_formC HR.out.own
      injection e9
    by_cases hlt : k < s.size
    · by_cases hc : s[k] = c
      · have hcv : (s[k].toNat : Int) = (c.toNat : Int) := by rw [hc]
        have hex : s.extract f k = bs (pcLast c (s.data.toList.take k)) := by rw [extract_at, HR.out.last]
        have HIT : Hid (∀ (w5 : World) (v' : Value), w5.ownsRow w.heap.size 9 1 v' ((pcInit c (s.data.toList.take k)).length + 1) ((pcInit c (s.data.toList.take k)).map sv ++ [sv (pcLast c (s.data.toList.take k))]) → Below w.heap.size w w5 → CutAt s c w w5 (k + 1) (k + 1) v') := fun w5 v' h1 h2 => cutAt_hit hlt hc h1 h2
        have HOW : Hid (wr.ownsRow w.heap.size 9 1 (.slice va vn vc) (pcInit c (s.data.toList.take k)).length ((pcInit c (s.data.toList.take k)).map sv)) := HR.out.own
        have HBW : Hid (Below w.heap.size w wr) := HR.out.below
        have hzz : w.heap.size ≤ wr.heap.size := HBW.out.size
        have hsv : sv (pcLast c (s.data.toList.take k)) = .string (s.extract f k) := by rw [hex]; rfl
        rw [hsv] at HIT
        generalize (pcInit c (s.data.toList.take k)) = I at HIT HOW hvl hvn
        subst hvn
        have hfk' : (f : Int) ≤ (k : Int) := by omega
        have hks : (k : Int) ≤ (s.size : Int) := by omega
        have hf0 : (0 : Int) ≤ (f : Int) := by omega
        clear HR hex hsv
        obtain ⟨X, hX⟩ : ∃ X, s.extract f k = X := ⟨_, rfl⟩
        rw [hX] at HIT
        have NC : Hid (_) := word_cellC wr X
        go_upto_region 8 with (first
          | (at_builtin; refine wpList_append_own_at _ rfl _ _ 44 rfl w.heap.size 9 i0 (.string ⟨#[]⟩) 1 16 Tryz.underlying44 hi hz0 hz1 hz2 rfl (by decide) _ _ _ rfl (World.ownsRow.alloc HOW.out (.cells #[.string X] 9)) ⟨wr.heap.size, 0, none⟩ 1 1 [.string X] rfl rfl NC.out (fun v hv => by rw [List.mem_singleton.1 hv]; rfl) (by unfold maxLen; omega) (by omega) (by rw [World.size_alloc]; omega) ?_; intro v' w5 hown' hgrow _ hat; have B5 : Hid (Below w.heap.size w w5) := (below_then HBW.out (below_alloc wr (.cells #[.string X] 9))).grown hgrow (by rw [World.size_alloc]; omega) (fun k q => (World.ownsRow.lt HOW.out k q).1); have O5 : Hid (CutAt s c w w5 (k + 1) (k + 1) v') := HIT.out w5 v' hown' B5.out; obtain ⟨g', cap', rfl⟩ := ownsRow_succ hown'; clear hown' hgrow hat)
          | go_in)
        go_wp2
        go_roundw
        case rel => exact ⟨k + 1, k + 1, by omega, by go_num, by go_num, ⟨_, _, _, rfl⟩, Nat.le_refl _, O5.out⟩
        case measure => simp [intOf]; omega
      · have hcv : ¬ ((s[k].toNat : Int) = (c.toNat : Int)) := fun q => hc (UInt8.toNat_inj.1 (by omega))
        have HM : Hid (CutAt s c w wr (k + 1) f (.slice va vn vc)) := HR.out.miss hlt hc
        clear HR hvn hvl hc
        go_wp2
        go_roundw
        case rel => exact ⟨k + 1, f, by omega, by go_num, rfl, ⟨_, _, _, rfl⟩, by omega, HM.out⟩
        case measure => simp [intOf]; omega
    · have hke : k = s.size := by omega
      subst hke
      have hfull : s.data.toList.take s.size = s.data.toList := List.take_of_length_le (by rw [← Lib.size_eq]; exact Nat.le_refl _)
      have hlast := HR.out.last
      have HOW : Hid (wr.ownsRow w.heap.size 9 1 (.slice va vn vc) (pcInit c (s.data.toList.take s.size)).length ((pcInit c (s.data.toList.take s.size)).map sv)) := HR.out.own
      have HBW : Hid (Below w.heap.size w wr) := HR.out.below
      rw [hfull] at hlast HOW hvl hvn
      have hex : s.extract f s.size = bs (pcLast c s.data.toList) := by rw [extract_at, hfull, hlast]
      have HE : Hid ((pieces c s.data.toList).length = (pcInit c s.data.toList).length + 1 ∧ (pieces c s.data.toList).map sv = (pcInit c s.data.toList).map sv ++ [.string (s.extract f s.size)]) := by
        rw [pc_both c s.data.toList, List.length_append, List.map_append, hex]
        exact ⟨rfl, rfl⟩
      have hzz : w.heap.size ≤ wr.heap.size := HBW.out.size
      generalize (pcInit c s.data.toList) = I at HOW hvl hvn HE
      subst hvn
      have hfs : (f : Int) ≤ (s.size : Int) := by omega
      have hf0 : (0 : Int) ≤ (f : Int) := by omega
      clear HR hex hlast hfull
      obtain ⟨X, hX⟩ : ∃ X, s.extract f s.size = X := ⟨_, rfl⟩
      rw [hX] at HE
      have NC : Hid (_) := word_cellC wr X
      go_wp2_with (first
        | (at_builtin; refine wpList_append_own_at _ rfl _ _ 44 rfl w.heap.size 9 i0 (.string ⟨#[]⟩) 1 16 Tryz.underlying44 hi hz0 hz1 hz2 rfl (by decide) _ _ _ rfl (World.ownsRow.alloc HOW.out (.cells #[.string X] 9)) ⟨wr.heap.size, 0, none⟩ 1 1 [.string X] rfl rfl NC.out (fun v hv => by rw [List.mem_singleton.1 hv]; rfl) (by unfold maxLen; omega) (by omega) (by rw [World.size_alloc]; omega) ?_; intro v' w5 hown' hgrow _ hat; have B5 : Hid (Below w.heap.size w w5) := (below_then HBW.out (below_alloc wr (.cells #[.string X] 9))).grown hgrow (by rw [World.size_alloc]; omega) (fun k q => (World.ownsRow.lt HOW.out k q).1); have O5 : Hid (w5.ownsRow w.heap.size 9 1 v' (I.length + 1) (I.map sv ++ [.string X])) := hown'; obtain ⟨g', cap', rfl⟩ := ownsRow_succ hown'; clear hown' hgrow hat)
        | go_in)
      go_ret
      exact ⟨B5.out, _, rfl, by rw [HE.out.1, HE.out.2]; exact O5.out⟩
end Go.Proofs.YtkjfbeempmfipaaGreatDoor
