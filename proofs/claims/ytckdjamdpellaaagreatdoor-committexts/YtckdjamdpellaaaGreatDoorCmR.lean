/- Package commit's Read: of any text. -/
import Derived.Test.YtckdjamdpellaaaGreatDoorCmS
import Derived.BigRegion
namespace Go.Proofs.YtckdjamdpellaaaGreatDoor
open Go Go.RowKit Go.Sort Cal
attribute [local go_sem] Oper.semAt_some

/-- how Read ends -/
def ReadIs (s : Nat → Addr) (l : List UInt8) (base : Nat) (r : Ending) (w' : World) : Prop :=
  (∃ (t at_ : Int) (ps : List Int) (note : ByteArray) (a : Option Addr) (n c : Nat), FrmC l t ps at_ note.data.toList ∧ bdC t ps at_ ∧ noteOk note ∧ r = .returned (.tuple #[.agg #[.int .i64 t, .slice a n c, .int .i64 at_, .string note], .nilIface]) ∧ w'.ownsRow base 3 1 (.slice a n c) ps.length (ps.map (Value.int .i64))) ∨
  (((¬ ∃ t ps at_ note, FrmC l t ps at_ note) ∨ ∃ t ps at_ note, FrmC l t ps at_ (ByteArray.data note).toList ∧ bdC t ps at_ ∧ ¬ noteOk note) ∧ r = .returned (.tuple #[.agg #[.int .i64 0, .slice none 0 0, .int .i64 0, .string ⟨#[]⟩], .iface 221 (.pointer (some (s 0)))])) ∨
  ((∃ t ps at_ note, FrmC l t ps at_ (ByteArray.data note).toList ∧ ¬ bdC t ps at_) ∧ r = .returned (.tuple #[.agg #[.int .i64 0, .slice none 0 0, .int .i64 0, .string ⟨#[]⟩], .iface 221 (.pointer (some (s 1)))]))

open Classical in
theorem boolC (P : Prop) : ∃ b : Bool, (b = true ↔ P) := ⟨decide P, decide_eq_true_iff⟩
theorem frm_note {l : List UInt8} {t : Int} {ps : List Int} {at_ : Int} {note : ByteArray} (h : FrmC l t ps at_ note.data.toList) : note.data.toList.length ≤ l.length := by
  obtain ⟨w1, ws, wh, e, _⟩ := h.e
  unfold cutsC at e
  split at e
  · cases e
  · split at e
    · cases e
    · injection e with e
      injection e with _ e
      injection e with _ e
      rw [← e, List.length_drop, List.length_drop]
      omega

theorem owC_ints {base : Nat} {W : World} {sl : Value} {ds : List Int} (h : Ow base W sl ds) (hl : ds.length ≤ 80000) : Ints W sl ds := by
  rcases h.2 with ⟨rfl, h0⟩ | ⟨g, cap, cur, rfl, hb, hg, hcap, hmax, hsz, htake⟩
  · rw [List.length_eq_zero_iff.1 h0]; exact Ints.nil W 0
  · refine ⟨_, cap, rfl, hl, hcap, fun j hj => ⟨g, rfl, (Array.getElem?_eq_some_iff.1 hg).1, ?_⟩⟩
    have := World.ownsRow.cellAt h j (by omega)
    rw [this, List.getElem?_map, List.getElem?_eq_getElem hj]; rfl
theorem nums_len (ws : List ByteArray) : (numsV ws).length = ws.length := by unfold numsV; rw [List.length_map]
theorem frm_len {l : List UInt8} {t : Int} {ps : List Int} {at_ : Int} {note : List UInt8} (h : FrmC l t ps at_ note) (hl : l.length ≤ 1000) : ps.length ≤ 1000 := by
  obtain ⟨w1, ws, wh, e, _, ⟨_, rfl⟩, _⟩ := h.e
  rw [nums_len, List.length_map]
  unfold cutsC at e
  split at e
  · cases e
  · split at e
    · cases e
    · injection e with e
      injection e with e _
      have h1 := pieces_len 32 (l.take (Lib.indexByte l 10).toNat)
      rw [e, List.length_take] at h1
      simp only [List.length_cons] at h1
      omega
theorem set_far {W : World} {B o b p : Nat} {v u : Value} (h : W.cell? ⟨b, p, none⟩ = some u) (hne : b ≠ B) : (W.setCell ⟨B, o, none⟩ v).cell? ⟨b, p, none⟩ = some u :=
  (World.cell?_of_block (a := ⟨b, p, none⟩) (Below.heap_setCell _ _ _ _ hne)).trans h
set_option maxHeartbeats 4000000 in
set_option maxRecDepth 100000 in
theorem cmRead_any (s : Nat → Addr) (x : ByteArray) (w : World) (g : GlobN w) (gp : GlobP s w) (hs : x.size ≤ 1000) :
    Calls Tryz.prog 7 #[.string x] w fun r w' => Below w.heap.size w w' ∧ ReadIs s x.data.toList w.heap.size r w' := by
  have HG : Hid (GlobN w ∧ GlobP s w) := ⟨g, gp⟩
  clear g gp
  have KR : Hid ((w.alloc (.cells #[.int .i64 0, .slice none 0 0, .int .i64 0, .string ⟨#[]⟩] 26)).heap[w.heap.size]? = some (.cells #[.int .i64 0, .slice none 0 0, .int .i64 0, .string ⟨#[]⟩] 26 (0, 0))) := block_at _ rfl
  have HA : Hid (Below w.heap.size w (w.alloc (.cells #[.int .i64 0, .slice none 0 0, .int .i64 0, .string ⟨#[]⟩] 26))) := below_alloc _ _
  have HLT : Hid (w.heap.size < (w.alloc (.cells #[.int .i64 0, .slice none 0 0, .int .i64 0, .string ⟨#[]⟩] 26)).heap.size) := by show _ < _; rw [World.size_alloc]; omega
  generalize hwA : w.alloc (.cells #[.int .i64 0, .slice none 0 0, .int .i64 0, .string ⟨#[]⟩] 26) = w0 at KR HA HLT
  have SP : Hid (Calls _ _ _ _ _) := cmSplit_any x w0 (HG.out.1.step HA.out) hs
  go_enter Tryz.func7, Tryz.ntmps7
  go_wp2_with fail
  refine Calls.mono SP.out ?_
  rintro r w1 ⟨hb1, t, at_, a, n, c, note, b, rfl, hS⟩
  have HB1 : Hid (Below w0.heap.size w0 w1) := hb1
  have HS : Hid (_) := hS
  have hA1 := below_alloc w1 (.cells #[.int .i64 t, .slice a n c, .int .i64 at_, .string note] 26)
  have KC : Hid ((w1.alloc (.cells #[.int .i64 t, .slice a n c, .int .i64 at_, .string note] 26)).heap[w1.heap.size]? = some (.cells #[.int .i64 t, .slice a n c, .int .i64 at_, .string note] 26 (0, 0))) := block_at _ rfl
  clear hb1 hS SP
  go_upto_region 2 with (fail)
  have B2 : Hid (Below w0.heap.size w0 (w1.alloc (.cells #[.int .i64 t, .slice a n c, .int .i64 at_, .string note] 26))) := below_then HB1.out hA1
  have HS2 : Hid ((b = true ∧ ∃ ps, FrmC x.data.toList t ps at_ note.data.toList ∧ (w1.alloc (.cells #[.int .i64 t, .slice a n c, .int .i64 at_, .string note] 26)).ownsRow w0.heap.size 3 1 (.slice a n c) ps.length (ps.map (Value.int .i64))) ∨ (b = false ∧ ¬ ∃ t ps at_ note, FrmC x.data.toList t ps at_ note)) := HS.out.imp (fun ⟨q1, ps, q2, q3⟩ => ⟨q1, ps, q2, own_step q3 hA1⟩) id
  have HQ : Hid (w.heap.size ≠ w1.heap.size) := by have := HLT.out; have := HB1.out.size; show _ ≠ _; omega
  clear hA1 HB1 HS
  generalize w1.alloc (.cells #[.int .i64 t, .slice a n c, .int .i64 at_, .string note] 26) = w2 at KC B2 HS2 ⊢
  generalize w1.heap.size = q1 at KC HQ ⊢
  have KR2 : Hid (w2.heap[w.heap.size]? = some (.cells #[.int .i64 0, .slice none 0 0, .int .i64 0, .string ⟨#[]⟩] 26 (0, 0))) := (B2.out.block _ HLT.out).trans KR.out
  have BF2 : Hid (Below w.heap.size w w2) := below_then HA.out B2.out
  clear KR HA
  cases b with
  | false =>
    have HNO : Hid (¬ ∃ t ps at_ note, FrmC x.data.toList t ps at_ note) := by
      rcases HS2.out with ⟨q, _⟩ | ⟨_, q⟩
      · cases q
      · exact q
    clear HS2
    obtain ⟨z0, z1, z2, z3⟩ := blkC KR2.out
    obtain ⟨f0, f1, f2, f3⟩ := blkC_frozen KR2.out
    have ce := (HG.out.2.step BF2.out).text
    have hne := lt_of_cell HG.out.2.text
    have ce1 : (w2.setCell ⟨w.heap.size, 0, none⟩ (.int .i64 0)).cell? ⟨0, 0, none⟩ = some (.iface 221 (.pointer (some (s 0)))) := set_far ce (by omega)
    have ce2 : (((((w2.setCell ⟨w.heap.size, 0, none⟩ (.int .i64 0)).setCell ⟨w.heap.size, 1, none⟩ (.slice none 0 0)).setCell ⟨w.heap.size, 2, none⟩ (.int .i64 0)).setCell ⟨w.heap.size, 3, none⟩ (.string ⟨#[]⟩)).drew).cell? ⟨0, 0, none⟩ = some (.iface 221 (.pointer (some (s 0)))) := set_far (set_far (set_far (set_far ce (by omega)) (by omega)) (by omega)) (by omega)
    have n4 : (((((w2.setCell ⟨w.heap.size, 0, none⟩ (.int .i64 0)).setCell ⟨w.heap.size, 1, none⟩ (.slice none 0 0)).setCell ⟨w.heap.size, 2, none⟩ (.int .i64 0)).setCell ⟨w.heap.size, 3, none⟩ (.string ⟨#[]⟩)).drew).heap[w.heap.size]? = some (.cells #[.int .i64 0, .slice none 0 0, .int .i64 0, .string ⟨#[]⟩] 26 (0, 0)) := put4_blkC (.int .i64 0) (.slice none 0 0) (.int .i64 0) (.string ⟨#[]⟩) KR2.out
    have g4 := put4_grownC w2 w.heap.size (.int .i64 0) (.slice none 0 0) (.int .i64 0) (.string ⟨#[]⟩)
    have HC4 : Hid (_) := blkC n4
    have BZ : Hid (Below w.heap.size w (((((w2.setCell ⟨w.heap.size, 0, none⟩ (.int .i64 0)).setCell ⟨w.heap.size, 1, none⟩ (.slice none 0 0)).setCell ⟨w.heap.size, 2, none⟩ (.int .i64 0)).setCell ⟨w.heap.size, 3, none⟩ (.string ⟨#[]⟩)).drew)) := below_then (BF2.out.grown g4 BF2.out.size (fun k q => by cases q; exact Nat.le_refl _)) (drew_below _)
    clear n4 g4
    go_upto_region 3 with (fail)
    go_region
    all_goals
      go_wp2
      obtain ⟨c0, c1, c2, c3⟩ := HC4.out
      refine bodyPost_ret (v := .tuple #[.agg #[.int .i64 0, .slice none 0 0, .int .i64 0, .string ⟨#[]⟩], .iface 221 (.pointer (some (s 0)))]) (by simp [results, Tryz.f7, go_sem, c0, c1, c2, c3]) rfl ⟨BZ.out, .inr (.inl ⟨.inl HNO.out, rfl⟩)⟩
  | true =>
    obtain ⟨ps, hF, hO⟩ : ∃ ps, FrmC x.data.toList t ps at_ note.data.toList ∧ w2.ownsRow w0.heap.size 3 1 (.slice a n c) ps.length (ps.map (Value.int .i64)) := by
      rcases HS2.out with ⟨_, q⟩ | ⟨q, _⟩
      · exact q
      · cases q
    obtain ⟨bb, hbb⟩ := boolC (bdC t ps at_)
    obtain ⟨nb, hnb⟩ := boolC (noteOk note)
    have hpl : ps.length ≤ 1000 := frm_len hF (by rw [← Lib.size_eq]; exact hs)
    have hnl : note.size ≤ 1000 := by have := frm_note hF; rw [← Lib.size_eq, ← Lib.size_eq] at this; omega
    have IB : Hid (Calls _ _ _ _ _) := cmInB_any t at_ (.slice a n c) ps note w2 (owC_ints hO (by omega)) bb hbb
    have IN : Hid (∀ W, Calls _ _ _ _ _) := fun W => cmNote_any note W hnl nb hnb
    have HF : Hid (FrmC x.data.toList t ps at_ note.data.toList) := hF
    have HO : Hid (w2.ownsRow w0.heap.size 3 1 (.slice a n c) ps.length (ps.map (Value.int .i64))) := hO
    have HBB : Hid (bb = true ↔ bdC t ps at_) := hbb
    have HNB : Hid (nb = true ↔ noteOk note) := hnb
    obtain ⟨k0, k1, k2, k3⟩ := blkC KC.out
    clear HS2 hF hO hbb hnb hpl hnl
    go_upto_region 4 with (fail)
    go_wp2_with fail
    refine Calls.mono IB.out ?_
    rintro r w3 ⟨rfl, hb3⟩
    have KR3 : Hid (w3.heap[w.heap.size]? = _) := (hb3.block _ (Array.getElem?_eq_some_iff.1 KR2.out).1).trans KR2.out
    have KC3 : Hid (w3.heap[q1]? = _) := (hb3.block _ (Array.getElem?_eq_some_iff.1 KC.out).1).trans KC.out
    have BF3 : Hid (Below w.heap.size w w3) := below_then BF2.out hb3
    have HO3 : Hid (w3.ownsRow w0.heap.size 3 1 (.slice a n c) ps.length (ps.map (Value.int .i64))) := own_step HO.out hb3
    clear hb3 IB KC KR2 BF2 HO B2 k0 k1 k2 k3
    cases bb with
    | false =>
      have HNB2 : Hid (¬ bdC t ps at_) := fun q => by have := HBB.out.2 q; cases this
      obtain ⟨z0, z1, z2, z3⟩ := blkC KR3.out
      obtain ⟨f0, f1, f2, f3⟩ := blkC_frozen KR3.out
      have ce := (HG.out.2.step BF3.out).bound
      have hne := lt_of_cell HG.out.2.bound
      have ce1 : (w3.setCell ⟨w.heap.size, 0, none⟩ (.int .i64 0)).cell? ⟨1, 0, none⟩ = some (.iface 221 (.pointer (some (s 1)))) := set_far ce (by omega)
      have ce2 : (((((w3.setCell ⟨w.heap.size, 0, none⟩ (.int .i64 0)).setCell ⟨w.heap.size, 1, none⟩ (.slice none 0 0)).setCell ⟨w.heap.size, 2, none⟩ (.int .i64 0)).setCell ⟨w.heap.size, 3, none⟩ (.string ⟨#[]⟩)).drew).cell? ⟨1, 0, none⟩ = some (.iface 221 (.pointer (some (s 1)))) := set_far (set_far (set_far (set_far ce (by omega)) (by omega)) (by omega)) (by omega)
      have n4 : (((((w3.setCell ⟨w.heap.size, 0, none⟩ (.int .i64 0)).setCell ⟨w.heap.size, 1, none⟩ (.slice none 0 0)).setCell ⟨w.heap.size, 2, none⟩ (.int .i64 0)).setCell ⟨w.heap.size, 3, none⟩ (.string ⟨#[]⟩)).drew).heap[w.heap.size]? = some (.cells #[.int .i64 0, .slice none 0 0, .int .i64 0, .string ⟨#[]⟩] 26 (0, 0)) := put4_blkC (.int .i64 0) (.slice none 0 0) (.int .i64 0) (.string ⟨#[]⟩) KR3.out
      have g4 := put4_grownC w3 w.heap.size (.int .i64 0) (.slice none 0 0) (.int .i64 0) (.string ⟨#[]⟩)
      have HC4 : Hid (_) := blkC n4
      have BZ : Hid (Below w.heap.size w (((((w3.setCell ⟨w.heap.size, 0, none⟩ (.int .i64 0)).setCell ⟨w.heap.size, 1, none⟩ (.slice none 0 0)).setCell ⟨w.heap.size, 2, none⟩ (.int .i64 0)).setCell ⟨w.heap.size, 3, none⟩ (.string ⟨#[]⟩)).drew)) := below_then (BF3.out.grown g4 BF3.out.size (fun k q => by cases q; exact Nat.le_refl _)) (drew_below _)
      clear n4 g4
      go_upto_region 5 with (fail)
      go_region
      all_goals
        go_wp2
        obtain ⟨c0, c1, c2, c3⟩ := HC4.out
        refine bodyPost_ret (v := .tuple #[.agg #[.int .i64 0, .slice none 0 0, .int .i64 0, .string ⟨#[]⟩], .iface 221 (.pointer (some (s 1)))]) (by simp [results, Tryz.f7, go_sem, c0, c1, c2, c3]) rfl ⟨BZ.out, .inr (.inr ⟨⟨t, ps, at_, note, HF.out, HNB2.out⟩, rfl⟩)⟩
    | true =>
      have HB2 : Hid (bdC t ps at_) := HBB.out.1 rfl
      obtain ⟨k0, k1, k2, k3⟩ := blkC KC3.out
      go_upto_region 6 with (fail)
      go_wp2_with fail
      refine Calls.mono (IN.out w3) ?_
      rintro r w4 ⟨rfl, hb4⟩
      have KR4 : Hid (w4.heap[w.heap.size]? = _) := (hb4.block _ (Array.getElem?_eq_some_iff.1 KR3.out).1).trans KR3.out
      have KC4 : Hid (w4.heap[q1]? = _) := (hb4.block _ (Array.getElem?_eq_some_iff.1 KC3.out).1).trans KC3.out
      have BF4 : Hid (Below w.heap.size w w4) := below_then BF3.out hb4
      have HO4 : Hid (w4.ownsRow w0.heap.size 3 1 (.slice a n c) ps.length (ps.map (Value.int .i64))) := own_step HO3.out hb4
      clear hb4 IN KC3 KR3 BF3 HO3 k0 k1 k2 k3 HBB
      cases nb with
      | false =>
        have HNN : Hid (¬ noteOk note) := fun q => by have := HNB.out.2 q; cases this
        obtain ⟨z0, z1, z2, z3⟩ := blkC KR4.out
        obtain ⟨f0, f1, f2, f3⟩ := blkC_frozen KR4.out
        have ce := (HG.out.2.step BF4.out).text
        have hne := lt_of_cell HG.out.2.text
        have ce1 : (w4.setCell ⟨w.heap.size, 0, none⟩ (.int .i64 0)).cell? ⟨0, 0, none⟩ = some (.iface 221 (.pointer (some (s 0)))) := set_far ce (by omega)
        have ce2 : (((((w4.setCell ⟨w.heap.size, 0, none⟩ (.int .i64 0)).setCell ⟨w.heap.size, 1, none⟩ (.slice none 0 0)).setCell ⟨w.heap.size, 2, none⟩ (.int .i64 0)).setCell ⟨w.heap.size, 3, none⟩ (.string ⟨#[]⟩)).drew).cell? ⟨0, 0, none⟩ = some (.iface 221 (.pointer (some (s 0)))) := set_far (set_far (set_far (set_far ce (by omega)) (by omega)) (by omega)) (by omega)
        have n4 : (((((w4.setCell ⟨w.heap.size, 0, none⟩ (.int .i64 0)).setCell ⟨w.heap.size, 1, none⟩ (.slice none 0 0)).setCell ⟨w.heap.size, 2, none⟩ (.int .i64 0)).setCell ⟨w.heap.size, 3, none⟩ (.string ⟨#[]⟩)).drew).heap[w.heap.size]? = some (.cells #[.int .i64 0, .slice none 0 0, .int .i64 0, .string ⟨#[]⟩] 26 (0, 0)) := put4_blkC (.int .i64 0) (.slice none 0 0) (.int .i64 0) (.string ⟨#[]⟩) KR4.out
        have g4 := put4_grownC w4 w.heap.size (.int .i64 0) (.slice none 0 0) (.int .i64 0) (.string ⟨#[]⟩)
        have HC4 : Hid (_) := blkC n4
        have BZ : Hid (Below w.heap.size w (((((w4.setCell ⟨w.heap.size, 0, none⟩ (.int .i64 0)).setCell ⟨w.heap.size, 1, none⟩ (.slice none 0 0)).setCell ⟨w.heap.size, 2, none⟩ (.int .i64 0)).setCell ⟨w.heap.size, 3, none⟩ (.string ⟨#[]⟩)).drew)) := below_then (BF4.out.grown g4 BF4.out.size (fun k q => by cases q; exact Nat.le_refl _)) (drew_below _)
        clear n4 g4
        go_upto_region 7 with (fail)
        go_region
        all_goals
          go_wp2
          obtain ⟨c0, c1, c2, c3⟩ := HC4.out
          refine bodyPost_ret (v := .tuple #[.agg #[.int .i64 0, .slice none 0 0, .int .i64 0, .string ⟨#[]⟩], .iface 221 (.pointer (some (s 0)))]) (by simp [results, Tryz.f7, go_sem, c0, c1, c2, c3]) rfl ⟨BZ.out, .inr (.inl ⟨.inr ⟨t, ps, at_, note, HF.out, HB2.out, HNN.out⟩, rfl⟩)⟩
      | true =>
        have HN2 : Hid (noteOk note) := HNB.out.1 rfl
        obtain ⟨k0, k1, k2, k3⟩ := blkC KC4.out
        obtain ⟨z0, z1, z2, z3⟩ := blkC KR4.out
        obtain ⟨f0, f1, f2, f3⟩ := blkC_frozen KR4.out
        have n4 := put4_blkC (.int .i64 t) (.slice a n c) (.int .i64 at_) (.string note) KR4.out
        have g4 := put4_grownC w4 w.heap.size (.int .i64 t) (.slice a n c) (.int .i64 at_) (.string note)
        have HC4 : Hid (_) := blkC n4
        have BZ : Hid (Below w.heap.size w _) := BF4.out.grown g4 BF4.out.size (fun k q => by cases q; exact Nat.le_refl _)
        have HOZ : Hid (World.ownsRow _ w.heap.size 3 1 (.slice a n c) ps.length (ps.map (Value.int .i64))) := own_base (HO4.out.kept g4 (.inr (fun q => by have := (World.ownsRow.lt HO4.out _ q).1; have := HLT.out; omega))) (Nat.le_of_lt HLT.out)
        clear n4 g4 HNB HO4
        go_wp2
        obtain ⟨c0, c1, c2, c3⟩ := HC4.out
        refine bodyPost_ret (v := .tuple #[.agg #[.int .i64 t, .slice a n c, .int .i64 at_, .string note], .nilIface]) (by simp [results, Tryz.f7, go_sem, c0, c1, c2, c3]) rfl ⟨BZ.out, .inl ⟨t, at_, ps, note, a, n, c, HF.out, HB2.out, HN2.out, rfl, HOZ.out⟩⟩
end Go.Proofs.YtckdjamdpellaaaGreatDoor
