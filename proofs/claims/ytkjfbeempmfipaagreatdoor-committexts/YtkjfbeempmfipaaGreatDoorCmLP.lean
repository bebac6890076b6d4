/- The document's ReadCommit (written by wip/gen/mkCmL.py). -/
import Derived.Test.YtkjfbeempmfipaaGreatDoorJtAO
import Derived.BigRegion
namespace Go.Proofs.YtkjfbeempmfipaaGreatDoor
open Go Go.RowKit Go.Sort Cal
attribute [local go_sem] Oper.semAt_some

theorem index_afterC {a r : List UInt8} {c : UInt8} (h : c ∉ a) : Lib.indexByte (a ++ c :: r) c = a.length := by
  induction a with
  | nil => simp [Lib.indexByte]
  | cons x a ih =>
    have h1 : x ≠ c := fun e => h (by rw [e]; exact List.mem_cons_self)
    have h2 := ih (fun q => h (List.mem_cons_of_mem _ q))
    show (if x == c then (0 : Int) else if Lib.indexByte (a ++ c :: r) c == -1 then -1 else Lib.indexByte (a ++ c :: r) c + 1) = _
    rw [h2, if_neg (by simpa using h1), if_neg (by simp)]
    simp
theorem idx_hit {s : ByteArray} {c : UInt8} {k : Nat} (hk : k < s.size) (hn : c ∉ s.data.toList.take k) (hc : s[k] = c) : Lib.indexByte s.data.toList c = k := by
  have hsz : s.data.toList.length = s.size := (Lib.size_eq s).symm
  have e : s.data.toList = s.data.toList.take k ++ c :: s.data.toList.drop (k + 1) := by
    conv => lhs; rw [← List.take_append_drop k s.data.toList]
    congr 1
    have hkl : k < s.data.toList.length := by rw [hsz]; exact hk
    have := Lib.data_getElem? s k hk
    rw [List.getElem?_eq_getElem hkl] at this
    rw [List.drop_eq_getElem_cons hkl, Option.some.inj this, hc]
  have := index_afterC (r := s.data.toList.drop (k + 1)) hn
  rw [← e, List.length_take, hsz] at this
  rw [this, Nat.min_eq_left (Nat.le_of_lt hk)]
theorem idx_none {l : List UInt8} {c : UInt8} (h : c ∉ l) : Lib.indexByte l c < 0 := by
  by_cases q : Lib.indexByte l c < 0
  · exact q
  · obtain ⟨o, ho⟩ : ∃ o : Nat, Lib.indexByte l c = o := ⟨(Lib.indexByte l c).toNat, by omega⟩
    exact absurd (List.mem_of_getElem? (Lib.indexByte_some ho).1) h
theorem not_take {s : ByteArray} {c : UInt8} {k : Nat} (hk : k < s.size) (hn : c ∉ s.data.toList.take k) (hc : s[k] ≠ c) : c ∉ s.data.toList.take (k + 1) := by
  rw [take_snoc s k hk]
  intro q
  rcases List.mem_append.1 q with q | q
  · exact hn q
  · exact hc (List.mem_singleton.1 q).symm
/-- how the document's ReadCommit ends -/
def MReadC (l : List UInt8) (r : Ending) (w' : World) : Prop :=
  (∃ (t at_ : Int) (ps : List Int) (note : ByteArray) (v : Value), FrmC l t ps at_ note.data.toList ∧ bdC t ps at_ ∧ noteOk note ∧ r = .returned (.tuple #[.agg #[.int .i64 t, v, .int .i64 at_, .string note], .int .i64 0]) ∧ Got w' v ps) ∨
  (((¬ ∃ t ps at_ note, FrmC l t ps at_ note) ∨ ∃ t ps at_ note, FrmC l t ps at_ (ByteArray.data note).toList ∧ bdC t ps at_ ∧ ¬ noteOk note) ∧ r = .returned (.tuple #[.agg #[.int .i64 0, .slice none 0 0, .int .i64 0, .string ⟨#[]⟩], .int .i64 1])) ∨
  ((∃ t ps at_ note, FrmC l t ps at_ (ByteArray.data note).toList ∧ ¬ bdC t ps at_) ∧ r = .returned (.tuple #[.agg #[.int .i64 0, .slice none 0 0, .int .i64 0, .string ⟨#[]⟩], .int .i64 2]))
theorem frm_no {l : List UInt8} (h : cutsC l = none) : ¬ ∃ t ps at_ note, FrmC l t ps at_ note := fun ⟨_, _, _, _, hf⟩ => by
  obtain ⟨_, _, _, e, _⟩ := hf.e
  rw [h] at e
  cases e
theorem frm_not {l : List UInt8} {ws : List (List UInt8)} {wh nt : List UInt8} (h : cutsC l = some (ws, wh, nt)) (hn : ∀ w1 r, ws = [99, 111, 109, 109, 105, 116] :: w1 :: r → ¬ ((numOfC w1).isSome = true ∧ numsOk (r.map bs) ∧ (numOfC wh).isSome = true)) : ¬ ∃ t ps at_ note, FrmC l t ps at_ note := fun ⟨_, _, _, _, hf⟩ => by
  obtain ⟨w1, r, wh', e, h1, h2, h3⟩ := hf.e
  rw [h] at e
  injection e with e
  injection e with e1 e2
  injection e2 with e2 _
  subst e1
  refine hn w1 r rfl ⟨by rw [h1]; rfl, h2.1, by rw [e2, h3]; rfl⟩

set_option maxHeartbeats 8000000 in
set_option maxRecDepth 100000 in
theorem mcmRead_any (x : ByteArray) (w : World) (hs : x.size ≤ 1000) :
    Calls Tryz.prog 8 #[.string x] w fun r w' => Below w.heap.size w w' ∧ MReadC x.data.toList r w' := by
  obtain ⟨i0, hi, hz0, hz1, hz2⟩ := info_parts info_intC
  have KR : Hid ((w.alloc (.cells #[.int .i64 0, .slice none 0 0, .int .i64 0, .string ⟨#[]⟩] 28)).heap[w.heap.size]? = some (.cells #[.int .i64 0, .slice none 0 0, .int .i64 0, .string ⟨#[]⟩] 28 (0, 0))) := block_at _ rfl
  have HA : Hid (Below w.heap.size w (w.alloc (.cells #[.int .i64 0, .slice none 0 0, .int .i64 0, .string ⟨#[]⟩] 28))) := below_alloc _ _
  have HLT : Hid (w.heap.size < (w.alloc (.cells #[.int .i64 0, .slice none 0 0, .int .i64 0, .string ⟨#[]⟩] 28)).heap.size) := by show _ < _; rw [World.size_alloc]; omega
  generalize hwA : w.alloc (.cells #[.int .i64 0, .slice none 0 0, .int .i64 0, .string ⟨#[]⟩] 28) = w0 at KR HA HLT
  have KRA : Hid (∀ W, Below w0.heap.size w0 W → W.heap[w.heap.size]? = some (.cells #[.int .i64 0, .slice none 0 0, .int .i64 0, .string ⟨#[]⟩] 28 (0, 0))) := fun W hW => (hW.block _ HLT.out).trans KR.out
  clear KR
  have HSX : Hid (x.data.toList.length = x.size) := (Lib.size_eq x).symm
  have Bw0 : Hid (Below w0.heap.size w0 w0) := Below.refl _ _
  go_enter Tryz.func8, Tryz.ntmps8
  go_wp2
  go_loopw [4] (fun i wr => ∃ k : Nat, k ≤ x.size ∧ i = .int .i64 k ∧ wr = w0 ∧ Hid ((10 : UInt8) ∉ x.data.toList.take k)) (fun i _ => x.size - (intOf i).toNat)
  case atStart => exact ⟨0, Nat.zero_le _, rfl, by first | rfl | trivial, by show _ ∉ _; simp⟩
  case round =>
    obtain ⟨k, hk, rfl, rfl, HN⟩ := hrel
    by_cases hlt : k < x.size
    · by_cases hc : x[k] = 10
      · have hcv : (x[k].toNat : Int) = 10 := by rw [hc]; rfl
        have hkn : ¬ ((k : Int) = (x.size : Int)) := by omega
        have HI : Hid (Lib.indexByte x.data.toList 10 = k) := idx_hit hlt HN.out hc
        have he1 : x.extract 0 k = bs (x.data.toList.take k) := by rw [extract_at, List.drop_zero]
        have he2 : x.extract (k + 1) x.size = bs (x.data.toList.drop (k + 1)) := by
          rw [extract_at, List.take_of_length_le (by rw [HSX.out]; exact Nat.le_refl _)]
        have HRS : Hid ((x.extract (k + 1) x.size).data.toList = x.data.toList.drop (k + 1)) := by show _ = _; rw [he2, bs_data]
        have hRsz : (x.extract (k + 1) x.size).size ≤ 1000 := by rw [Lib.size_eq, HRS.out, List.length_drop, HSX.out]; omega
        have RC : Hid (Calls Tryz.prog 20 #[.string (x.extract 0 k), .int .u8 32] wr fun r w' => Below wr.heap.size wr w' ∧ ∃ v, r = .returned v ∧ w'.ownsRow wr.heap.size 9 1 v (pieces 32 (x.data.toList.take k)).length ((pieces 32 (x.data.toList.take k)).map sv)) := by
          have h := rcut_any (x.extract 0 k) 32 wr (by rw [he1, Lib.size_eq, bs_data, List.length_take, HSX.out]; omega)
          rw [show (x.extract 0 k).data.toList = x.data.toList.take k by rw [he1, bs_data]] at h
          exact h
        have HPL : Hid ((pieces 32 (x.data.toList.take k)).length ≤ 1001) := by
          have := pieces_len 32 (x.data.toList.take k)
          rw [List.length_take, HSX.out] at this
          show _ ≤ _
          omega
        have HPP : Hid (pieces 32 (x.data.toList.take k) ≠ []) := pieces_some 32 _
        have hk1 : (k : Int) + 1 ≤ (x.size : Int) := by omega
        have hk0 : (0 : Int) ≤ (k : Int) + 1 := by omega
        have hk2 : ((k : Int) + 1).toNat = k + 1 := by omega
        have HCU : Hid (∀ j : Nat, Lib.indexByte (x.extract (k + 1) x.size).data.toList 32 = j → cutsC x.data.toList = some (pieces 32 (x.data.toList.take k), (x.extract (k + 1) x.size).data.toList.take j, (x.extract (k + 1) x.size).data.toList.drop (j + 1))) := fun j hj => by
          rw [HRS.out] at hj ⊢
          unfold cutsC
          rw [if_neg (by rw [HI.out]; omega), HI.out, Int.toNat_natCast, if_neg (by omega), hj, Int.toNat_natCast]
        have HCN : Hid (Lib.indexByte (x.extract (k + 1) x.size).data.toList 32 < 0 → cutsC x.data.toList = none) := fun hj => by
          rw [HRS.out] at hj
          unfold cutsC
          rw [if_neg (by rw [HI.out]; omega), HI.out, Int.toNat_natCast, if_pos hj]
        clear he1 he2 HN HI HRS
        generalize pieces 32 (x.data.toList.take k) = ws at RC HPL HPP HCU
        obtain ⟨R, hR⟩ : ∃ R, x.extract (k + 1) x.size = R := ⟨_, rfl⟩
        rw [hR] at hRsz HCU HCN
        go_wp2_with (go_at_call 20; refine Calls.mono RC.out ?_; rintro r w1 ⟨hb1, vw, rfl, hrow⟩; have Bw1 : Hid (Below wr.heap.size wr w1) := hb1; have HROW : Hid (w1.ownsRow wr.heap.size 9 1 vw ws.length (ws.map sv)) := hrow; obtain ⟨wa, wc, rfl⟩ := own_formC hrow; clear hb1 hrow)
        have HWC : Hid (∀ (j : Nat) (h : j < ws.length), ∃ b : Nat, wa = some ⟨b, 0, none⟩ ∧ b < w1.heap.size ∧ w1.cell? ⟨b, j, none⟩ = some (.string (bs ws[j]))) := fun j hj => by
          rcases HROW.out.2 with ⟨q, h0⟩ | ⟨g, cap, cur, q, _, hg, _, _, _, _⟩
          · omega
          · have ho := HROW.out
            injection q with q1 q2 q3
            subst q1 q3
            refine ⟨g, rfl, (Array.getElem?_eq_some_iff.1 hg).1, ?_⟩
            have := World.ownsRow.cellAt ho j (by omega)
            rw [this, List.getElem?_map, List.getElem?_eq_getElem hj]
            rfl
        clear RC HROW
        have HSR : Hid (R.data.toList.length = R.size) := (Lib.size_eq R).symm
        go_loopw [7] (fun i wr2 => ∃ j : Nat, j ≤ R.size ∧ i = .int .i64 j ∧ wr2 = w1 ∧ Hid ((32 : UInt8) ∉ R.data.toList.take j)) (fun i _ => R.size - (intOf i).toNat)
        case atStart => exact ⟨0, Nat.zero_le _, rfl, by first | rfl | trivial, by show _ ∉ _; simp⟩
        case round =>
          obtain ⟨j, hj, rfl, hw1, HN⟩ := hrel
          subst hw1
          by_cases hjl : j < R.size ∧ ∀ h : j < R.size, R[j] ≠ 32
          · obtain ⟨hjl, hne⟩ := hjl
            have hne := hne hjl
            have hcv2 : ¬ ((R[j].toNat : Int) = 32) := fun q => hne (UInt8.toNat_inj.1 (by show R[j].toNat = 32; omega))
            have HN2 : Hid ((32 : UInt8) ∉ R.data.toList.take (j + 1)) := not_take hjl HN.out hne
            clear HN
            go_wp2
            go_roundw
            case rel => exact ⟨j + 1, by omega, by go_num, by first | rfl | trivial, HN2.out⟩
            case measure => simp [intOf]; omega
          · have hws : ∃ ws', ws = ws' ∧ ws' ≠ [] := ⟨ws, rfl, HPP.out⟩
            obtain ⟨ws', e', hq'⟩ := hws
            have HPLn := HPL.out
            by_cases hjs : j < R.size
            · have hc32 : R[j] = 32 := by
                by_cases q : R[j] = 32
                · exact q
                · exact absurd ⟨hjs, fun _ => q⟩ hjl
              have hcv2 : (R[j].toNat : Int) = 32 := by rw [hc32]; rfl
              have hjn : ¬ ((j : Int) = (R.size : Int)) := by omega
              have HCU2 : Hid (cutsC x.data.toList = some (ws, R.data.toList.take j, R.data.toList.drop (j + 1))) := HCU.out j (idx_hit hjs HN.out hc32)
              clear HN HCU HCN hjl
              match ws', e', hq' with
              | [], _, h => exact absurd rfl h
              | [a], e', _ =>
                have HNO : Hid (¬ ∃ t ps at_ note, FrmC x.data.toList t ps at_ note) := frm_not HCU2.out (fun w1 r q => by rw [e'] at q; cases q)
                obtain ⟨b, rfl, hbl, ca⟩ := HWC.out 0 (by rw [e']; simp)
                have ca' : wr.cell? ⟨b, 0, none⟩ = some (.string (bs a)) := by subst e'; exact ca
                have hl1 : ws.length = 1 := by rw [e']; rfl
                rw [hl1]
                clear ca HWC e' HCU2 hl1 HPLn
                by_cases ha : a = [99, 111, 109, 109, 105, 116]
                · have e1 : ((bs a).toList == [99, 111, 109, 109, 105, 116]) = true := by rw [ha, ByteArray.toList_eq]; rfl
                  generalize bs a = A at ca' e1
                  clear ha
                  obtain ⟨z0, z1, z2, z3⟩ := blkC (KRA.out wr Bw1.out)
                  obtain ⟨f0, f1, f2, f3⟩ := blkC_frozen (KRA.out wr Bw1.out)
                  have n4 := put4_blkC (.int .i64 0) (.slice none 0 0) (.int .i64 0) (.string ⟨#[]⟩) (KRA.out wr Bw1.out)
                  have g4 := put4_grownC wr w.heap.size (.int .i64 0) (.slice none 0 0) (.int .i64 0) (.string ⟨#[]⟩)
                  have HC4 : Hid (_) := blkC n4
                  have BZ : Hid (Below w.heap.size w ((((wr.setCell ⟨w.heap.size, 0, none⟩ (.int .i64 0)).setCell ⟨w.heap.size, 1, none⟩ (.slice none 0 0)).setCell ⟨w.heap.size, 2, none⟩ (.int .i64 0)).setCell ⟨w.heap.size, 3, none⟩ (.string ⟨#[]⟩))) := (below_then HA.out Bw1.out).grown g4 (below_then HA.out Bw1.out).size (fun k q => by cases q; exact Nat.le_refl _)
                  clear n4 g4
                  go_wp2
                  obtain ⟨c0, c1, c2, c3⟩ := HC4.out
                  refine bodyPost_ret (v := .tuple #[.agg #[.int .i64 0, .slice none 0 0, .int .i64 0, .string ⟨#[]⟩], .int .i64 1]) (by simp [results, Tryz.f8, go_sem, c0, c1, c2, c3]) rfl ⟨BZ.out, .inr (.inl ⟨.inl HNO.out, rfl⟩)⟩
                · have e1 : ((bs a).toList == [99, 111, 109, 109, 105, 116]) = false := by
                    rw [beq_eq_false_iff_ne, ByteArray.toList_eq, bs_data]
                    exact ha
                  generalize bs a = A at ca' e1
                  clear ha
                  obtain ⟨z0, z1, z2, z3⟩ := blkC (KRA.out wr Bw1.out)
                  obtain ⟨f0, f1, f2, f3⟩ := blkC_frozen (KRA.out wr Bw1.out)
                  have n4 := put4_blkC (.int .i64 0) (.slice none 0 0) (.int .i64 0) (.string ⟨#[]⟩) (KRA.out wr Bw1.out)
                  have g4 := put4_grownC wr w.heap.size (.int .i64 0) (.slice none 0 0) (.int .i64 0) (.string ⟨#[]⟩)
                  have HC4 : Hid (_) := blkC n4
                  have BZ : Hid (Below w.heap.size w ((((wr.setCell ⟨w.heap.size, 0, none⟩ (.int .i64 0)).setCell ⟨w.heap.size, 1, none⟩ (.slice none 0 0)).setCell ⟨w.heap.size, 2, none⟩ (.int .i64 0)).setCell ⟨w.heap.size, 3, none⟩ (.string ⟨#[]⟩))) := (below_then HA.out Bw1.out).grown g4 (below_then HA.out Bw1.out).size (fun k q => by cases q; exact Nat.le_refl _)
                  clear n4 g4
                  go_wp2
                  obtain ⟨c0, c1, c2, c3⟩ := HC4.out
                  refine bodyPost_ret (v := .tuple #[.agg #[.int .i64 0, .slice none 0 0, .int .i64 0, .string ⟨#[]⟩], .int .i64 1]) (by simp [results, Tryz.f8, go_sem, c0, c1, c2, c3]) rfl ⟨BZ.out, .inr (.inl ⟨.inl HNO.out, rfl⟩)⟩
              | a :: v0 :: r, e', _ =>
                obtain ⟨b, rfl, hbl, ca⟩ := HWC.out 0 (by rw [e']; simp)
                have ca' : wr.cell? ⟨b, 0, none⟩ = some (.string (bs a)) := by subst e'; exact ca
                by_cases ha : a = [99, 111, 109, 109, 105, 116]
                · subst ha
                  have e1 : ((bs [99, 111, 109, 109, 105, 116]).toList == [99, 111, 109, 109, 105, 116]) = true := by rw [ByteArray.toList_eq]; rfl
                  have hl1 : ws.length = r.length + 2 := by rw [e']; rfl
                  have HV : Hid (ws = [99, 111, 109, 109, 105, 116] :: (v0 :: r)) := e'
                  have HVC : Hid (∀ (m : Nat) (h : m < (v0 :: r).length), wr.cell? ⟨b, m + 1, none⟩ = some (.string (bs (v0 :: r)[m]))) := fun m h => by
                    subst e'
                    obtain ⟨b', eb, _, hc⟩ := HWC.out (m + 1) (by simp at h ⊢; omega)
                    injection eb with eb
                    injection eb with eb _ _
                    rw [eb]
                    exact hc
                  have HVL : Hid ((v0 :: r).length = r.length + 1) := rfl
                  rw [hl1]
                  have hr1 : r.length ≤ 999 := by omega
                  have h2' : ¬ ((r.length : Int) + 2 < 2) := by omega
                  generalize bs [99, 111, 109, 109, 105, 116] = A at ca' e1
                  generalize v0 :: r = V at HV HVC HVL
                  generalize r.length = n at hr1 h2' HVL hl1 ⊢
                  clear ca HWC e' hl1 HPLn HPP HPL
                  obtain ⟨u1, hu1⟩ : ∃ u, u = wr := ⟨wr, rfl⟩
                  subst hu1
                  have KRB : Hid (∀ W, Below u1.heap.size u1 W → W.heap[w.heap.size]? = some (.cells #[.int .i64 0, .slice none 0 0, .int .i64 0, .string ⟨#[]⟩] 28 (0, 0))) := fun W hW => KRA.out W (below_then Bw1.out hW)
                  have BFB : Hid (Below w.heap.size w u1) := below_then HA.out Bw1.out
                  have HLU : Hid (w.heap.size < u1.heap.size) := by have := HLT.out; have := Bw1.out.size; show _ < _; omega
                  have HNOF : Hid ((¬ numsOk (V.map bs) ∨ (numOfC (R.data.toList.take j)).isSome = false) → ¬ ∃ t ps at_ note, FrmC x.data.toList t ps at_ note) := fun q => frm_not HCU2.out (fun w1 r' e => by
                    rw [HV.out] at e
                    injection e with _ e
                    subst e
                    rintro ⟨q1, q2, q3⟩
                    rcases q with q | q
                    · refine q (fun y hy => ?_)
                      rcases List.mem_cons.1 hy with rfl | hy
                      · rw [bs_data]; exact q1
                      · exact q2 y hy
                    · rw [q] at q3; cases q3)
                  go_wp2
                  go_loopw [8, 9, 10, 11] (fun fv lv i _ wr3 => ∃ (m : Nat) (fb : Bool), m ≤ n + 1 ∧ i = .int .i64 (m + 1) ∧ fv = .bool fb ∧ (∃ a n c, lv = .slice a n c) ∧ Hid (Below u1.heap.size u1 wr3 ∧ wr3.ownsRow u1.heap.size 3 1 lv (numsV ((V.take m).map bs)).length ((numsV ((V.take m).map bs)).map (Value.int .i64)) ∧ numsOk ((V.take m).map bs) ∧ (fb = true ↔ ∃ y ∈ numsV ((V.take m).map bs), 1099511627776 < y))) (fun _ _ i _ _ => n + 2 - (intOf i).toNat)
                  case atStart => exact ⟨0, false, Nat.zero_le _, by go_num, rfl, ⟨_, _, _, rfl⟩, Below.refl _ _, by rw [List.take_zero]; exact World.ownsRow_nil _ _ _ _, (fun y hy => by rw [List.take_zero] at hy; cases hy), by rw [List.take_zero]; simp [numsV]⟩
                  case round =>
                    obtain ⟨m, fb, hm, rfl, rfl, ⟨la, ln, lc, rfl⟩, HP⟩ := hrel
                    by_cases hml : m < n + 1
                    · have hmv : m < V.length := by rw [HVL.out]; exact hml
                      have hcm := cell_step2 (HVC.out m hmv) HP.out.1
                      have HTK : Hid ((V.take (m + 1)).map bs = (V.take m).map bs ++ [bs V[m]]) := by show _ = _; rw [List.take_succ_eq_append_getElem hmv, List.map_append]; rfl
                      have HMEM : Hid (bs V[m] ∈ V.map bs) := List.mem_map_of_mem (List.getElem_mem hmv)
                      generalize bs V[m] = y at hcm HTK HMEM
                      have NO : Hid (Calls _ _ _ _ _) := numberOf_anyC y wr
                      have hm1 : (m : Int) + 1 < (n : Int) + 2 := by omega
                      have hm0 : (0 : Int) ≤ (m : Int) + 1 := by omega
                      have hm2 : ((m : Int) + 1).toNat = m + 1 := by omega
                      cases hq : numOfC y.data.toList with
                      | none =>
                        have HNO : Hid (¬ ∃ t ps at_ note, FrmC x.data.toList t ps at_ note) := HNOF.out (.inl (fun q => by have := q y HMEM.out; rw [hq] at this; cases this))
                        have hnd : numDC y.data.toList = -1 := by unfold numDC; rw [hq]
                        rw [hnd] at NO
                        have BWR : Hid (Below u1.heap.size u1 wr) := HP.out.1
                        clear hq HP HTK HMEM HNOF HVC hnd
                        obtain ⟨z0, z1, z2, z3⟩ := blkC (KRB.out wr BWR.out)
                        obtain ⟨f0, f1, f2, f3⟩ := blkC_frozen (KRB.out wr BWR.out)
                        have n4 := put4_blkC (.int .i64 0) (.slice none 0 0) (.int .i64 0) (.string ⟨#[]⟩) (KRB.out wr BWR.out)
                        have g4 := put4_grownC wr w.heap.size (.int .i64 0) (.slice none 0 0) (.int .i64 0) (.string ⟨#[]⟩)
                        have HC4 : Hid (_) := blkC n4
                        have BZ : Hid (Below w.heap.size w ((((wr.setCell ⟨w.heap.size, 0, none⟩ (.int .i64 0)).setCell ⟨w.heap.size, 1, none⟩ (.slice none 0 0)).setCell ⟨w.heap.size, 2, none⟩ (.int .i64 0)).setCell ⟨w.heap.size, 3, none⟩ (.string ⟨#[]⟩))) := (below_then BFB.out BWR.out).grown g4 (below_then BFB.out BWR.out).size (fun k q => by cases q; exact Nat.le_refl _)
                        clear n4 g4
                        go_wp2_with (go_at_call 21; refine Calls.mono NO.out ?_; rintro r w9 ⟨rfl, hq9⟩; have hq9 := hq9.symm; subst hq9)
                        obtain ⟨c0, c1, c2, c3⟩ := HC4.out
                        refine bodyPost_ret (v := .tuple #[.agg #[.int .i64 0, .slice none 0 0, .int .i64 0, .string ⟨#[]⟩], .int .i64 1]) (by simp [results, Tryz.f8, go_sem, c0, c1, c2, c3]) rfl ⟨BZ.out, .inr (.inl ⟨.inl HNO.out, rfl⟩)⟩
                      | some v =>
                        have hnd : numDC y.data.toList = v := by unfold numDC; rw [hq]
                        rw [hnd] at NO
                        have hv0 : 0 ≤ v := (numOf_someC hq).2.2.1
                        have hvn : ¬ v < 0 := by omega
                        have HOK : Hid (numsOk ((V.take (m + 1)).map bs)) := fun z hz => by
                          rw [HTK.out] at hz
                          rcases List.mem_append.1 hz with q | q
                          · exact HP.out.2.2.1 z q
                          · rw [List.mem_singleton.1 q, hq]; rfl
                        have HNV : Hid (numsV ((V.take (m + 1)).map bs) = numsV ((V.take m).map bs) ++ [v]) := by show _ = _; rw [HTK.out]; exact numsV_snoc _ _ hq
                        have hVL : (numsV ((V.take m).map bs)).length ≤ 1000 := by rw [nums_len, List.length_map, List.length_take]; omega
                        have OW3 : Hid (wr.ownsRow u1.heap.size 3 1 (.slice la ln lc) (numsV ((V.take m).map bs)).length ((numsV ((V.take m).map bs)).map (Value.int .i64))) := HP.out.2.1
                        have HFB : Hid (fb = true ↔ ∃ y ∈ numsV ((V.take m).map bs), 1099511627776 < y) := HP.out.2.2.2
                        have HBW : Hid (Below u1.heap.size u1 wr) := HP.out.1
                        generalize numsV ((V.take m).map bs) = Q at OW3 HNV hVL HFB
                        have hln : ln = Q.length := by
                          obtain ⟨a9, c9, e9⟩ := own_formC OW3.out
                          injection e9
                        subst hln
                        have hzz : u1.heap.size ≤ wr.heap.size := HBW.out.size
                        have NC : Hid (_) := int_cellC wr v
                        obtain ⟨fn, hfn⟩ : ∃ fn : Bool, (fb || decide (1099511627776 < v)) = fn := ⟨_, rfl⟩
                        have HFN : Hid (fn = true ↔ ∃ y ∈ Q ++ [v], 1099511627776 < y) := by
                          show _ ↔ _
                          rw [← hfn, Bool.or_eq_true, HFB.out, decide_eq_true_iff]
                          constructor
                          · rintro (⟨y, hy, q⟩ | q)
                            · exact ⟨y, List.mem_append_left _ hy, q⟩
                            · exact ⟨v, List.mem_append_right _ (List.mem_singleton.2 rfl), q⟩
                          · rintro ⟨y, hy, q⟩
                            rcases List.mem_append.1 hy with z | z
                            · exact .inl ⟨y, z, q⟩
                            · rw [List.mem_singleton.1 z] at q; exact .inr q
                        have HFE : Hid ((fb || decide (1099511627776 < v)) = fn) := hfn
                        clear hq HP HTK HMEM hnd HFB hfn
                        cases fb with
                        | true =>
                          have HE3 : Hid (fn = true) := by have h := HFE.out; simp at h; show fn = true; exact h
                          clear HFE HNOF HVC
                          go_upto_region 17 with (first
                            | (go_at_call 21; refine Calls.mono NO.out ?_; rintro r w9 ⟨rfl, hq9⟩; have hq9 := hq9.symm; subst hq9)
                            | (at_builtin; refine wpList_append_own_at _ rfl _ _ 22 rfl u1.heap.size 3 i0 (.int .i64 0) 1 8 Tryz.underlying22 hi hz0 hz1 hz2 rfl (by decide) _ _ _ rfl (World.ownsRow.alloc OW3.out (.cells #[.int .i64 v] 3)) ⟨wr.heap.size, 0, none⟩ 1 1 [.int .i64 v] rfl rfl NC.out (fun v hv => by rw [List.mem_singleton.1 hv]; rfl) (by unfold maxLen; omega) (by omega) (by rw [World.size_alloc]; omega) ?_; intro v' w5 hown' hgrow _ hat; have O5 : Hid (w5.ownsRow u1.heap.size 3 1 v' (Q ++ [v]).length ((Q ++ [v]).map (Value.int .i64))) := (by rw [List.length_append, List.map_append]; exact hown'); have B5 : Hid (Below u1.heap.size u1 w5) := (below_then HBW.out (below_alloc wr (.cells #[.int .i64 v] 3))).grown hgrow (by rw [World.size_alloc]; omega) (fun k q => (World.ownsRow.lt OW3.out k q).1); obtain ⟨g', cap', rfl⟩ := ownsRow_succ hown'; clear hown' hgrow hat)
                            | go_in)
                          go_wp2
                          go_roundw
                          case rel => exact ⟨m + 1, fn, by omega, by go_num, (by rw [HE3.out]), ⟨_, _, _, rfl⟩, B5.out, by rw [HNV.out]; exact O5.out, HOK.out, by rw [HNV.out]; exact HFN.out⟩
                          case measure => simp [intOf]; omega
                        | false =>
                          have HE3 : Hid (decide (1099511627776 < v) = fn) := by have h := HFE.out; show _ = _; simpa using h
                          clear HFE HNOF HVC
                          go_upto_region 17 with (first
                            | (go_at_call 21; refine Calls.mono NO.out ?_; rintro r w9 ⟨rfl, hq9⟩; have hq9 := hq9.symm; subst hq9)
                            | (at_builtin; refine wpList_append_own_at _ rfl _ _ 22 rfl u1.heap.size 3 i0 (.int .i64 0) 1 8 Tryz.underlying22 hi hz0 hz1 hz2 rfl (by decide) _ _ _ rfl (World.ownsRow.alloc OW3.out (.cells #[.int .i64 v] 3)) ⟨wr.heap.size, 0, none⟩ 1 1 [.int .i64 v] rfl rfl NC.out (fun v hv => by rw [List.mem_singleton.1 hv]; rfl) (by unfold maxLen; omega) (by omega) (by rw [World.size_alloc]; omega) ?_; intro v' w5 hown' hgrow _ hat; have O5 : Hid (w5.ownsRow u1.heap.size 3 1 v' (Q ++ [v]).length ((Q ++ [v]).map (Value.int .i64))) := (by rw [List.length_append, List.map_append]; exact hown'); have B5 : Hid (Below u1.heap.size u1 w5) := (below_then HBW.out (below_alloc wr (.cells #[.int .i64 v] 3))).grown hgrow (by rw [World.size_alloc]; omega) (fun k q => (World.ownsRow.lt OW3.out k q).1); obtain ⟨g', cap', rfl⟩ := ownsRow_succ hown'; clear hown' hgrow hat)
                            | go_in)
                          go_wp2
                          go_roundw
                          case rel => exact ⟨m + 1, fn, by omega, by go_num, (by rw [HE3.out]), ⟨_, _, _, rfl⟩, B5.out, by rw [HNV.out]; exact O5.out, HOK.out, by rw [HNV.out]; exact HFN.out⟩
                          case measure => simp [intOf]; omega
                    · have hme : m = n + 1 := by omega
                      subst hme
                      have hfull : V.take (n + 1) = V := List.take_of_length_le (by rw [HVL.out]; exact Nat.le_refl _)
                      have HP2 : Hid (Below u1.heap.size u1 wr ∧ wr.ownsRow u1.heap.size 3 1 (.slice la ln lc) (numsV (V.map bs)).length ((numsV (V.map bs)).map (Value.int .i64)) ∧ numsOk (V.map bs) ∧ (fb = true ↔ ∃ y ∈ numsV (V.map bs), 1099511627776 < y)) := by
                        have h := HP.out
                        rw [hfull] at h
                        exact h
                      have BWR : Hid (Below u1.heap.size u1 wr) := HP2.out.1
                      have hex0 : (R.extract 0 j).data.toList = R.data.toList.take j := by rw [extract_at, List.drop_zero, bs_data]
                      have NO : Hid (Calls Tryz.prog 21 #[.string (R.extract 0 j), .int .i64 13] wr fun e w' => e = .returned (.int .i64 (numDC (R.data.toList.take j))) ∧ w' = wr) := by
                        have h := numberOf_anyC (R.extract 0 j) wr
                        rw [hex0] at h
                        exact h
                      have hjR : (j : Int) ≤ (R.size : Int) := by omega
                      have hnn : ¬ ((n : Int) + 1 + 1 < (n : Int) + 2) := by omega
                      clear HP hfull hex0 HVC
                      cases hq : numOfC (R.data.toList.take j) with
                      | none =>
                        have HNO : Hid (¬ ∃ t ps at_ note, FrmC x.data.toList t ps at_ note) := HNOF.out (.inr (by rw [hq]; rfl))
                        have hnd : numDC (R.data.toList.take j) = -1 := by unfold numDC; rw [hq]
                        rw [hnd] at NO
                        clear hq HP2 HNOF hnd
                        obtain ⟨z0, z1, z2, z3⟩ := blkC (KRB.out wr BWR.out)
                        obtain ⟨f0, f1, f2, f3⟩ := blkC_frozen (KRB.out wr BWR.out)
                        have n4 := put4_blkC (.int .i64 0) (.slice none 0 0) (.int .i64 0) (.string ⟨#[]⟩) (KRB.out wr BWR.out)
                        have g4 := put4_grownC wr w.heap.size (.int .i64 0) (.slice none 0 0) (.int .i64 0) (.string ⟨#[]⟩)
                        have HC4 : Hid (_) := blkC n4
                        have BZ : Hid (Below w.heap.size w ((((wr.setCell ⟨w.heap.size, 0, none⟩ (.int .i64 0)).setCell ⟨w.heap.size, 1, none⟩ (.slice none 0 0)).setCell ⟨w.heap.size, 2, none⟩ (.int .i64 0)).setCell ⟨w.heap.size, 3, none⟩ (.string ⟨#[]⟩))) := (below_then BFB.out BWR.out).grown g4 (below_then BFB.out BWR.out).size (fun k q => by cases q; exact Nat.le_refl _)
                        clear n4 g4
                        go_wp2_with (go_at_call 21; refine Calls.mono NO.out ?_; rintro r w9 ⟨rfl, hq9⟩; have hq9 := hq9.symm; subst hq9)
                        obtain ⟨c0, c1, c2, c3⟩ := HC4.out
                        refine bodyPost_ret (v := .tuple #[.agg #[.int .i64 0, .slice none 0 0, .int .i64 0, .string ⟨#[]⟩], .int .i64 1]) (by simp [results, Tryz.f8, go_sem, c0, c1, c2, c3]) rfl ⟨BZ.out, .inr (.inl ⟨.inl HNO.out, rfl⟩)⟩
                      | some at_ =>
                        have hnd : numDC (R.data.toList.take j) = at_ := by unfold numDC; rw [hq]
                        rw [hnd] at NO
                        have hv0 : 0 ≤ at_ := (numOf_someC hq).2.2.1
                        have hvn : ¬ at_ < 0 := by omega
                        obtain ⟨w1, rr, hVe⟩ : ∃ w1 rr, V = w1 :: rr := by
                          cases V with
                          | nil => have := HVL.out; simp at this
                          | cons a b => exact ⟨a, b, rfl⟩
                        obtain ⟨t, ht⟩ : ∃ t, numOfC w1 = some t := by
                          have := HP2.out.2.2.1 (bs w1) (by rw [hVe]; simp)
                          rw [bs_data] at this
                          cases hz : numOfC w1 with
                          | none => rw [hz] at this; cases this
                          | some t => exact ⟨t, rfl⟩
                        obtain ⟨ps, hps⟩ : ∃ ps, numsV (rr.map bs) = ps := ⟨_, rfl⟩
                        have hQ : numsV (V.map bs) = t :: ps := by
                          rw [hVe, ← hps]
                          unfold numsV
                          simp [bs_data, ht]
                        have hpn : ps.length = n := by
                          have h1 := HVL.out
                          rw [hVe] at h1
                          rw [← hps, nums_len, List.length_map]
                          simpa using h1
                        have hnt : (R.extract (j + 1) R.size).data.toList = R.data.toList.drop (j + 1) := by rw [extract_at, List.take_of_length_le (by rw [HSR.out]; exact Nat.le_refl _), bs_data]
                        have HFM : Hid (FrmC x.data.toList t ps at_ (R.extract (j + 1) R.size).data.toList) := by
                          refine ⟨w1, rr, R.data.toList.take j, ?_, ht, ⟨fun y hy => HP2.out.2.2.1 y (by rw [hVe, List.map_cons]; exact List.mem_cons_of_mem _ hy), hps⟩, hq⟩
                          rw [hnt, HCU2.out, HV.out, hVe]
                        have hntl : (R.extract (j + 1) R.size).size ≤ 1000 := by rw [Lib.size_eq, hnt, List.length_drop, HSR.out]; omega
                        have HBD : Hid (bdC t ps at_ ↔ fb = false ∧ at_ ≤ 1099511627776 ∧ n ≤ 2) := by
                          show _ ↔ _
                          have h4 := HP2.out.2.2.2
                          rw [hQ] at h4
                          unfold bdC
                          rw [hpn]
                          constructor
                          · rintro ⟨q1, q2, q3, q4⟩
                            refine ⟨?_, q2, q3⟩
                            rw [← Bool.not_eq_true, h4]
                            rintro ⟨y, hy, q⟩
                            rcases List.mem_cons.1 hy with rfl | hy
                            · omega
                            · have := q4 y hy; omega
                          · rintro ⟨q1, q2, q3⟩
                            have hno : ∀ y ∈ t :: ps, y ≤ 1099511627776 := fun y hy => by
                              by_cases q : 1099511627776 < y
                              · have := h4.2 ⟨y, hy, q⟩; rw [q1] at this; cases this
                              · omega
                            exact ⟨hno t List.mem_cons_self, q2, q3, fun p hp => hno p (List.mem_cons_of_mem _ hp)⟩
                        have OW : Hid (wr.ownsRow u1.heap.size 3 1 (.slice la ln lc) (t :: ps).length ((t :: ps).map (Value.int .i64))) := by have h := HP2.out.2.1; rw [hQ] at h; exact h
                        have hln : ln = n + 1 := by
                          obtain ⟨a9, c9, e9⟩ := own_formC OW.out
                          injection e9 with _ e9 _
                          rw [e9, List.length_cons, hpn]
                        subst hln
                        obtain ⟨nb, hnb⟩ := boolC (noteOk (R.extract (j + 1) R.size))
                        have IN : Hid (∀ W, Calls _ _ _ _ _) := fun W => risNote_any (R.extract (j + 1) R.size) W hntl nb hnb
                        have HNB : Hid (nb = true ↔ noteOk (R.extract (j + 1) R.size)) := hnb
                        have HPN : Hid (ps.length = n) := hpn
                        have hj1 : (j : Int) + 1 ≤ (R.size : Int) := by omega
                        have hj0 : (0 : Int) ≤ (j : Int) + 1 := by omega
                        have hj2 : ((j : Int) + 1).toNat = j + 1 := by omega
                        obtain ⟨NT, hNT⟩ : ∃ NT, R.extract (j + 1) R.size = NT := ⟨_, rfl⟩
                        rw [hNT] at HFM IN HNB
                        clear hq hnd HP2 HNOF hVe ht hps hQ hpn hnt hntl hnb HCU2 HV HVL
                        go_upto_region 26 with (go_at_call 21; refine Calls.mono NO.out ?_; rintro r w9 ⟨rfl, hq9⟩; have hq9 := hq9.symm; subst hq9)
                        clear NO
                        cases fb with
                        | true =>
                          have HNBD : Hid (¬ bdC t ps at_) := fun q => by have := (HBD.out.1 q).1; cases this
                          clear HBD OW IN HNB
                          obtain ⟨z0, z1, z2, z3⟩ := blkC (KRB.out wr BWR.out)
                          obtain ⟨f0, f1, f2, f3⟩ := blkC_frozen (KRB.out wr BWR.out)
                          have n4 := put4_blkC (.int .i64 0) (.slice none 0 0) (.int .i64 0) (.string ⟨#[]⟩) (KRB.out wr BWR.out)
                          have g4 := put4_grownC wr w.heap.size (.int .i64 0) (.slice none 0 0) (.int .i64 0) (.string ⟨#[]⟩)
                          have HC4 : Hid (_) := blkC n4
                          have BZ : Hid (Below w.heap.size w ((((wr.setCell ⟨w.heap.size, 0, none⟩ (.int .i64 0)).setCell ⟨w.heap.size, 1, none⟩ (.slice none 0 0)).setCell ⟨w.heap.size, 2, none⟩ (.int .i64 0)).setCell ⟨w.heap.size, 3, none⟩ (.string ⟨#[]⟩))) := (below_then BFB.out BWR.out).grown g4 (below_then BFB.out BWR.out).size (fun k q => by cases q; exact Nat.le_refl _)
                          clear n4 g4
                          go_wp2
                          obtain ⟨c0, c1, c2, c3⟩ := HC4.out
                          refine bodyPost_ret (v := .tuple #[.agg #[.int .i64 0, .slice none 0 0, .int .i64 0, .string ⟨#[]⟩], .int .i64 2]) (by simp [results, Tryz.f8, go_sem, c0, c1, c2, c3]) rfl ⟨BZ.out, .inr (.inr ⟨⟨t, ps, at_, NT, HFM.out, HNBD.out⟩, rfl⟩)⟩
                        | false =>
                          by_cases h1 : 1099511627776 < at_
                          · have HNBD : Hid (¬ bdC t ps at_) := fun q => by have := (HBD.out.1 q).2.1; omega
                            clear HBD OW IN HNB
                            obtain ⟨z0, z1, z2, z3⟩ := blkC (KRB.out wr BWR.out)
                            obtain ⟨f0, f1, f2, f3⟩ := blkC_frozen (KRB.out wr BWR.out)
                            have n4 := put4_blkC (.int .i64 0) (.slice none 0 0) (.int .i64 0) (.string ⟨#[]⟩) (KRB.out wr BWR.out)
                            have g4 := put4_grownC wr w.heap.size (.int .i64 0) (.slice none 0 0) (.int .i64 0) (.string ⟨#[]⟩)
                            have HC4 : Hid (_) := blkC n4
                            have BZ : Hid (Below w.heap.size w ((((wr.setCell ⟨w.heap.size, 0, none⟩ (.int .i64 0)).setCell ⟨w.heap.size, 1, none⟩ (.slice none 0 0)).setCell ⟨w.heap.size, 2, none⟩ (.int .i64 0)).setCell ⟨w.heap.size, 3, none⟩ (.string ⟨#[]⟩))) := (below_then BFB.out BWR.out).grown g4 (below_then BFB.out BWR.out).size (fun k q => by cases q; exact Nat.le_refl _)
                            clear n4 g4
                            go_wp2
                            obtain ⟨c0, c1, c2, c3⟩ := HC4.out
                            refine bodyPost_ret (v := .tuple #[.agg #[.int .i64 0, .slice none 0 0, .int .i64 0, .string ⟨#[]⟩], .int .i64 2]) (by simp [results, Tryz.f8, go_sem, c0, c1, c2, c3]) rfl ⟨BZ.out, .inr (.inr ⟨⟨t, ps, at_, NT, HFM.out, HNBD.out⟩, rfl⟩)⟩
                          · by_cases h3 : (3 : Int) < (n : Int) + 1
                            · have HNBD : Hid (¬ bdC t ps at_) := fun q => by have := (HBD.out.1 q).2.2; omega
                              clear HBD OW IN HNB
                              obtain ⟨z0, z1, z2, z3⟩ := blkC (KRB.out wr BWR.out)
                              obtain ⟨f0, f1, f2, f3⟩ := blkC_frozen (KRB.out wr BWR.out)
                              have n4 := put4_blkC (.int .i64 0) (.slice none 0 0) (.int .i64 0) (.string ⟨#[]⟩) (KRB.out wr BWR.out)
                              have g4 := put4_grownC wr w.heap.size (.int .i64 0) (.slice none 0 0) (.int .i64 0) (.string ⟨#[]⟩)
                              have HC4 : Hid (_) := blkC n4
                              have BZ : Hid (Below w.heap.size w ((((wr.setCell ⟨w.heap.size, 0, none⟩ (.int .i64 0)).setCell ⟨w.heap.size, 1, none⟩ (.slice none 0 0)).setCell ⟨w.heap.size, 2, none⟩ (.int .i64 0)).setCell ⟨w.heap.size, 3, none⟩ (.string ⟨#[]⟩))) := (below_then BFB.out BWR.out).grown g4 (below_then BFB.out BWR.out).size (fun k q => by cases q; exact Nat.le_refl _)
                              clear n4 g4
                              go_wp2
                              obtain ⟨c0, c1, c2, c3⟩ := HC4.out
                              refine bodyPost_ret (v := .tuple #[.agg #[.int .i64 0, .slice none 0 0, .int .i64 0, .string ⟨#[]⟩], .int .i64 2]) (by simp [results, Tryz.f8, go_sem, c0, c1, c2, c3]) rfl ⟨BZ.out, .inr (.inr ⟨⟨t, ps, at_, NT, HFM.out, HNBD.out⟩, rfl⟩)⟩
                            · have HBDY : Hid (bdC t ps at_) := HBD.out.2 ⟨rfl, by omega, by omega⟩
                              clear HBD
                              go_upto_region 29 with (go_at_call 22; refine Calls.mono (IN.out wr) ?_; rintro r w9 ⟨rfl, hb9⟩)
                              have BW9 : Hid (Below u1.heap.size u1 w9) := below_then BWR.out hb9
                              have OW9 : Hid (w9.ownsRow u1.heap.size 3 1 (.slice la (n + 1) lc) (t :: ps).length ((t :: ps).map (Value.int .i64))) := own_step OW.out hb9
                              clear hb9 IN OW
                              cases nb with
                              | false =>
                                have HNN : Hid (¬ noteOk NT) := fun q => by have := HNB.out.2 q; cases this
                                clear HNB OW9
                                obtain ⟨z0, z1, z2, z3⟩ := blkC (KRB.out w9 BW9.out)
                                obtain ⟨f0, f1, f2, f3⟩ := blkC_frozen (KRB.out w9 BW9.out)
                                have n4 := put4_blkC (.int .i64 0) (.slice none 0 0) (.int .i64 0) (.string ⟨#[]⟩) (KRB.out w9 BW9.out)
                                have g4 := put4_grownC w9 w.heap.size (.int .i64 0) (.slice none 0 0) (.int .i64 0) (.string ⟨#[]⟩)
                                have HC4 : Hid (_) := blkC n4
                                have BZ : Hid (Below w.heap.size w ((((w9.setCell ⟨w.heap.size, 0, none⟩ (.int .i64 0)).setCell ⟨w.heap.size, 1, none⟩ (.slice none 0 0)).setCell ⟨w.heap.size, 2, none⟩ (.int .i64 0)).setCell ⟨w.heap.size, 3, none⟩ (.string ⟨#[]⟩))) := (below_then BFB.out BW9.out).grown g4 (below_then BFB.out BW9.out).size (fun k q => by cases q; exact Nat.le_refl _)
                                clear n4 g4
                                go_wp2
                                obtain ⟨c0, c1, c2, c3⟩ := HC4.out
                                refine bodyPost_ret (v := .tuple #[.agg #[.int .i64 0, .slice none 0 0, .int .i64 0, .string ⟨#[]⟩], .int .i64 1]) (by simp [results, Tryz.f8, go_sem, c0, c1, c2, c3]) rfl ⟨BZ.out, .inr (.inl ⟨.inr ⟨t, ps, at_, NT, HFM.out, HBDY.out, HNN.out⟩, rfl⟩)⟩
                              | true =>
                                have HNY : Hid (noteOk NT) := HNB.out.1 rfl
                                clear HNB
                                obtain ⟨g, hla, hgu, hg0, hlc, hcells⟩ : ∃ g : Nat, la = some ⟨g, 0, none⟩ ∧ u1.heap.size ≤ g ∧ w9.cell? ⟨g, 0, none⟩ = some (.int .i64 t) ∧ n + 1 ≤ lc ∧ ∀ (j : Nat) (h : j < ps.length), g < w9.heap.size ∧ w9.cell? ⟨g, 1 + j, none⟩ = some (.int .i64 ps[j]) := by
                                  rcases OW9.out.2 with ⟨q, _⟩ | ⟨g, cap, cur, q, hbg, hg, hcap, _, _, _⟩
                                  · cases q
                                  · have ho := OW9.out
                                    injection q with q1 q2 q3
                                    subst q1 q3
                                    have hn2 := HPN.out
                                    have hlen : (t :: ps).length = n + 1 := by rw [List.length_cons, hn2]
                                    rw [hlen] at ho
                                    refine ⟨g, rfl, hbg, ?_, by omega, fun j hj => ⟨(Array.getElem?_eq_some_iff.1 hg).1, ?_⟩⟩
                                    · have := World.ownsRow.cellAt ho 0 (by omega)
                                      rw [this]
                                      rfl
                                    · have := World.ownsRow.cellAt ho (1 + j) (by omega)
                                      rw [this, Nat.add_comm 1 j, List.map_cons, List.getElem?_cons_succ, List.getElem?_map, List.getElem?_eq_getElem hj]
                                      rfl
                                subst hla
                                have HCE : Hid (_) := hcells
                                have hln1 : (1 : Int) ≤ (n : Int) + 1 := by omega
                                have hlc1 : (n : Int) + 1 ≤ (lc : Int) := by omega
                                obtain ⟨z0, z1, z2, z3⟩ := blkC (KRB.out w9 BW9.out)
                                obtain ⟨f0, f1, f2, f3⟩ := blkC_frozen (KRB.out w9 BW9.out)
                                clear hcells OW9
                                by_cases hlq : lc = 1
                                · subst hlq
                                  have hn0 : n = 0 := by omega
                                  have n4 : (((((w9.setCell ⟨w.heap.size, 0, none⟩ (.int .i64 t)).setCell ⟨w.heap.size, 1, none⟩ (.slice (some ⟨g, 0, none⟩) 0 0)).setCell ⟨w.heap.size, 2, none⟩ (.int .i64 at_)).setCell ⟨w.heap.size, 3, none⟩ (.string NT)).drew).heap[w.heap.size]? = some (.cells #[.int .i64 t, (.slice (some ⟨g, 0, none⟩) 0 0), .int .i64 at_, .string NT] 28 (0, 0)) := put4_blkC (.int .i64 t) (.slice (some ⟨g, 0, none⟩) 0 0) (.int .i64 at_) (.string NT) (KRB.out w9 BW9.out)
                                  have g4 := put4_grownC w9 w.heap.size (.int .i64 t) (.slice (some ⟨g, 0, none⟩) 0 0) (.int .i64 at_) (.string NT)
                                  have HC4 : Hid (_) := blkC n4
                                  have BZ : Hid (Below w.heap.size w (((((w9.setCell ⟨w.heap.size, 0, none⟩ (.int .i64 t)).setCell ⟨w.heap.size, 1, none⟩ (.slice (some ⟨g, 0, none⟩) 0 0)).setCell ⟨w.heap.size, 2, none⟩ (.int .i64 at_)).setCell ⟨w.heap.size, 3, none⟩ (.string NT)).drew)) := below_then ((below_then BFB.out BW9.out).grown g4 (below_then BFB.out BW9.out).size (fun k q => by cases q; exact Nat.le_refl _)) (drew_below _)
                                  have HGOT : Hid (Got (((((w9.setCell ⟨w.heap.size, 0, none⟩ (.int .i64 t)).setCell ⟨w.heap.size, 1, none⟩ (.slice (some ⟨g, 0, none⟩) 0 0)).setCell ⟨w.heap.size, 2, none⟩ (.int .i64 at_)).setCell ⟨w.heap.size, 3, none⟩ (.string NT)).drew) (.slice (some ⟨g, 0, none⟩) 0 0) ps) := by
                                    have hpn := HPN.out
                                    have hlu := HLU.out
                                    refine ⟨_, _, by rw [hpn, hn0], (fun q => by cases q), fun ad hq jj hjj => ?_⟩
                                    exact absurd hjj (by omega)
                                  clear n4 g4 HCE
                                  go_upto_region 31 with (fail)
                                  go_region
                                  all_goals
                                    go_wp2
                                    obtain ⟨c0, c1, c2, c3⟩ := HC4.out
                                    refine bodyPost_ret (v := .tuple #[.agg #[.int .i64 t, (.slice (some ⟨g, 0, none⟩) 0 0), .int .i64 at_, .string NT], .int .i64 0]) (by simp [results, Tryz.f8, go_sem, c0, c1, c2, c3]) rfl ⟨BZ.out, .inl ⟨t, at_, ps, NT, _, HFM.out, HBDY.out, HNY.out, rfl, HGOT.out⟩⟩
                                · have hlq2 : ¬ (lc = 1) := hlq
                                  have n4 : (((((w9.setCell ⟨w.heap.size, 0, none⟩ (.int .i64 t)).setCell ⟨w.heap.size, 1, none⟩ (.slice (some ⟨g, 1, none⟩) n (lc - 1))).setCell ⟨w.heap.size, 2, none⟩ (.int .i64 at_)).setCell ⟨w.heap.size, 3, none⟩ (.string NT)).drew).heap[w.heap.size]? = some (.cells #[.int .i64 t, (.slice (some ⟨g, 1, none⟩) n (lc - 1)), .int .i64 at_, .string NT] 28 (0, 0)) := put4_blkC (.int .i64 t) (.slice (some ⟨g, 1, none⟩) n (lc - 1)) (.int .i64 at_) (.string NT) (KRB.out w9 BW9.out)
                                  have g4 := put4_grownC w9 w.heap.size (.int .i64 t) (.slice (some ⟨g, 1, none⟩) n (lc - 1)) (.int .i64 at_) (.string NT)
                                  have HC4 : Hid (_) := blkC n4
                                  have BZ : Hid (Below w.heap.size w (((((w9.setCell ⟨w.heap.size, 0, none⟩ (.int .i64 t)).setCell ⟨w.heap.size, 1, none⟩ (.slice (some ⟨g, 1, none⟩) n (lc - 1))).setCell ⟨w.heap.size, 2, none⟩ (.int .i64 at_)).setCell ⟨w.heap.size, 3, none⟩ (.string NT)).drew)) := below_then ((below_then BFB.out BW9.out).grown g4 (below_then BFB.out BW9.out).size (fun k q => by cases q; exact Nat.le_refl _)) (drew_below _)
                                  have HGOT : Hid (Got (((((w9.setCell ⟨w.heap.size, 0, none⟩ (.int .i64 t)).setCell ⟨w.heap.size, 1, none⟩ (.slice (some ⟨g, 1, none⟩) n (lc - 1))).setCell ⟨w.heap.size, 2, none⟩ (.int .i64 at_)).setCell ⟨w.heap.size, 3, none⟩ (.string NT)).drew) (.slice (some ⟨g, 1, none⟩) n (lc - 1)) ps) := by
                                    have hpn := HPN.out
                                    have hlu := HLU.out
                                    refine ⟨_, _, by rw [hpn], (fun q => by cases q), fun ad hq jj hjj => ?_⟩
                                    obtain ⟨hgl, hcj⟩ := HCE.out jj hjj
                                    injection hq with hq
                                    subst hq
                                    have hfar : (((((w9.setCell ⟨w.heap.size, 0, none⟩ (.int .i64 t)).setCell ⟨w.heap.size, 1, none⟩ (.slice (some ⟨g, 1, none⟩) n (lc - 1))).setCell ⟨w.heap.size, 2, none⟩ (.int .i64 at_)).setCell ⟨w.heap.size, 3, none⟩ (.string NT)).drew).cell? ⟨g, 1 + jj, none⟩ = some (.int .i64 ps[jj]) := set_far (set_far (set_far (set_far hcj (by omega)) (by omega)) (by omega)) (by omega)
                                    refine ⟨Nat.lt_of_lt_of_le hgl g4.size, ?_⟩
                                    cases jj with
                                    | zero => exact hfar
                                    | succ jj => exact hfar
                                  clear n4 g4 HCE
                                  go_upto_region 31 with (fail)
                                  go_region
                                  all_goals
                                    go_wp2
                                    obtain ⟨c0, c1, c2, c3⟩ := HC4.out
                                    refine bodyPost_ret (v := .tuple #[.agg #[.int .i64 t, (.slice (some ⟨g, 1, none⟩) n (lc - 1)), .int .i64 at_, .string NT], .int .i64 0]) (by simp [results, Tryz.f8, go_sem, c0, c1, c2, c3]) rfl ⟨BZ.out, .inl ⟨t, at_, ps, NT, _, HFM.out, HBDY.out, HNY.out, rfl, HGOT.out⟩⟩
                · have HNO : Hid (¬ ∃ t ps at_ note, FrmC x.data.toList t ps at_ note) := frm_not HCU2.out (fun w1 r' q => by rw [e'] at q; injection q with q _; exact absurd q ha)
                  have e1 : ((bs a).toList == [99, 111, 109, 109, 105, 116]) = false := by
                    rw [beq_eq_false_iff_ne, ByteArray.toList_eq, bs_data]
                    exact ha
                  have hl1 : ws.length = r.length + 2 := by rw [e']; rfl
                  rw [hl1]
                  generalize bs a = A at ca' e1
                  clear ha ca HWC e' HCU2 hl1 HPLn
                  obtain ⟨z0, z1, z2, z3⟩ := blkC (KRA.out wr Bw1.out)
                  obtain ⟨f0, f1, f2, f3⟩ := blkC_frozen (KRA.out wr Bw1.out)
                  have n4 := put4_blkC (.int .i64 0) (.slice none 0 0) (.int .i64 0) (.string ⟨#[]⟩) (KRA.out wr Bw1.out)
                  have g4 := put4_grownC wr w.heap.size (.int .i64 0) (.slice none 0 0) (.int .i64 0) (.string ⟨#[]⟩)
                  have HC4 : Hid (_) := blkC n4
                  have BZ : Hid (Below w.heap.size w ((((wr.setCell ⟨w.heap.size, 0, none⟩ (.int .i64 0)).setCell ⟨w.heap.size, 1, none⟩ (.slice none 0 0)).setCell ⟨w.heap.size, 2, none⟩ (.int .i64 0)).setCell ⟨w.heap.size, 3, none⟩ (.string ⟨#[]⟩))) := (below_then HA.out Bw1.out).grown g4 (below_then HA.out Bw1.out).size (fun k q => by cases q; exact Nat.le_refl _)
                  clear n4 g4
                  go_wp2
                  obtain ⟨c0, c1, c2, c3⟩ := HC4.out
                  refine bodyPost_ret (v := .tuple #[.agg #[.int .i64 0, .slice none 0 0, .int .i64 0, .string ⟨#[]⟩], .int .i64 1]) (by simp [results, Tryz.f8, go_sem, c0, c1, c2, c3]) rfl ⟨BZ.out, .inr (.inl ⟨.inl HNO.out, rfl⟩)⟩
            · have hje : j = R.size := by omega
              subst hje
              have HNO : Hid (¬ ∃ t ps at_ note, FrmC x.data.toList t ps at_ note) := frm_no (HCN.out (idx_none (by have := HN.out; rw [List.take_of_length_le (by rw [HSR.out]; exact Nat.le_refl _)] at this; exact this)))
              have hws1 : 1 ≤ ws.length := List.length_pos_iff.2 HPP.out
              obtain ⟨b, rfl, hbl, ca⟩ := HWC.out 0 (by omega)
              clear HN HCU HCN hjl
              generalize bs ws[0] = A at ca
              by_cases ha : A = ⟨#[99, 111, 109, 109, 105, 116]⟩
              · have e1 : (A.toList == [99, 111, 109, 109, 105, 116]) = true := by rw [ha, ByteArray.toList_eq]; rfl
                by_cases h2 : ws.length < 2
                · have hl1 : ws.length = 1 := by omega
                  rw [hl1]
                  clear HWC hl1 ha HPLn e' hws1
                  obtain ⟨z0, z1, z2, z3⟩ := blkC (KRA.out wr Bw1.out)
                  obtain ⟨f0, f1, f2, f3⟩ := blkC_frozen (KRA.out wr Bw1.out)
                  have n4 := put4_blkC (.int .i64 0) (.slice none 0 0) (.int .i64 0) (.string ⟨#[]⟩) (KRA.out wr Bw1.out)
                  have g4 := put4_grownC wr w.heap.size (.int .i64 0) (.slice none 0 0) (.int .i64 0) (.string ⟨#[]⟩)
                  have HC4 : Hid (_) := blkC n4
                  have BZ : Hid (Below w.heap.size w ((((wr.setCell ⟨w.heap.size, 0, none⟩ (.int .i64 0)).setCell ⟨w.heap.size, 1, none⟩ (.slice none 0 0)).setCell ⟨w.heap.size, 2, none⟩ (.int .i64 0)).setCell ⟨w.heap.size, 3, none⟩ (.string ⟨#[]⟩))) := (below_then HA.out Bw1.out).grown g4 (below_then HA.out Bw1.out).size (fun k q => by cases q; exact Nat.le_refl _)
                  clear n4 g4
                  go_wp2
                  obtain ⟨c0, c1, c2, c3⟩ := HC4.out
                  refine bodyPost_ret (v := .tuple #[.agg #[.int .i64 0, .slice none 0 0, .int .i64 0, .string ⟨#[]⟩], .int .i64 1]) (by simp [results, Tryz.f8, go_sem, c0, c1, c2, c3]) rfl ⟨BZ.out, .inr (.inl ⟨.inl HNO.out, rfl⟩)⟩
                · have h2' : ¬ ((ws.length : Int) < 2) := by omega
                  generalize ws.length = L at h2 h2' HPLn hws1 ⊢
                  clear HWC ha e'
                  obtain ⟨z0, z1, z2, z3⟩ := blkC (KRA.out wr Bw1.out)
                  obtain ⟨f0, f1, f2, f3⟩ := blkC_frozen (KRA.out wr Bw1.out)
                  have n4 := put4_blkC (.int .i64 0) (.slice none 0 0) (.int .i64 0) (.string ⟨#[]⟩) (KRA.out wr Bw1.out)
                  have g4 := put4_grownC wr w.heap.size (.int .i64 0) (.slice none 0 0) (.int .i64 0) (.string ⟨#[]⟩)
                  have HC4 : Hid (_) := blkC n4
                  have BZ : Hid (Below w.heap.size w ((((wr.setCell ⟨w.heap.size, 0, none⟩ (.int .i64 0)).setCell ⟨w.heap.size, 1, none⟩ (.slice none 0 0)).setCell ⟨w.heap.size, 2, none⟩ (.int .i64 0)).setCell ⟨w.heap.size, 3, none⟩ (.string ⟨#[]⟩))) := (below_then HA.out Bw1.out).grown g4 (below_then HA.out Bw1.out).size (fun k q => by cases q; exact Nat.le_refl _)
                  clear n4 g4
                  go_wp2
                  obtain ⟨c0, c1, c2, c3⟩ := HC4.out
                  refine bodyPost_ret (v := .tuple #[.agg #[.int .i64 0, .slice none 0 0, .int .i64 0, .string ⟨#[]⟩], .int .i64 1]) (by simp [results, Tryz.f8, go_sem, c0, c1, c2, c3]) rfl ⟨BZ.out, .inr (.inl ⟨.inl HNO.out, rfl⟩)⟩
              · have e1 : (A.toList == [99, 111, 109, 109, 105, 116]) = false := by
                  rw [beq_eq_false_iff_ne, ByteArray.toList_eq]
                  exact fun q => ha (pl_ext q)
                generalize ws.length = L at HPLn hws1 ⊢
                clear HWC ha e'
                obtain ⟨z0, z1, z2, z3⟩ := blkC (KRA.out wr Bw1.out)
                obtain ⟨f0, f1, f2, f3⟩ := blkC_frozen (KRA.out wr Bw1.out)
                have n4 := put4_blkC (.int .i64 0) (.slice none 0 0) (.int .i64 0) (.string ⟨#[]⟩) (KRA.out wr Bw1.out)
                have g4 := put4_grownC wr w.heap.size (.int .i64 0) (.slice none 0 0) (.int .i64 0) (.string ⟨#[]⟩)
                have HC4 : Hid (_) := blkC n4
                have BZ : Hid (Below w.heap.size w ((((wr.setCell ⟨w.heap.size, 0, none⟩ (.int .i64 0)).setCell ⟨w.heap.size, 1, none⟩ (.slice none 0 0)).setCell ⟨w.heap.size, 2, none⟩ (.int .i64 0)).setCell ⟨w.heap.size, 3, none⟩ (.string ⟨#[]⟩))) := (below_then HA.out Bw1.out).grown g4 (below_then HA.out Bw1.out).size (fun k q => by cases q; exact Nat.le_refl _)
                clear n4 g4
                go_wp2
                obtain ⟨c0, c1, c2, c3⟩ := HC4.out
                refine bodyPost_ret (v := .tuple #[.agg #[.int .i64 0, .slice none 0 0, .int .i64 0, .string ⟨#[]⟩], .int .i64 1]) (by simp [results, Tryz.f8, go_sem, c0, c1, c2, c3]) rfl ⟨BZ.out, .inr (.inl ⟨.inl HNO.out, rfl⟩)⟩
      · have hcv : ¬ ((x[k].toNat : Int) = 10) := fun q => hc (UInt8.toNat_inj.1 (by show x[k].toNat = 10; omega))
        have HN2 : Hid ((10 : UInt8) ∉ x.data.toList.take (k + 1)) := not_take hlt HN.out hc
        clear HN
        go_wp2
        go_roundw
        case rel => exact ⟨k + 1, by omega, by go_num, by first | rfl | trivial, HN2.out⟩
        case measure => simp [intOf]; omega
    · have hke : k = x.size := by omega
      subst hke
      have HNO : Hid (¬ ∃ t ps at_ note, FrmC x.data.toList t ps at_ note) := frm_no (by
        unfold cutsC
        rw [if_pos]
        have := HN.out
        rw [List.take_of_length_le (by rw [HSX.out]; exact Nat.le_refl _)] at this
        exact idx_none this)
      clear HN
      obtain ⟨z0, z1, z2, z3⟩ := blkC (KRA.out wr Bw0.out)
      obtain ⟨f0, f1, f2, f3⟩ := blkC_frozen (KRA.out wr Bw0.out)
      have n4 := put4_blkC (.int .i64 0) (.slice none 0 0) (.int .i64 0) (.string ⟨#[]⟩) (KRA.out wr Bw0.out)
      have g4 := put4_grownC wr w.heap.size (.int .i64 0) (.slice none 0 0) (.int .i64 0) (.string ⟨#[]⟩)
      have HC4 : Hid (_) := blkC n4
      have BZ : Hid (Below w.heap.size w ((((wr.setCell ⟨w.heap.size, 0, none⟩ (.int .i64 0)).setCell ⟨w.heap.size, 1, none⟩ (.slice none 0 0)).setCell ⟨w.heap.size, 2, none⟩ (.int .i64 0)).setCell ⟨w.heap.size, 3, none⟩ (.string ⟨#[]⟩))) := (below_then HA.out Bw0.out).grown g4 (below_then HA.out Bw0.out).size (fun k q => by cases q; exact Nat.le_refl _)
      clear n4 g4
      go_wp2
      obtain ⟨c0, c1, c2, c3⟩ := HC4.out
      refine bodyPost_ret (v := .tuple #[.agg #[.int .i64 0, .slice none 0 0, .int .i64 0, .string ⟨#[]⟩], .int .i64 1]) (by simp [results, Tryz.f8, go_sem, c0, c1, c2, c3]) rfl ⟨BZ.out, .inr (.inl ⟨.inl HNO.out, rfl⟩)⟩
end Go.Proofs.YtkjfbeempmfipaaGreatDoor
