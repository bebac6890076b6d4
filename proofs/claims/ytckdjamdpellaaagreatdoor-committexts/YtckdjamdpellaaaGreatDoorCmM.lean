/- The document's own Cut, ReadCommit. -/
import Derived.Test.YtckdjamdpellaaaGreatDoorCmR
namespace Go.Proofs.YtckdjamdpellaaaGreatDoor
open Go Go.RowKit Go.Sort Cal
attribute [local go_sem] Oper.semAt_some

/-- the pieces of a text's first k bytes that are ended, and where the last one begins -/
theorem pieces_snoc_hit (c : UInt8) : ∀ l : List UInt8, pieces c (l ++ [c]) = pieces c l ++ [[]]
  | [] => by simp [pieces]
  | b :: t => by
    have h := pieces_snoc_hit c t
    rw [List.cons_append]
    unfold pieces
    by_cases hb : b = c
    · rw [if_pos hb, if_pos hb, h]; rfl
    · rw [if_neg hb, if_neg hb, h]
      cases hq : pieces c t with
      | nil => exact absurd hq (pieces_some c t)
      | cons x r => rfl
theorem pieces_snoc_miss (c d : UInt8) (hd : d ≠ c) : ∀ l : List UInt8, ∃ (I : List (List UInt8)) (x : List UInt8), pieces c l = I ++ [x] ∧ pieces c (l ++ [d]) = I ++ [x ++ [d]]
  | [] => ⟨[], [], by simp [pieces], by simp [pieces, hd]⟩
  | b :: t => by
    obtain ⟨I, x, h1, h2⟩ := pieces_snoc_miss c d hd t
    rw [List.cons_append]
    unfold pieces
    by_cases hb : b = c
    · rw [if_pos hb, if_pos hb, h1, h2]
      exact ⟨[] :: I, x, rfl, rfl⟩
    · rw [if_neg hb, if_neg hb, h1, h2]
      cases I with
      | nil => exact ⟨[], b :: x, rfl, rfl⟩
      | cons y r => exact ⟨(b :: y) :: r, x, rfl, rfl⟩
/-- the pieces that are ended, and the one that is not -/
def pcInit (c : UInt8) (l : List UInt8) : List (List UInt8) := (pieces c l).dropLast
def pcLast (c : UInt8) (l : List UInt8) : List UInt8 := (pieces c l).getLast (pieces_some c l)
theorem pc_both (c : UInt8) (l : List UInt8) : pieces c l = pcInit c l ++ [pcLast c l] := (List.dropLast_concat_getLast (pieces_some c l)).symm
theorem pc_hit (c : UInt8) (l : List UInt8) : pcInit c (l ++ [c]) = pcInit c l ++ [pcLast c l] ∧ pcLast c (l ++ [c]) = [] := by
  have h := pieces_snoc_hit c l
  have h2 := pc_both c (l ++ [c])
  rw [h, pc_both c l] at h2
  have h3 := List.append_inj' h2 rfl
  exact ⟨h3.1.symm, by injection h3.2 with q _; exact q.symm⟩
theorem pc_miss (c d : UInt8) (l : List UInt8) (hd : d ≠ c) : pcInit c (l ++ [d]) = pcInit c l ∧ pcLast c (l ++ [d]) = pcLast c l ++ [d] := by
  obtain ⟨I, x, h1, h2⟩ := pieces_snoc_miss c d hd l
  have e1 := pc_both c l
  have e2 := pc_both c (l ++ [d])
  rw [h1] at e1
  rw [h2] at e2
  have q1 := List.append_inj' e1 rfl
  have q2 := List.append_inj' e2 rfl
  have r1 : x = pcLast c l := by injection q1.2
  have r2 : x ++ [d] = pcLast c (l ++ [d]) := by injection q2.2
  exact ⟨q2.1.symm.trans q1.1, r2.symm.trans (by rw [r1])⟩

theorem extract_at (s : ByteArray) (a b : Nat) : s.extract a b = bs ((s.data.toList.take b).drop a) := by
  apply pl_ext
  rw [bs_data]
  simp [ByteArray.data_extract, Array.toList_extract, List.drop_take]
theorem word_cellC (W : World) (x : ByteArray) : ∀ (j : Nat) (v : Value), [Value.string x][j]? = some v → (W.alloc (.cells #[.string x] 9)).cell? ((⟨W.heap.size, 0, none⟩ : Addr).add j) = some v := fun j v hv => by
  match j, hv with
  | 0, hv => simp at hv; subst hv; simp [Addr.add]
/-- what Cut has behind k bytes -/
structure CutAt (s : ByteArray) (c : UInt8) (w wr : World) (k f : Nat) (v : Value) : Prop where
  own : wr.ownsRow w.heap.size 9 1 v (pcInit c (s.data.toList.take k)).length ((pcInit c (s.data.toList.take k)).map sv)
  below : Below w.heap.size w wr
  le : f ≤ k
  last : (s.data.toList.take k).drop f = pcLast c (s.data.toList.take k)
theorem CutAt.miss {s : ByteArray} {c : UInt8} {w wr : World} {k f : Nat} {v : Value} (h : CutAt s c w wr k f v) (hk : k < s.size) (hne : s[k] ≠ c) : CutAt s c w wr (k + 1) f v := by
  have e := take_snoc s k hk
  obtain ⟨q1, q2⟩ := pc_miss c s[k] (s.data.toList.take k) hne
  have hl : (s.data.toList.take k).length = k := by rw [List.length_take, ← Lib.size_eq]; omega
  refine ⟨by rw [e, q1]; exact h.own, h.below, by have := h.le; omega, ?_⟩
  rw [e, q2, List.drop_append_of_le_length (by rw [hl]; exact h.le), h.last]
theorem cutAt_hit {s : ByteArray} {c : UInt8} {w w5 : World} {k : Nat} {v' : Value} (hk : k < s.size) (he : s[k] = c) (ho : w5.ownsRow w.heap.size 9 1 v' ((pcInit c (s.data.toList.take k)).length + 1) ((pcInit c (s.data.toList.take k)).map sv ++ [sv (pcLast c (s.data.toList.take k))])) (hb : Below w.heap.size w w5) : CutAt s c w w5 (k + 1) (k + 1) v' := by
  have e := take_snoc s k hk
  obtain ⟨q1, q2⟩ := pc_hit c (s.data.toList.take k)
  rw [he] at e
  have hl : (s.data.toList.take (k + 1)).length = k + 1 := by rw [List.length_take, ← Lib.size_eq]; omega
  refine ⟨?_, hb, Nat.le_refl _, ?_⟩
  · rw [e, q1, List.length_append, List.map_append]
    exact ho
  · rw [List.drop_of_length_le (by rw [hl]; exact Nat.le_refl _), e, q2]
set_option maxHeartbeats 2000000 in
set_option maxRecDepth 100000 in
theorem rcut_any (s : ByteArray) (c : UInt8) (w : World) (hs : s.size ≤ 1000) :
    Calls Tryz.prog 20 #[.string s, .int .u8 c.toNat] w fun r w' => Below w.heap.size w w' ∧ ∃ v, r = .returned v ∧ w'.ownsRow w.heap.size 9 1 v (pieces c s.data.toList).length ((pieces c s.data.toList).map sv) := by
  obtain ⟨i0, hi, hz0, hz1, hz2⟩ := info_parts info_str
  go_enter Tryz.func20, Tryz.ntmps20
  go_wp2
  go_loopw [5, 6, 7] (fun v fr i wr => ∃ k f : Nat, k ≤ s.size ∧ i = .int .i64 k ∧ fr = .int .i64 f ∧ (∃ a n c, v = .slice a n c) ∧ f ≤ k ∧ Hid (CutAt s c w wr k f v)) (fun _ _ i _ => s.size - (intOf i).toNat)
  case atStart => exact ⟨0, 0, Nat.zero_le _, rfl, rfl, ⟨_, _, _, rfl⟩, Nat.le_refl _, ⟨by rw [List.take_zero]; exact World.ownsRow_nil _ _ _ _, Below.refl _ _, Nat.le_refl _, by rw [List.take_zero]; rfl⟩⟩
  case round =>
    obtain ⟨k, f, hk, rfl, rfl, ⟨va, vn, vc, rfl⟩, hfk, HR⟩ := hrel
    have hvl : (pcInit c (s.data.toList.take k)).length ≤ 1001 := by
      have h1 := pieces_len c (s.data.toList.take k)
      rw [List.length_take, ← Lib.size_eq] at h1
      unfold pcInit
      rw [List.length_dropLast]
      omega
    have hvn : vn = (pcInit c (s.data.toList.take k)).length := by
      obtain ⟨a9, c9, e9⟩ := own_formC HR.out.own
      injection e9
    by_cases hlt : k < s.size
    · by_cases hc : s[k] = c
      · have hcv : (s[k].toNat : Int) = (c.toNat : Int) := by rw [hc]
        have hex : s.extract f k = bs (pcLast c (s.data.toList.take k)) := by rw [extract_at, HR.out.last]
        have HIT : Hid (∀ (w5 : World) (v' : Value), w5.ownsRow w.heap.size 9 1 v' ((pcInit c (s.data.toList.take k)).length + 1) ((pcInit c (s.data.toList.take k)).map sv ++ [sv (pcLast c (s.data.toList.take k))]) → Below w.heap.size w w5 → CutAt s c w w5 (k + 1) (k + 1) v') := fun w5 v' h1 h2 => cutAt_hit hlt hc h1 h2
        have HOW : Hid (wr.ownsRow w.heap.size 9 1 (.slice va vn vc) (pcInit c (s.data.toList.take k)).length ((pcInit c (s.data.toList.take k)).map sv)) := HR.out.own
        have HBW : Hid (Below w.heap.size w wr) := HR.out.below
        have hzz : w.heap.size ≤ wr.heap.size := HBW.out.size
        have hsv : sv (pcLast c (s.data.toList.take k)) = .string (s.extract f k) := by rw [hex]; rfl
        rw [hsv] at HIT
        generalize (pcInit c (s.data.toList.take k)) = I at HIT HOW hvl hvn
        subst hvn
        have hfk' : (f : Int) ≤ (k : Int) := by omega
        have hks : (k : Int) ≤ (s.size : Int) := by omega
        have hf0 : (0 : Int) ≤ (f : Int) := by omega
        clear HR hex hsv
        obtain ⟨X, hX⟩ : ∃ X, s.extract f k = X := ⟨_, rfl⟩
        rw [hX] at HIT
        have NC : Hid (_) := word_cellC wr X
        go_upto_region 8 with (first
          | (at_builtin; refine wpList_append_own_at _ rfl _ _ 44 rfl w.heap.size 9 i0 (.string ⟨#[]⟩) 1 16 Tryz.underlying44 hi hz0 hz1 hz2 rfl (by decide) _ _ _ rfl (World.ownsRow.alloc HOW.out (.cells #[.string X] 9)) ⟨wr.heap.size, 0, none⟩ 1 1 [.string X] rfl rfl NC.out (fun v hv => by rw [List.mem_singleton.1 hv]; rfl) (by unfold maxLen; omega) (by omega) (by rw [World.size_alloc]; omega) ?_; intro v' w5 hown' hgrow _ hat; have B5 : Hid (Below w.heap.size w w5) := (below_then HBW.out (below_alloc wr (.cells #[.string X] 9))).grown hgrow (by rw [World.size_alloc]; omega) (fun k q => (World.ownsRow.lt HOW.out k q).1); have O5 : Hid (CutAt s c w w5 (k + 1) (k + 1) v') := HIT.out w5 v' hown' B5.out; obtain ⟨g', cap', rfl⟩ := ownsRow_succ hown'; clear hown' hgrow hat)
          | go_in)
        go_wp2
        go_roundw
        case rel => exact ⟨k + 1, k + 1, by omega, by go_num, by go_num, ⟨_, _, _, rfl⟩, Nat.le_refl _, O5.out⟩
        case measure => simp [intOf]; omega
      · have hcv : ¬ ((s[k].toNat : Int) = (c.toNat : Int)) := fun q => hc (UInt8.toNat_inj.1 (by omega))
        have HM : Hid (CutAt s c w wr (k + 1) f (.slice va vn vc)) := HR.out.miss hlt hc
        clear HR hvn hvl hc
        go_wp2
        go_roundw
        case rel => exact ⟨k + 1, f, by omega, by go_num, rfl, ⟨_, _, _, rfl⟩, by omega, HM.out⟩
        case measure => simp [intOf]; omega
    · have hke : k = s.size := by omega
      subst hke
      have hfull : s.data.toList.take s.size = s.data.toList := List.take_of_length_le (by rw [← Lib.size_eq]; exact Nat.le_refl _)
      have hlast := HR.out.last
      have HOW : Hid (wr.ownsRow w.heap.size 9 1 (.slice va vn vc) (pcInit c (s.data.toList.take s.size)).length ((pcInit c (s.data.toList.take s.size)).map sv)) := HR.out.own
      have HBW : Hid (Below w.heap.size w wr) := HR.out.below
      rw [hfull] at hlast HOW hvl hvn
      have hex : s.extract f s.size = bs (pcLast c s.data.toList) := by rw [extract_at, hfull, hlast]
      have HE : Hid ((pieces c s.data.toList).length = (pcInit c s.data.toList).length + 1 ∧ (pieces c s.data.toList).map sv = (pcInit c s.data.toList).map sv ++ [.string (s.extract f s.size)]) := by
        rw [pc_both c s.data.toList, List.length_append, List.map_append, hex]
        exact ⟨rfl, rfl⟩
      have hzz : w.heap.size ≤ wr.heap.size := HBW.out.size
      generalize (pcInit c s.data.toList) = I at HOW hvl hvn HE
      subst hvn
      have hfs : (f : Int) ≤ (s.size : Int) := by omega
      have hf0 : (0 : Int) ≤ (f : Int) := by omega
      clear HR hex hlast hfull
      obtain ⟨X, hX⟩ : ∃ X, s.extract f s.size = X := ⟨_, rfl⟩
      rw [hX] at HE
      have NC : Hid (_) := word_cellC wr X
      go_wp2_with (first
        | (at_builtin; refine wpList_append_own_at _ rfl _ _ 44 rfl w.heap.size 9 i0 (.string ⟨#[]⟩) 1 16 Tryz.underlying44 hi hz0 hz1 hz2 rfl (by decide) _ _ _ rfl (World.ownsRow.alloc HOW.out (.cells #[.string X] 9)) ⟨wr.heap.size, 0, none⟩ 1 1 [.string X] rfl rfl NC.out (fun v hv => by rw [List.mem_singleton.1 hv]; rfl) (by unfold maxLen; omega) (by omega) (by rw [World.size_alloc]; omega) ?_; intro v' w5 hown' hgrow _ hat; have B5 : Hid (Below w.heap.size w w5) := (below_then HBW.out (below_alloc wr (.cells #[.string X] 9))).grown hgrow (by rw [World.size_alloc]; omega) (fun k q => (World.ownsRow.lt HOW.out k q).1); have O5 : Hid (w5.ownsRow w.heap.size 9 1 v' (I.length + 1) (I.map sv ++ [.string X])) := hown'; obtain ⟨g', cap', rfl⟩ := ownsRow_succ hown'; clear hown' hgrow hat)
        | go_in)
      go_ret
      exact ⟨B5.out, _, rfl, by rw [HE.out.1, HE.out.2]; exact O5.out⟩
end Go.Proofs.YtckdjamdpellaaaGreatDoor
