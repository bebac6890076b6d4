/- Package commit's readNumbers. -/
import Derived.Test.YtckdjamdpellaaaGreatDoorCmT
import Derived.Test.YtckdjamdpellaaaGreatDoorExpO2
namespace Go.Proofs.YtckdjamdpellaaaGreatDoor
open Go Go.RowKit Go.Sort Cal
attribute [local go_sem] Oper.semAt_some

/-- a row of texts that may begin anywhere in its block -/
def TxO (W : World) (v : Value) (l : List ByteArray) : Prop :=
  ∃ (a : Option Addr) (c : Nat), v = .slice a l.length c ∧ l.length ≤ 1000 ∧ l.length ≤ c ∧
    ∀ (j : Nat) (h : j < l.length), ∃ b o : Nat, a = some ⟨b, o, none⟩ ∧ b < W.heap.size ∧ W.cell? ⟨b, o + j, none⟩ = some (.string l[j])
theorem TxO.step {w w' : World} {v : Value} {l : List ByteArray} (h : TxO w v l) (hb : Below w.heap.size w w') : TxO w' v l := by
  obtain ⟨a, c, h1, h2, h3, h4⟩ := h
  refine ⟨a, c, h1, h2, h3, fun j hj => ?_⟩
  obtain ⟨b, o, e, hl, hc⟩ := h4 j hj
  exact ⟨b, o, e, Nat.lt_of_lt_of_le hl hb.size, cell_step hc hb⟩
/-- the numbers that texts are; are they all? -/
def numsV (ws : List ByteArray) : List Int := ws.map fun x => (numOfC x.data.toList).getD 0
def numsOk (ws : List ByteArray) : Prop := ∀ x ∈ ws, (numOfC x.data.toList).isSome = true
theorem numsV_snoc (ws : List ByteArray) (x : ByteArray) {n : Int} (h : numOfC x.data.toList = some n) : numsV (ws ++ [x]) = numsV ws ++ [n] := by
  unfold numsV
  rw [List.map_append]
  simp [h]
theorem int_cellC (W : World) (n : Int) : ∀ (j : Nat) (v : Value), [Value.int .i64 n][j]? = some v → (W.alloc (.cells #[.int .i64 n] 3)).cell? ((⟨W.heap.size, 0, none⟩ : Addr).add j) = some v := fun j v hv => by
  match j, hv with
  | 0, hv => simp at hv; subst hv; simp [Addr.add]
theorem info_intC : (Tryz.prog.info? 3).map (fun i => (i.zero, i.size, i.bytes)) = some (some (.int .i64 0), 1, 8) := by kernel_rfl

set_option maxHeartbeats 2000000 in
set_option maxRecDepth 100000 in
theorem cmNums_any (ws : List ByteArray) (v : Value) (w : World) (g : GlobN w) (h : TxO w v ws) :
    Calls Tryz.prog 38 #[v] w fun r w' => Below w.heap.size w w' ∧ ((numsOk ws ∧ ∃ v', r = .returned (.tuple #[v', .bool true]) ∧ w'.ownsRow w.heap.size 3 1 v' (numsV ws).length ((numsV ws).map (Value.int .i64))) ∨ (¬ numsOk ws ∧ r = .returned (.tuple #[.slice none 0 0, .bool false]))) := by
  obtain ⟨a, c, rfl, h8, hc, hcells⟩ := h
  obtain ⟨i0, hi, hz0, hz1, hz2⟩ := info_parts info_intC
  have HC : Hid (_) := hcells
  have HG : Hid (GlobN w) := g
  clear hcells g
  obtain ⟨L, hL⟩ : ∃ L, ws.length = L := ⟨_, rfl⟩
  rw [hL] at h8 hc ⊢
  have HL : Hid (ws.length = L) := hL
  clear hL
  go_enter Tryz.func38, Tryz.ntmps38
  go_wp2
  go_loopw [4, 6, 7, 8, 11] (fun v _ _ _ i wr => ∃ m : Nat, m ≤ L ∧ i = .int .i64 m ∧ (∃ a n c, v = .slice a n c) ∧ Hid (Below w.heap.size w wr ∧ wr.ownsRow w.heap.size 3 1 v (numsV (ws.take m)).length ((numsV (ws.take m)).map (Value.int .i64)) ∧ numsOk (ws.take m))) (fun _ _ _ _ i _ => L - (intOf i).toNat)
  case atStart => exact ⟨0, Nat.zero_le _, rfl, ⟨_, _, _, rfl⟩, Below.refl _ _, by rw [List.take_zero]; exact World.ownsRow_nil _ _ _ _, fun x hx => by rw [List.take_zero] at hx; cases hx⟩
  case round =>
    obtain ⟨m, hm, rfl, ⟨va, vn, vc, rfl⟩, HR⟩ := hrel
    by_cases hlt : m < L
    · have hmp : m < ws.length := by rw [HL.out]; exact hlt
      obtain ⟨b, o, rfl, hbl, hcell⟩ := HC.out m hmp
      have HTK : Hid (ws.take (m + 1) = ws.take m ++ [ws[m]]) := List.take_succ_eq_append_getElem hmp
      have HMEM : Hid (ws[m] ∈ ws) := List.getElem_mem hmp
      generalize ws[m] = x at hcell HTK HMEM
      have hcr := cell_step2 hcell HR.out.1
      have NR : Hid (Calls _ _ _ _ _) := numR_allC x wr (HG.out.step HR.out.1)
      clear hcell HC
      go_upto_region 6 with (fail)
      refine Calls.mono NR.out ?_
      rintro r w3 ⟨⟨hnum, rfl⟩ | ⟨n, hnum, rfl⟩, hb3⟩
      · have HNO : Hid (¬ numsOk ws) := fun q => by have := q x HMEM.out; rw [hnum] at this; cases this
        have HB3 : Hid (Below w.heap.size w w3) := below_then HR.out.1 hb3
        clear HR hb3 hnum HTK HMEM NR
        go_wp2
        go_ret2
        exact ⟨HB3.out, .inr ⟨HNO.out, rfl⟩⟩
      · have HB3 : Hid (Below w.heap.size w w3) := below_then HR.out.1 hb3
        have HOK : Hid (numsOk (ws.take (m + 1))) := fun y hy => by
          rw [HTK.out] at hy
          rcases List.mem_append.1 hy with q | q
          · exact HR.out.2.2 y q
          · rw [List.mem_singleton.1 q, hnum]; rfl
        have HNV : Hid (numsV (ws.take (m + 1)) = numsV (ws.take m) ++ [n]) := by show _ = _; rw [HTK.out]; exact numsV_snoc _ _ hnum
        have OW3 : Hid (w3.ownsRow w.heap.size 3 1 (.slice va vn vc) (numsV (ws.take m)).length ((numsV (ws.take m)).map (Value.int .i64))) := own_step HR.out.2.1 hb3
        have hVL : (numsV (ws.take m)).length ≤ 1000 := by unfold numsV; rw [List.length_map, List.length_take]; omega
        generalize numsV (ws.take m) = V at OW3 HNV hVL
        have hvn : vn = V.length := by
          obtain ⟨a9, c9, e9⟩ := own_formC OW3.out
          injection e9
        subst hvn
        have hzz : w.heap.size ≤ w3.heap.size := HB3.out.size
        have NC : Hid (_) := int_cellC w3 n
        clear HR hb3 hnum HTK HMEM NR
        go_upto_region 9 with (first
          | (at_builtin; refine wpList_append_own_at _ rfl _ _ 22 rfl w.heap.size 3 i0 (.int .i64 0) 1 8 Tryz.underlying22 hi hz0 hz1 hz2 rfl (by decide) _ _ _ rfl (World.ownsRow.alloc OW3.out (.cells #[.int .i64 n] 3)) ⟨w3.heap.size, 0, none⟩ 1 1 [.int .i64 n] rfl rfl NC.out (fun v hv => by rw [List.mem_singleton.1 hv]; rfl) (by unfold maxLen; omega) (by omega) (by rw [World.size_alloc]; omega) ?_; intro v' w5 hown' hgrow _ hat; have O5 : Hid (w5.ownsRow w.heap.size 3 1 v' (V ++ [n]).length ((V ++ [n]).map (Value.int .i64))) := (by rw [List.length_append, List.map_append]; exact hown'); have B5 : Hid (Below w.heap.size w w5) := (below_then HB3.out (below_alloc w3 (.cells #[.int .i64 n] 3))).grown hgrow (by rw [World.size_alloc]; omega) (fun k q => (World.ownsRow.lt OW3.out k q).1); obtain ⟨g', cap', rfl⟩ := ownsRow_succ hown'; clear hown' hgrow hat)
          | go_in)
        go_wp2
        go_roundw
        case rel => exact ⟨m + 1, by omega, by go_num, ⟨_, _, _, rfl⟩, B5.out, by rw [HNV.out]; exact O5.out, HOK.out⟩
        case measure => simp [intOf]; omega
    · have HE : Hid (Below w.heap.size w wr ∧ wr.ownsRow w.heap.size 3 1 (.slice va vn vc) (numsV ws).length ((numsV ws).map (Value.int .i64)) ∧ numsOk ws) := by
        have := HR.out
        rw [List.take_of_length_le (by have := HL.out; omega)] at this
        exact this
      clear HR HC
      go_wp2
      go_ret2
      exact ⟨HE.out.1, .inl ⟨HE.out.2.2, _, rfl, HE.out.2.1⟩⟩
end Go.Proofs.YtckdjamdpellaaaGreatDoor
