/- The document's Head on a number that was written, at any sign. -/
import Derived.Test.YtbocknocmggcpaaGreatDoorPkD
import Derived.Test.YtbocknocmggcpaaGreatDoorPlYK
import Derived.Test.YtbocknocmggcpaaGreatDoorPaM
import Derived.Test.YtbocknocmggcpaaGreatDoorPlT
import Derived.BigRegion
namespace Go.Proofs.YtbocknocmggcpaaGreatDoor
open Go Go.RowKit Go.Sort Go.Maps Cal Pk
attribute [local go_sem] Oper.semAt_some

theorem numD_itoaK (n : Int) (h0 : 0 ≤ n) (h1 : n ≤ 999999) : numD (Lib.itoa n) = n := by
  unfold numD
  rw [numOf_itoa n h0 h1]

set_option maxRecDepth 100000 in
theorem head_itoa (n : Nat) (hn : n ≤ 999999) (c : UInt8) (hc : ¬ (48 ≤ c.toNat ∧ c.toNat ≤ 57)) (rest : List UInt8) (w : World) (hr : rest.length ≤ 1000000) :
    Calls Tryz.prog 35 #[.string (bs (Lib.itoa n ++ c :: rest)), .int .u8 (c.toNat : Int)] w fun r w' => r = .returned (.tuple #[.int .i64 (n : Int), .int .i64 (((Lib.itoa n).length : Int) + 1)]) ∧ w' = w := by
  have hil := itoa_len (n : Int) (by omega) (by omega)
  have hno := no_sign (n : Int) (by omega) c hc
  have NO : Hid (∀ W, Calls Tryz.prog 54 #[.string (bs (Lib.itoa n)), .int .i64 9] W fun e w' => e = .returned (.int .i64 (n : Int)) ∧ w' = W) := fun W => by
    have := numberOf_any (bs (Lib.itoa n)) W
    rw [bs_data, numD_itoaK (n : Int) (by omega) (by omega)] at this
    exact this
  have hsz : (bs (Lib.itoa n ++ c :: rest)).size = (Lib.itoa n).length + 1 + rest.length := by rw [Lib.size_eq, bs_data, List.length_append, List.length_cons]; omega
  have hex : (bs (Lib.itoa n ++ c :: rest)).extract 0 (Lib.itoa n).length = bs (Lib.itoa n) := pl_ext (by rw [Lib.extract_from_zero, bs_data, bs_data, List.take_left])
  have hat : ∀ (k : Nat) (hk : k < (bs (Lib.itoa n ++ c :: rest)).size), (k < (Lib.itoa n).length → (bs (Lib.itoa n ++ c :: rest))[k] ≠ c) ∧ (k = (Lib.itoa n).length → (bs (Lib.itoa n ++ c :: rest))[k] = c) := fun k hk => by
    have hd := Lib.data_getElem? (bs (Lib.itoa n ++ c :: rest)) k hk
    rw [bs_data] at hd
    refine ⟨fun q e => ?_, fun q => ?_⟩
    · rw [List.getElem?_append_left q, e] at hd
      exact hno (List.mem_of_getElem? hd)
    · subst q
      rw [List.getElem?_append_right (Nat.le_refl _), Nat.sub_self] at hd
      exact (Option.some.inj hd).symm
  have HAT : Hid (_) := hat
  generalize bs (Lib.itoa n ++ c :: rest) = s at *
  generalize bs (Lib.itoa n) = s1 at *
  generalize (Lib.itoa n).length = L at *
  clear hno hat
  go_enter Tryz.func35, Tryz.ntmps35
  go_wp2
  go_loop [6] (fun i => ∃ k : Nat, k ≤ L ∧ i = .int .i64 k) (fun i => L - (intOf i).toNat)
  case atStart => exact ⟨0, Nat.zero_le _, rfl⟩
  case round =>
    obtain ⟨k, hk, rfl⟩ := hrel
    have hks : k < s.size := by omega
    have hki : (k : Int) < (s.size : Int) := by omega
    have hk0 : (0 : Int) ≤ (k : Int) := by omega
    obtain ⟨a1, a2⟩ := HAT.out k hks
    by_cases hlt : k < L
    · have hcv : ¬ ((s[k].toNat : Int) = (c.toNat : Int)) := fun q => a1 hlt (UInt8.toNat_inj.1 (by omega))
      clear a1 a2
      go_wp2
      go_round
      case rel => exact ⟨k + 1, by omega, by go_num⟩
      case measure => simp [intOf]; omega
    · have hkl : k = L := by omega
      have hcv : (s[k].toNat : Int) = (c.toNat : Int) := by rw [a2 hkl]
      subst hkl
      have hkn : ¬ ((k : Int) = (s.size : Int)) := by omega
      have NO2 : Hid (Calls Tryz.prog 54 #[.string (s.extract 0 k), .int .i64 9] w fun e w' => e = .returned (.int .i64 (n : Int)) ∧ w' = w) := by
        show Calls _ _ _ _ _
        rw [hex]
        exact NO.out w
      clear a1 a2 hsz hex NO
      go_wp2_with (go_at_call 54; refine Calls.mono NO2.out ?_; rintro r w' ⟨rfl, hq⟩; have hq := hq.symm; subst hq)
      go_ret2
      exact ⟨rfl, rfl⟩
end Go.Proofs.YtbocknocmggcpaaGreatDoor

/- Deltas and packs in plain mathematics, as the document reads them: what Delta makes are ops that were written; how long a pack is. -/
namespace Go.Proofs.YtbocknocmggcpaaGreatDoor.Pk
open Go Cal

theorem dl_ops (a b : List UInt8) (ha : a.length ≤ 10000) (hb : b.length ≤ 10000) : ∃ L : List Opq, (∀ o ∈ L, OpOk o) ∧ prts a L = some b ∧ dl a b = L.flatMap opT := by
  obtain ⟨h1, h2⟩ := opL_ok a b (by omega) (by omega) (b.length + 1) 0 0 (Nat.le_refl _) (Nat.zero_le _)
  rw [List.drop_zero] at h2
  unfold dl
  split
  · rename_i hl
    by_cases hn : b = []
    · subst hn
      have : dlT a [] = [] := rfl
      rw [this] at hl
      simp at hl
    · refine ⟨[(b, 0, 0)], fun o ho => ?_, ?_, ?_⟩
      · rw [List.mem_singleton] at ho
        subst ho
        exact .inl ⟨hn, by dsimp only; omega, rfl⟩
      · simp only [prts, ofO]; rw [if_pos hn]; simp
      · simp only [List.flatMap_cons, List.flatMap_nil, List.append_nil]
        unfold opT
        rw [if_pos hn]
  · exact ⟨_, h1, h2, rfl⟩
theorem pkE_lenT (ts : List ByteArray) : ∀ (pre : List (List UInt8)), (pkE pre (ts.map fun t => t.data.toList)).length ≤ (plT ts).length + ts.length := by
  induction ts with
  | nil => intro pre; simp [pkE]
  | cons t ts ih =>
    intro pre
    have h1 := (entE_form pre t.data.toList).1
    have h2 := ih (pre ++ [t.data.toList])
    have hz : t.data.toList.length = t.size := (Lib.size_eq t).symm
    rw [List.map_cons]
    unfold pkE
    unfold szX at h1
    rw [plT_cons]
    simp only [List.length_append, List.length_cons, List.length_nil, hz] at h1 h2 ⊢
    omega
theorem ownT_len (b : List UInt8) : (ownT b).length = (Lib.itoa b.length).length + b.length + 3 := by
  unfold ownT
  simp only [List.length_append, List.length_cons, List.length_nil]
  omega
theorem prts_cons {a x : List UInt8} {o : Opq} {L : List Opq} (h : prts a (o :: L) = some x) : ∃ y z, ofO a o = some y ∧ prts a L = some z ∧ x = y ++ z := by
  unfold prts at h
  cases h1 : ofO a o with
  | none => rw [h1] at h; cases h
  | some y =>
    rw [h1] at h
    cases h2 : prts a L with
    | none => rw [h2] at h; cases h
    | some z =>
      rw [h2] at h
      exact ⟨y, z, rfl, rfl, (Option.some.inj h).symm⟩
theorem opT_ne (o : Opq) : opT o ≠ [] := by
  unfold opT ownT
  split <;> simp
end Go.Proofs.YtbocknocmggcpaaGreatDoor.Pk

/- The document's OpsOf on ops that were written. -/
namespace Go.Proofs.YtbocknocmggcpaaGreatDoor
open Go Go.RowKit Go.Sort Go.Maps Cal Pk
attribute [local go_sem] Oper.semAt_some

/-- an op as the document has it -/
def rop (o : Opq) : List Value := if o.1 ≠ [] then [.int .i64 0, .int .i64 (o.1.length : Int), .string (bs o.1)] else [.int .i64 o.2.1, .int .i64 o.2.2, .string ⟨#[]⟩]
def RO (base : Nat) (W : World) (v : Value) (L : List Opq) : Prop := W.ownsRow base 68 3 v L.length (L.flatMap rop)
theorem info_rop : (Tryz.prog.info? 68).map (fun i => (i.zero, i.size, i.bytes)) = some (some (.agg #[.int .i64 0, .int .i64 0, .string ⟨#[]⟩]), 3, 32) := by kernel_rfl
theorem rop_cell (w : World) (x y z : Value) : ∀ (j : Nat) (u : Value), [x, y, z][j]? = some u → (w.alloc (.cells #[x, y, z] 68)).cell? ((⟨w.heap.size, 0, none⟩ : Addr).add j) = some u := by
  intro j u hj
  match j, hj with
  | 0, hj => simp at hj; subst hj; simp [Addr.add]
  | 1, hj => simp at hj; subst hj; simp [Addr.add]
  | 2, hj => simp at hj; subst hj; simp [Addr.add]
theorem RO.form {base : Nat} {W : World} {v : Value} {L : List Opq} (h : RO base W v L) : ∃ a c, v = .slice a L.length c := by
  rcases h.2 with ⟨rfl, h0⟩ | ⟨g, cap, cur, rfl, _⟩
  · exact ⟨none, 0, by rw [h0]⟩
  · exact ⟨_, _, rfl⟩
theorem ext_bs (S : ByteArray) (A R : List UInt8) (k : Nat) (hS : S = bs (A ++ R)) (hk : k = A.length) : S.extract k S.size = bs R := by
  subst hS hk
  exact pl_ext (by rw [Lib.extract_to_end, bs_data, bs_data, List.drop_left])
theorem extD_to {S : ByteArray} {A R : List UInt8} {k m : Nat} (hS : S = bs (A ++ R)) (hk : k = A.length) (hm : m = S.size) : S.extract k m = bs R := by
  rw [hm]
  exact ext_bs S A R k hS hk
theorem at_bs {S : ByteArray} {A R : List UInt8} {c : UInt8} {k : Nat} (hS : S = bs (A ++ c :: R)) (hk : k = A.length) (h : k < S.size) : S[k] = c := by
  subst hS hk
  have q := Lib.data_getElem? (bs (A ++ c :: R)) A.length h
  rw [bs_data, List.getElem?_append_right (Nat.le_refl _), Nat.sub_self] at q
  exact (Option.some.inj q).symm
theorem flatD_len (L : List Opq) : L.length ≤ (L.flatMap opT).length := by
  induction L with
  | nil => simp
  | cons o L ih =>
    have : 0 < (opT o).length := List.length_pos_iff.2 (opT_ne o)
    rw [List.flatMap_cons, List.length_append, List.length_cons]
    omega

set_option maxHeartbeats 4000000 in
set_option maxRecDepth 100000 in
theorem opsOf_any (L : List Opq) (h : ∀ o ∈ L, OpOk o) (hl : (L.flatMap opT).length ≤ 900000) (w : World) :
    Calls Tryz.prog 24 #[.string (bs (L.flatMap opT))] w fun r w' => ∃ v, r = .returned (.tuple #[v, .bool true]) ∧ RO w.heap.size w' v L ∧ RowKit.Below w.heap.size w w' := by
  obtain ⟨i0, hi, hz0, hz1, hz2⟩ := info_parts info_rop
  have HOK : Hid (∀ o ∈ L, OpOk o) := h
  have hLl := flatD_len L
  have HLL : Hid (L.length ≤ 900000) := by show _ ≤ _; omega
  have HFL : Hid ((L.flatMap opT).length ≤ 900000) := hl
  have HS : Hid (bs (L.flatMap opT) = bs ((L.drop 0).flatMap opT)) := by show _ = _; rw [List.drop_zero]
  generalize bs (L.flatMap opT) = S at HS
  clear h hl hLl
  go_enter Tryz.func24, Tryz.ntmps24
  go_wp2
  go_loopw [0, 4, 5, 6, 7, 8, 9, 10, 16, 48] (fun sv ov _ _ _ _ _ _ _ _ wr => ∃ (s' : ByteArray), sv = .string s' ∧ Hid (∃ j, j ≤ L.length ∧ s' = bs ((L.drop j).flatMap opT) ∧ RO w.heap.size wr ov (L.take j) ∧ RowKit.Below w.heap.size w wr)) (fun sv _ _ _ _ _ _ _ _ _ _ => strLen sv)
  case atStart => exact ⟨S, rfl, 0, Nat.zero_le _, HS.out, World.ownsRow_nil _ _ _ _, Below.refl _ _⟩
  case round =>
    obtain ⟨s', rfl, HR⟩ := hrel
    obtain ⟨j, hj, hs, hro, hb⟩ := HR.out
    clear HR
    by_cases hlt : j < L.length
    · obtain ⟨o, hod, hom, hot'⟩ : ∃ o : Opq, L.drop j = o :: L.drop (j + 1) ∧ o ∈ L ∧ L.take (j + 1) = L.take j ++ [o] := ⟨L[j], List.drop_eq_getElem_cons hlt, List.getElem_mem hlt, List.take_succ_eq_append_getElem hlt⟩
      have hok := HOK.out _ hom
      rw [hod, List.flatMap_cons] at hs
      have HT : Hid (L.take (j + 1) = L.take j ++ [o]) := hot'
      clear hod hom
      obtain ⟨va, vc, hv⟩ := hro.form
      have htl : (L.take j).length = j := by rw [List.length_take]; omega
      unfold RO at hro
      rw [htl] at hv hro
      subst hv
      have HJ : Hid (j < L.length) := hlt
      have hrl : ((L.drop (j + 1)).flatMap opT).length ≤ 900000 := by
        have q := HFL.out
        rw [← List.take_append_drop (j + 1) L, List.flatMap_append, List.length_append] at q
        omega
      have hst : (opT o ++ (L.drop (j + 1)).flatMap opT).length ≤ 900000 := by
        have q := HFL.out
        rw [← List.take_append_drop (j + 1) L, hot', List.append_assoc, List.flatMap_append, List.flatMap_append, List.flatMap_cons, List.flatMap_nil, List.append_nil, List.length_append] at q
        omega
      generalize hR : (L.drop (j + 1)).flatMap opT = R at hs hrl hst
      have hss : (s'.size : Int) ≤ 900000 := by
        rw [hs, Lib.size_eq, bs_data]
        omega
      have HRR : Hid ((L.drop (j + 1)).flatMap opT = R) := hR
      clear hR
      have HRO : Hid (World.ownsRow wr w.heap.size 68 3 (.slice va j vc) j ((L.take j).flatMap rop)) := hro
      have HB : Hid (RowKit.Below w.heap.size w wr) := hb
      clear hro hb htl hot' hst
      rcases hok with ⟨q1, q2, q3⟩ | ⟨q1, q2, q3, q4, q5⟩
      · obtain ⟨x, hx⟩ : ∃ x, o.1 = x := ⟨_, rfl⟩
        rw [hx] at q1 q2
        have HO : Hid (rop o = [.int .i64 0, .int .i64 (x.length : Int), .string (bs x)]) := by
          show rop o = _
          unfold rop
          rw [hx, if_pos q1]
        have hot : opT o = 105 :: (Lib.itoa (x.length : Nat) ++ 58 :: (x ++ [59])) := by
          unfold opT
          rw [hx, if_pos q1]
          rfl
        rw [hot] at hs
        have hs1 : s' = bs ([105] ++ (Lib.itoa (x.length : Nat) ++ 58 :: (x ++ 59 :: R))) := by rw [hs]; simp
        have hs2 : s' = bs ((105 :: (Lib.itoa (x.length : Nat) ++ [58])) ++ (x ++ 59 :: R)) := by rw [hs]; simp
        have hs3 : s' = bs ((105 :: (Lib.itoa (x.length : Nat) ++ 58 :: x)) ++ 59 :: R) := by rw [hs]; simp
        have hs4 : s' = bs ((105 :: (Lib.itoa (x.length : Nat) ++ 58 :: (x ++ [59]))) ++ R) := hs
        have hN0 : 0 < x.length := List.length_pos_iff.2 q1
        have hiA := itoa_len (x.length : Int) (by omega) (by omega)
        have hsz : s'.size = 1 + ((Lib.itoa (x.length : Nat)).length + 1) + x.length + 1 + R.length := by
          rw [hs1, Lib.size_eq, bs_data]
          simp only [List.length_append, List.length_cons, List.length_nil]
          omega
        have h0 : 0 < s'.size := by omega
        have h105 : s'[0] = 105 := at_bs (A := []) hs1 rfl h0
        have h105i : ((s'[0]).toNat : Int) = 105 := by rw [h105]; rfl
        have hk : 1 + ((Lib.itoa (x.length : Nat)).length + 1) + x.length < s'.size := by omega
        have h59 : s'[1 + ((Lib.itoa (x.length : Nat)).length + 1) + x.length] = 59 := at_bs hs3 (by simp; omega) hk
        have h59i : ((s'[1 + ((Lib.itoa (x.length : Nat)).length + 1) + x.length]).toNat : Int) = 59 := by rw [h59]; rfl
        have HD1 : Hid (∀ t, t = bs (Lib.itoa (x.length : Nat) ++ 58 :: (x ++ 59 :: R)) → Calls Tryz.prog 35 #[.string t, .int .u8 58] wr fun r w' => r = .returned (.tuple #[.int .i64 ((x.length : Nat) : Int), .int .i64 (((Lib.itoa (x.length : Nat)).length : Int) + 1)]) ∧ w' = wr) := fun t e => by
          subst e
          refine head_itoa x.length q2 58 (by decide) _ wr ?_
          simp only [List.length_append, List.length_cons]
          omega
        have HE1 : Hid (∀ k m : Nat, k = 1 → m = s'.size → s'.extract k m = bs (Lib.itoa (x.length : Nat) ++ 58 :: (x ++ 59 :: R))) := fun k m e1 e2 => extD_to hs1 e1 e2
        have HE2 : Hid (s'.extract (1 + ((Lib.itoa (x.length : Nat)).length + 1)) (1 + ((Lib.itoa (x.length : Nat)).length + 1) + x.length) = bs x) := by
          show _ = _
          rw [hs2]
          exact pl_ext (by
            rw [bs_data, ByteArray.data_extract, Array.toList_extract, List.extract_eq_take_drop, bs_data, List.drop_left' (by simp; omega)]
            rw [show 1 + ((Lib.itoa (x.length : Nat)).length + 1) + x.length - (1 + ((Lib.itoa (x.length : Nat)).length + 1)) = x.length by omega, List.take_left])
        have HE3 : Hid (∀ k m : Nat, k = 2 + ((Lib.itoa (x.length : Nat)).length + 1) + x.length → m = s'.size → s'.extract k m = bs R) := fun k m e1 e2 => extD_to hs4 (by rw [e1]; simp; omega) e2
        clear hs hs1 hs2 hs3 hs4 hot h59 h105 q1 q3 hx
        generalize bs x = X at *
        generalize (Lib.itoa (x.length : Nat)).length = ln at *
        generalize x.length = N at *
        have h0i : (0 : Int) < (s'.size : Int) := by omega
        have hN0i : (0 : Int) < (N : Int) := by omega
        have b0 : (1 : Int) ≤ (s'.size : Int) := by omega
        have b1 : (1 : Int) + ((ln : Int) + 1) ≤ (s'.size : Int) := by omega
        have b2 : (1 : Int) + ((ln : Int) + 1) + (N : Int) < (s'.size : Int) := by omega
        have b3 : (0 : Int) ≤ (1 : Int) + ((ln : Int) + 1) := by omega
        have b4 : (0 : Int) ≤ (1 : Int) + ((ln : Int) + 1) + (N : Int) := by omega
        have b5 : (2 : Int) + ((ln : Int) + 1) + (N : Int) ≤ (s'.size : Int) := by omega
        have b6 : ¬ ((s'.size : Int) - 1 - ((ln : Int) + 1) ≤ (N : Int)) := by omega
        have b7 : (1 : Int) + ((ln : Int) + 1) ≤ (1 : Int) + ((ln : Int) + 1) + (N : Int) := by omega
        have HSZ : Hid (s'.size = 1 + (ln + 1) + N + 1 + R.length) := hsz
        clear hsz
        go_upto_region 16 with (go_at_call 35; refine Calls.mono (HD1.out _ (HE1.out _ _ (by omega) (by omega))) ?_; rintro r w' ⟨rfl, hq⟩; have hq := hq.symm; subst hq)
        go_upto_region 20 with (fail)
        have hE2 := HE2.out
        have hA := below_alloc wr (.cells #[.int .i64 0, .int .i64 (N : Int), .string X] 68)
        have HROW : Hid (World.ownsRow (wr.alloc (.cells #[.int .i64 0, .int .i64 (N : Int), .string X] 68)) w.heap.size 68 3 (.slice va j vc) j ((L.take j).flatMap rop)) := own_step HRO.out hA
        have NC : Hid (∀ (k : Nat) (u : Value), [Value.int .i64 0, .int .i64 (N : Int), .string X][k]? = some u → (wr.alloc (.cells #[.int .i64 0, .int .i64 (N : Int), .string X] 68)).cell? ((⟨wr.heap.size, 0, none⟩ : Addr).add k) = some u) := rop_cell wr _ _ _
        have HLT : Hid (j ≤ 900000) := by show _ ≤ _; have := HLL.out; omega
        clear hA
        go_wp2_with (at_builtin; refine wpList_append_own_at _ rfl _ _ 64 rfl w.heap.size 68 i0 (.agg #[.int .i64 0, .int .i64 0, .string ⟨#[]⟩]) 3 32 Tryz.underlying64 hi hz0 hz1 hz2 rfl (by decide) _ _ _ rfl HROW.out ⟨wr.heap.size, 0, none⟩ 1 1 [.int .i64 0, .int .i64 (N : Int), .string X] rfl rfl NC.out (fun v hv => by simp only [List.mem_cons, List.not_mem_nil, or_false] at hv; rcases hv with rfl | rfl | rfl <;> rfl) (by have := HLT.out; unfold maxLen; omega) (by have := HLT.out; omega) (by have := HB.out.size; rw [World.size_alloc]; omega) ?_; intro v' w7 hown' hgrow _ hat; have HOWN : Hid (World.ownsRow w7 w.heap.size 68 3 v' (j + 1) ((L.take j).flatMap rop ++ [.int .i64 0, .int .i64 (N : Int), .string X])) := hown'; have HGR : Hid (World.grownBy (wr.alloc (.cells #[.int .i64 0, .int .i64 (N : Int), .string X] 68)) w7 (Value.slice va j vc).ownBlock) := hgrow; clear hown' hgrow hat)
        refine ⟨⟨_, rfl, j + 1, HJ.out, (HE3.out _ _ rfl rfl).trans (by rw [HRR.out]), ?_, ?_⟩, ?_⟩
        · unfold RO
          rw [HT.out, List.flatMap_append, List.length_append, List.length_take, Nat.min_eq_left (Nat.le_of_lt HJ.out)]
          have q := HOWN.out
          rw [← HO.out] at q
          simpa using q
        · exact (below_then HB.out (below_alloc _ _)).grown HGR.out (Nat.le_trans HB.out.size (below_alloc _ _).size) (fun k q => (World.ownsRow.lt HRO.out k q).1)
        · rw [HE3.out _ _ rfl rfl]
          show (bs R).size < s'.size
          rw [HSZ.out, Lib.size_eq, bs_data]
          omega
      · obtain ⟨A, hA⟩ : ∃ A : Nat, o.2.1 = (A : Int) := ⟨(o.2.1).toNat, by omega⟩
        obtain ⟨N, hN⟩ : ∃ N : Nat, o.2.2 = (N : Int) := ⟨(o.2.2).toNat, by omega⟩
        have HO : Hid (rop o = [.int .i64 (A : Int), .int .i64 (N : Int), .string ⟨#[]⟩]) := by
          show rop o = _
          unfold rop
          rw [if_neg (fun q => q q1), hA, hN]
        have hot : opT o = 99 :: (Lib.itoa A ++ 44 :: (Lib.itoa N ++ [59])) := by
          unfold opT
          rw [if_neg (fun q => q q1), hA, hN]
        rw [hot] at hs
        have hs1 : s' = bs ([99] ++ (Lib.itoa A ++ 44 :: (Lib.itoa N ++ 59 :: R))) := by rw [hs]; simp
        have hs2 : s' = bs ((99 :: (Lib.itoa A ++ [44])) ++ (Lib.itoa N ++ 59 :: R)) := by rw [hs]; simp
        have hs3 : s' = bs ((99 :: (Lib.itoa A ++ 44 :: (Lib.itoa N ++ [59]))) ++ R) := hs
        have hA9 : A ≤ 999999 := by omega
        have hN9 : N ≤ 999999 := by omega
        have hN0 : (0 : Int) < (N : Int) := by omega
        have hiA := itoa_len (A : Int) (by omega) (by omega)
        have hiN := itoa_len (N : Int) (by omega) (by omega)
        have hsz : s'.size = 1 + ((Lib.itoa A).length + 1) + ((Lib.itoa N).length + 1) + R.length := by
          rw [hs1, Lib.size_eq, bs_data]
          simp only [List.length_append, List.length_cons, List.length_nil]
          omega
        have h0 : 0 < s'.size := by omega
        have h99 : s'[0] = 99 := at_bs (A := []) hs1 rfl h0
        have h99i : ((s'[0]).toNat : Int) = 99 := by rw [h99]; rfl
        have HD1 : Hid (∀ t, t = bs (Lib.itoa A ++ 44 :: (Lib.itoa N ++ 59 :: R)) → Calls Tryz.prog 35 #[.string t, .int .u8 44] wr fun r w' => r = .returned (.tuple #[.int .i64 (A : Int), .int .i64 (((Lib.itoa A).length : Int) + 1)]) ∧ w' = wr) := fun t e => by
          subst e
          refine head_itoa A hA9 44 (by decide) _ wr ?_
          simp only [List.length_append, List.length_cons]
          omega
        have HD2 : Hid (∀ t, t = bs (Lib.itoa N ++ 59 :: R) → Calls Tryz.prog 35 #[.string t, .int .u8 59] wr fun r w' => r = .returned (.tuple #[.int .i64 (N : Int), .int .i64 (((Lib.itoa N).length : Int) + 1)]) ∧ w' = wr) := fun t e => by
          subst e
          exact head_itoa N hN9 59 (by decide) _ wr (by omega)
        have HE1 : Hid (∀ k m : Nat, k = 1 → m = s'.size → s'.extract k m = bs (Lib.itoa A ++ 44 :: (Lib.itoa N ++ 59 :: R))) := fun k m e1 e2 => extD_to hs1 e1 e2
        have HE2 : Hid (∀ k m : Nat, k = 1 + ((Lib.itoa A).length + 1) → m = s'.size → s'.extract k m = bs (Lib.itoa N ++ 59 :: R)) := fun k m e1 e2 => extD_to hs2 (by rw [e1]; simp; omega) e2
        have HE3 : Hid (∀ k m : Nat, k = 1 + ((Lib.itoa A).length + 1) + ((Lib.itoa N).length + 1) → m = s'.size → s'.extract k m = bs R) := fun k m e1 e2 => extD_to hs3 (by rw [e1]; simp; omega) e2
        clear hs hs1 hs2 hs3 hot h99 q1 q2 q3 q4 q5 hA hN
        generalize (Lib.itoa A).length = la at *
        generalize (Lib.itoa N).length = ln at *
        have h0i : (0 : Int) < (s'.size : Int) := by omega
        have b0 : (1 : Int) ≤ (s'.size : Int) := by omega
        have b1 : (1 : Int) + ((la : Int) + 1) ≤ (s'.size : Int) := by omega
        have b2 : (1 : Int) + ((la : Int) + 1) + ((ln : Int) + 1) ≤ (s'.size : Int) := by omega
        have b3 : (0 : Int) ≤ (1 : Int) + ((la : Int) + 1) := by omega
        have b4 : (0 : Int) ≤ (1 : Int) + ((la : Int) + 1) + ((ln : Int) + 1) := by omega
        have HSZ : Hid (s'.size = 1 + (la + 1) + (ln + 1) + R.length) := hsz
        clear hsz
        go_upto_region 9 with (go_at_call 35; refine Calls.mono (HD1.out _ (HE1.out _ _ (by omega) (by omega))) ?_; rintro r w' ⟨rfl, hq⟩; have hq := hq.symm; subst hq)
        go_upto_region 12 with (go_at_call 35; refine Calls.mono (HD2.out _ (HE2.out _ _ (by omega) (by omega))) ?_; rintro r w' ⟨rfl, hq⟩; have hq := hq.symm; subst hq)
        have hA := below_alloc wr (.cells #[.int .i64 (A : Int), .int .i64 (N : Int), .string ⟨#[]⟩] 68)
        have HROW : Hid (World.ownsRow (wr.alloc (.cells #[.int .i64 (A : Int), .int .i64 (N : Int), .string ⟨#[]⟩] 68)) w.heap.size 68 3 (.slice va j vc) j ((L.take j).flatMap rop)) := own_step HRO.out hA
        have NC : Hid (∀ (k : Nat) (u : Value), [Value.int .i64 (A : Int), .int .i64 (N : Int), .string ⟨#[]⟩][k]? = some u → (wr.alloc (.cells #[.int .i64 (A : Int), .int .i64 (N : Int), .string ⟨#[]⟩] 68)).cell? ((⟨wr.heap.size, 0, none⟩ : Addr).add k) = some u) := rop_cell wr _ _ _
        have HLT : Hid (j ≤ 900000) := by show _ ≤ _; have := HLL.out; omega
        clear hA
        go_wp2_with (at_builtin; refine wpList_append_own_at _ rfl _ _ 64 rfl w.heap.size 68 i0 (.agg #[.int .i64 0, .int .i64 0, .string ⟨#[]⟩]) 3 32 Tryz.underlying64 hi hz0 hz1 hz2 rfl (by decide) _ _ _ rfl HROW.out ⟨wr.heap.size, 0, none⟩ 1 1 [.int .i64 (A : Int), .int .i64 (N : Int), .string ⟨#[]⟩] rfl rfl NC.out (fun v hv => by simp only [List.mem_cons, List.not_mem_nil, or_false] at hv; rcases hv with rfl | rfl | rfl <;> rfl) (by have := HLT.out; unfold maxLen; omega) (by have := HLT.out; omega) (by have := HB.out.size; rw [World.size_alloc]; omega) ?_; intro v' w7 hown' hgrow _ hat; have HOWN : Hid (World.ownsRow w7 w.heap.size 68 3 v' (j + 1) ((L.take j).flatMap rop ++ [.int .i64 (A : Int), .int .i64 (N : Int), .string ⟨#[]⟩])) := hown'; have HGR : Hid (World.grownBy (wr.alloc (.cells #[.int .i64 (A : Int), .int .i64 (N : Int), .string ⟨#[]⟩] 68)) w7 (Value.slice va j vc).ownBlock) := hgrow; clear hown' hgrow hat)
        refine ⟨⟨_, rfl, j + 1, HJ.out, (HE3.out _ _ rfl rfl).trans (by rw [HRR.out]), ?_, ?_⟩, ?_⟩
        · unfold RO
          rw [HT.out, List.flatMap_append, List.length_append, List.length_take, Nat.min_eq_left (Nat.le_of_lt HJ.out)]
          have q := HOWN.out
          rw [← HO.out] at q
          simpa using q
        · exact (below_then HB.out (below_alloc _ _)).grown HGR.out (Nat.le_trans HB.out.size (below_alloc _ _).size) (fun k q => (World.ownsRow.lt HRO.out k q).1)
        · rw [HE3.out _ _ rfl rfl]
          show (bs R).size < s'.size
          rw [HSZ.out, Lib.size_eq, bs_data]
          omega
    · have hjl : j = L.length := by omega
      subst hjl
      rw [List.drop_length, List.flatMap_nil] at hs
      rw [List.take_length] at hro
      have hs0 : (s'.size : Int) ≤ 0 := by rw [hs]; decide
      have HRO : Hid (RO w.heap.size wr u4 L) := hro
      have HB : Hid (RowKit.Below w.heap.size w wr) := hb
      clear hro hb hs
      go_wp2
      go_ret2
      exact ⟨_, rfl, HRO.out, HB.out⟩
end Go.Proofs.YtbocknocmggcpaaGreatDoor

/- The document's ApplyOf on ops that were written. -/
namespace Go.Proofs.YtbocknocmggcpaaGreatDoor
open Go Go.RowKit Go.Sort Go.Maps Cal Pk
attribute [local go_sem] Oper.semAt_some

theorem rop_len (o : Opq) : (rop o).length = 3 := by unfold rop; split <;> rfl
theorem flat_rop (L : List Opq) : ∀ (i k : Nat) (h : i < L.length), k < 3 → (L.flatMap rop)[i * 3 + k]? = (rop L[i])[k]? := by
  induction L with
  | nil => intro i k h; simp at h
  | cons o L ih =>
    intro i k h hk
    rw [List.flatMap_cons]
    cases i with
    | zero => rw [Nat.zero_mul, Nat.zero_add, List.getElem?_append_left (by rw [rop_len]; exact hk)]; rfl
    | succ i =>
      rw [List.getElem?_append_right (by rw [rop_len]; omega), rop_len, show (i + 1) * 3 + k - 3 = i * 3 + k by omega]
      exact ih i k (by simpa using h) hk
theorem RO.cells {base : Nat} {W : World} {a : Option Addr} {n c : Nat} {L : List Opq} (h : RO base W (.slice a n c) L) {j : Nat} (hj : j < L.length) :
    ∃ g, a = some ⟨g, 0, none⟩ ∧ base ≤ g ∧ g < W.heap.size ∧ ∀ (x y z : Value), rop L[j] = [x, y, z] → W.cell? ⟨g, j * 3, none⟩ = some x ∧ W.cell? ⟨g, j * 3 + 1, none⟩ = some y ∧ W.cell? ⟨g, j * 3 + 2, none⟩ = some z := by
  rcases h.2 with ⟨_, h0⟩ | ⟨g, cap, cur, hv, hb, hg, hcap, hmax, hsz, htake⟩
  · omega
  · injection hv with e1 _ _
    refine ⟨g, e1, hb, (Array.getElem?_eq_some_iff.1 hg).1, fun x y z hr => ?_⟩
    have key : ∀ k, k < 3 → W.cell? ⟨g, j * 3 + k, none⟩ = ([x, y, z] : List Value)[k]? := fun k hk => by
      have q := flat_rop L j k hj hk
      rw [← htake, List.getElem?_take_of_lt (by omega), Array.getElem?_toList, hr] at q
      simp only [World.cell?, hg]
      simpa using q
    exact ⟨key 0 (by omega), key 1 (by omega), key 2 (by omega)⟩
theorem RO.step {base : Nat} {W W' : World} {v : Value} {L : List Opq} (h : RO base W v L) (hb : Below W.heap.size W W') : RO base W' v L := own_step h hb

set_option maxHeartbeats 4000000 in
set_option maxRecDepth 100000 in
theorem applyOf_any (a : ByteArray) (L : List Opq) (b : List UInt8) (h : ∀ o ∈ L, OpOk o) (hp : prts a.data.toList L = some b) (ha : a.size ≤ 10000) (hb : b.length ≤ 10000) (hl : (L.flatMap opT).length ≤ 900000) (w : World) :
    Calls Tryz.prog 8 #[.string a, .string (bs (L.flatMap opT))] w fun r w' => r = .returned (.tuple #[.string (bs b), .int .i64 0]) ∧ RowKit.Below w.heap.size w w' := by
  have OO : Hid (Calls _ _ _ _ _) := opsOf_any L h hl w
  have HOK : Hid (∀ o ∈ L, OpOk o) := h
  have hLl := flatD_len L
  have hL1 : (L.length : Int) ≤ 1000000 := by omega
  have HP : Hid (prts a.data.toList L = some b) := hp
  have HBL : Hid (b.length ≤ 10000) := hb
  have hai : (a.size : Int) ≤ 10000 := by omega
  generalize bs (L.flatMap opT) = S at OO
  clear h hp hl hLl hb
  go_enter Tryz.func8, Tryz.ntmps8
  go_upto_region 4 with (go_at_call 24; refine Calls.mono OO.out ?_; rintro r w1 ⟨v, rfl, hro, hb1⟩; obtain ⟨va, vc, rfl⟩ := hro.form; have HRO : Hid (RO w.heap.size w1 (.slice va L.length vc) L) := hro; have HB1 : Hid (RowKit.Below w.heap.size w w1) := hb1; clear hro hb1)
  clear OO
  go_wp2
  go_loopw [8, 9, 10] (fun ov iv _ wr => ∃ (m : Nat) (x : ByteArray), m ≤ L.length ∧ iv = .int .i64 m ∧ ov = .string x ∧ Hid (∃ y, prts a.data.toList (L.drop m) = some y ∧ x.data.toList ++ y = b) ∧ Hid (RowKit.Below w1.heap.size w1 wr)) (fun _ iv _ _ => L.length - (intOf iv).toNat)
  case atStart => exact ⟨0, ⟨#[]⟩, Nat.zero_le _, rfl, rfl, ⟨b, by rw [List.drop_zero]; exact HP.out, rfl⟩, Below.refl _ _⟩
  case round =>
    obtain ⟨m, x, hm, rfl, rfl, HY, HW⟩ := hrel
    by_cases hlt : m < L.length
    · obtain ⟨y, hy, hxy⟩ := HY.out
      rw [List.drop_eq_getElem_cons hlt] at hy
      obtain ⟨p, z, h1, h2, h3⟩ := prts_cons hy
      have hok := HOK.out _ (List.getElem_mem hlt)
      obtain ⟨g, rfl, hg1, hg2, hcell⟩ := (HRO.out.step HW.out).cells hlt
      have HN : Hid (∃ y, prts a.data.toList (L.drop (m + 1)) = some y ∧ (x ++ bs p).data.toList ++ y = b) := ⟨z, h2, by rw [← hxy, h3]; simp [bs_data]⟩
      have hxp : x.size + (bs p).size ≤ 10000 := by
        have q := HBL.out
        rw [← hxy, h3] at q
        simp only [List.length_append] at q
        rw [Lib.size_eq, Lib.size_eq, bs_data]
        omega
      have g1 : (0 : Int) ≤ (m : Int) := by omega
      have g2 : (m : Int) < (L.length : Int) := by omega
      unfold ofO at h1
      rcases hok with ⟨q1, q2, q3⟩ | ⟨q1, q2, q3, q4, q5⟩
      · have hr : rop L[m] = [.int .i64 0, .int .i64 ((L[m]).1.length : Int), .string (bs (L[m]).1)] := by unfold rop; rw [if_pos q1]
        obtain ⟨c0, c1, c2⟩ := hcell _ _ _ hr
        rw [if_pos q1] at h1
        have hpe : p = (L[m]).1 := (Option.some.inj h1).symm
        rw [← hpe] at c2 q1
        have hne : (bs p).toList.isEmpty = false := by
          rw [ByteArray.toList_eq, bs_data, List.isEmpty_eq_false_iff]
          exact q1
        have hsm : ¬ (9223372036854775807 < x.size + (bs p).size) := by omega
        have hxi : ((bs p).size : Int) ≤ 10000 - (x.size : Int) := by omega
        clear h1 h2 h3 hy hxy hcell hr hpe q1 q2 q3 HY c0 c1
        generalize bs p = P at *
        go_wp2
        refine ⟨⟨m + 1, x ++ P, hlt, by go_num, rfl, HN.out, HW.out⟩, ?_⟩
        simp [intOf]; omega
      · obtain ⟨A, hA⟩ : ∃ A : Nat, (L[m]).2.1 = (A : Int) := ⟨((L[m]).2.1).toNat, by omega⟩
        obtain ⟨N, hN⟩ : ∃ N : Nat, (L[m]).2.2 = (N : Int) := ⟨((L[m]).2.2).toNat, by omega⟩
        have hr : rop L[m] = [.int .i64 (A : Int), .int .i64 (N : Int), .string ⟨#[]⟩] := by unfold rop; rw [if_neg (fun q => q q1), hA, hN]
        obtain ⟨c0, c1, c2⟩ := hcell _ _ _ hr
        rw [if_neg (fun q => q q1), hA, hN] at h1
        have hle : ¬ ((a.data.toList.length : Int) - (A : Int) < (N : Int)) := fun q => by rw [if_pos q] at h1; cases h1
        rw [if_neg hle] at h1
        have hpe : (a.data.toList.drop A).take N = p := Option.some.inj h1
        have hsl : a.data.toList.length = a.size := (Lib.size_eq a).symm
        rw [hsl] at hle
        have HE : Hid (a.extract A (A + N) = bs p) := pl_ext (by
          rw [bs_data, ByteArray.data_extract, Array.toList_extract, List.extract_eq_take_drop, ← hpe]
          congr 1
          omega)
        rw [← HE.out] at HN hxp
        have b1 : (N : Int) ≤ (a.size : Int) - (A : Int) := by omega
        have b2 : (A : Int) ≤ (a.size : Int) := by omega
        have b3 : (A : Int) + (N : Int) ≤ (a.size : Int) := by omega
        have b4 : (0 : Int) ≤ (A : Int) := by omega
        have b5 : (0 : Int) ≤ (A : Int) + (N : Int) := by omega
        have b6 : (A : Int) ≤ (A : Int) + (N : Int) := by omega
        have hsm : ¬ (9223372036854775807 < x.size + (a.extract A (A + N)).size) := by omega
        have hxi : ((a.extract A (A + N)).size : Int) ≤ 10000 - (x.size : Int) := by omega
        have HLE : Hid (_) := hle
        clear h1 h2 h3 hy hxy hcell hr hpe q1 q2 q3 q4 q5 HY hA hN hle hsl HE
        go_upto_region 12 with (fail)
        go_region
        have d0 : wr.drew.cell? ⟨g, m * 3, none⟩ = some (.int .i64 (A : Int)) := c0
        have d1 : wr.drew.cell? ⟨g, m * 3 + 1, none⟩ = some (.int .i64 (N : Int)) := c1
        go_upto_region 14 with (fail)
        go_region
        have HW2 : Hid (RowKit.Below w1.heap.size w1 wr.drew.drew) := below_then HW.out (below_then (drew_below _) (drew_below _))
        generalize wr.drew.drew = wz at HW2 ⊢
        generalize a.extract A (A + N) = P at HN hxp hsm hxi ⊢
        go_wp2
        refine ⟨⟨m + 1, x ++ P, hlt, by go_num, rfl, HN.out, HW2.out⟩, ?_⟩
        simp [intOf]; omega
    · have hml : m = L.length := by omega
      obtain ⟨y, hy, hxy⟩ := HY.out
      rw [hml, List.drop_length] at hy
      have hy' : y = [] := (Option.some.inj hy).symm
      rw [hy', List.append_nil] at hxy
      obtain rfl : x = bs b := pl_ext (by rw [bs_data]; exact hxy)
      have g2 : (L.length : Int) ≤ (m : Int) := by omega
      clear hy hy' hxy HY
      go_wp2
      go_ret2
      exact ⟨rfl, below_then HB1.out HW.out⟩
end Go.Proofs.YtbocknocmggcpaaGreatDoor
