/- Package pack's cutOp, op.of and Apply, of any texts. -/
import Derived.Test.YtbocknocmggcpaaGreatDoorPkO
namespace Go.Proofs.YtbocknocmggcpaaGreatDoor
open Go Go.RowKit Go.Maps Cal Pk
attribute [local go_sem] Oper.semAt_some

theorem CoR.form {q : Option (Opq × List UInt8)} {r : Ending} (h : CoR q r) : ∃ (x : ByteArray) (a n : Int) (y : ByteArray) (b : Bool), r = .returned (.tuple #[.agg #[.string x, .int .i64 a, .int .i64 n], .string y, .bool b]) := by
  rcases h with ⟨_, x, a, n, y, e⟩ | ⟨o, b, _, e⟩
  · exact ⟨x, a, n, y, false, e⟩
  · exact ⟨_, _, _, _, true, e⟩
theorem CsR.form {en : UInt8} {l : List UInt8} {r : Ending} (h : CsR en l r) : ∃ (x y : ByteArray) (b : Bool), r = .returned (.tuple #[.string x, .string y, .bool b]) := by
  rcases h with ⟨_, x, y, e⟩ | ⟨x, b, _, e⟩
  · exact ⟨x, y, false, e⟩
  · exact ⟨_, _, true, e⟩

theorem cs_co {r : List UInt8} {x y : ByteArray} {b : Bool} (h : CsR 59 r (.returned (.tuple #[.string x, .string y, .bool b]))) : CoR (cutI r) (.returned (.tuple #[.agg #[.string x, .int .i64 0, .int .i64 0], .string y, .bool (b && !x.toList.isEmpty)])) := by
  unfold cutI
  rcases h with ⟨hn, x', y', e⟩ | ⟨x', b', hs, e⟩
  · cases e
    rw [hn]
    exact .inl ⟨rfl, _, _, _, _, rfl⟩
  · cases e
    rw [hs]
    dsimp only
    by_cases hx : x' = []
    · subst hx
      exact .inl ⟨if_pos rfl, _, _, _, _, by rw [ByteArray.toList_eq, bs_data]; rfl⟩
    · have : (bs x').toList.isEmpty = false := by rw [ByteArray.toList_eq, bs_data, List.isEmpty_eq_false_iff]; exact hx
      exact .inr ⟨(x', 0, 0), b', if_neg hx, by rw [this]; rfl⟩

set_option maxHeartbeats 2000000 in
set_option maxRecDepth 100000 in
theorem cutOp_any (l : List UInt8) (sn : Nat → Addr) (w : World) (g : GlobA sn w) (hl : l.length ≤ 2000000) :
    Calls Tryz.prog 40 #[.string (bs l)] w fun r w' => CoR (cutO l) r ∧ Below w.heap.size w w' := by
  have hA := below_alloc w (.cells #[.string ⟨#[]⟩, .int .i64 0, .int .i64 0] 59)
  have hK : (w.alloc (.cells #[.string ⟨#[]⟩, .int .i64 0, .int .i64 0] 59)).heap[w.heap.size]? = some (.cells #[.string ⟨#[]⟩, .int .i64 0, .int .i64 0] 59 (0, 0)) := block_at _ rfl
  have HK : Hid (_) := hK
  by_cases h1 : l[0]? = some 99
  · obtain ⟨r, rfl⟩ : ∃ r, l = 99 :: r := by
      cases l with
      | nil => simp at h1
      | cons x r => simp at h1; exact ⟨r, by rw [h1]⟩
    rw [cutO_c, if_pos rfl]
    have P1 : Hid (∀ W, _) := fun W => pcp_yes r 99 W
    have CC : Hid (∀ W, Below w.heap.size w W → _) := fun W hW => cutCopy_any r sn W (g.step hW) (by simp at hl; omega)
    clear h1 g hl hK
    generalize cutC r = oc at CC ⊢
    generalize bs (99 :: r) = s at P1 ⊢
    generalize bs r = sr at P1 CC
    go_enter Tryz.func40, Tryz.ntmps40
    generalize hw0 : w.alloc (.cells #[.string ⟨#[]⟩, .int .i64 0, .int .i64 0] 59) = w0 at *
    go_upto_region 3 with (go_at_call 56; refine Calls.mono (P1.out _) ?_; rintro r w1 ⟨rfl, rfl⟩)
    go_wp2_with (go_at_call 59; refine Calls.mono (CC.out _ hA) ?_; rintro r w2 ⟨hco, hb2⟩; obtain ⟨x, a, n, y, b, rfl⟩ := hco.form; have HCO : Hid (_) := hco; clear hco; have hk3 := (hb2.block w.heap.size (by rw [← hw0, World.size_alloc]; omega)).trans HK.out; obtain ⟨d0, d1, d2⟩ := p3_cells hk3; have f0 := p3_frozen hk3 0; have f1 := p3_frozen hk3 1; have f2 := p3_frozen hk3 2)
    obtain ⟨c0, c1, c2⟩ := p3_cells (p3_put (.string x) (.int .i64 a) (.int .i64 n) hk3)
    refine bodyPost_ret (v := .tuple #[.agg #[.string x, .int .i64 a, .int .i64 n], .string y, .bool b]) (by simp [results, Tryz.f40, go_sem, c0, c1, c2]) rfl ⟨HCO.out, p3_below _ _ _ (below_then hA hb2) (Nat.le_refl _)⟩
  · have P1 : Hid (∀ W, _) := fun W => pcp_no l 99 W h1
    by_cases h2 : l[0]? = some 105
    · obtain ⟨r, rfl⟩ : ∃ r, l = 105 :: r := by
        cases l with
        | nil => simp at h2
        | cons x r => simp at h2; exact ⟨r, by rw [h2]⟩
      rw [cutO_c, if_neg (by decide), if_pos rfl]
      have P2 : Hid (∀ W, _) := fun W => pcp_yes r 105 W
      have CS : Hid (∀ W, Below w.heap.size w W → _) := fun W hW => cutSized_any r 59 sn W (g.step hW) (by simp at hl; omega)
      have CO : Hid (∀ x y b, CsR 59 r (.returned (.tuple #[.string x, .string y, .bool b])) → _) := fun x y b h => cs_co h
      clear h1 h2 g hl hK
      generalize bs (105 :: r) = s at P1 P2 ⊢
      generalize bs r = sr at P2 CS
      generalize cutI r = oc at CO ⊢
      go_enter Tryz.func40, Tryz.ntmps40
      generalize hw0 : w.alloc (.cells #[.string ⟨#[]⟩, .int .i64 0, .int .i64 0] 59) = w0 at *
      go_upto_region 4 with (go_at_call 56; refine Calls.mono (P1.out _) ?_; rintro r w1 ⟨x1, rfl, hq⟩; subst hq)
      go_upto_region 6 with (go_at_call 56; refine Calls.mono (P2.out _) ?_; rintro r w1 ⟨rfl, hq⟩; subst hq)
      go_upto_region 7 with (go_at_call 57; refine Calls.mono (CS.out _ hA) ?_; rintro r w2 ⟨hcs, hb2⟩; obtain ⟨x, y, b, rfl⟩ := hcs.form; have HCO : Hid (_) := CO.out x y b hcs; clear hcs)
      have hk3 := (hb2.block w.heap.size (by rw [← hw0, World.size_alloc]; omega)).trans HK.out
      obtain ⟨d0, d1, d2⟩ := p3_cells hk3
      have f0 := p3_frozen hk3 0
      have f1 := p3_frozen hk3 1
      have f2 := p3_frozen hk3 2
      have hx : b = false ∨ (b = true ∧ x.toList.isEmpty = true) ∨ (b = true ∧ x.toList.isEmpty = false) := by
        cases b <;> cases x.toList.isEmpty <;> simp
      clear CO CS P1 P2
      rcases hx with rfl | ⟨rfl, hx⟩ | ⟨rfl, hx⟩
      all_goals
        go_wp2
        obtain ⟨c0, c1, c2⟩ := p3_cells (p3_put (.string x) (.int .i64 0) (.int .i64 0) hk3)
        refine bodyPost_ret (v := .tuple #[.agg #[.string x, .int .i64 0, .int .i64 0], .string y, .bool _]) (by simp [results, Tryz.f40, go_sem, c0, c1, c2]; rfl) rfl ⟨?_, p3_below _ _ _ (below_then hA hb2) (Nat.le_refl _)⟩
        have hh := HCO.out
        first | (rw [hx] at hh; exact hh) | exact hh
    · have hc2 : cutO l = none := by
        cases l with
        | nil => rfl
        | cons x r => rw [cutO_c, if_neg (fun q => h1 (by simp [q])), if_neg (fun q => h2 (by simp [q]))]
      rw [hc2]
      have P2 : Hid (∀ W, _) := fun W => pcp_no l 105 W h2
      clear hc2 h1 h2 g hl hK
      generalize bs l = s at P1 P2 ⊢
      go_enter Tryz.func40, Tryz.ntmps40
      generalize hw0 : w.alloc (.cells #[.string ⟨#[]⟩, .int .i64 0, .int .i64 0] 59) = w0 at *
      obtain ⟨d0, d1, d2⟩ := p3_cells HK.out
      have f0 := p3_frozen HK.out 0
      have f1 := p3_frozen HK.out 1
      have f2 := p3_frozen HK.out 2
      go_upto_region 4 with (go_at_call 56; refine Calls.mono (P1.out _) ?_; rintro r w1 ⟨x1, rfl, hq⟩; subst hq)
      go_wp2_with (go_at_call 56; refine Calls.mono (P2.out _) ?_; rintro r w2 ⟨x2, rfl, hq⟩; subst hq)
      obtain ⟨c0, c1, c2⟩ := p3_cells (p3_put (.string ⟨#[]⟩) (.int .i64 0) (.int .i64 0) HK.out)
      refine bodyPost_ret (v := .tuple #[.agg #[.string ⟨#[]⟩, .int .i64 0, .int .i64 0], .string ⟨#[]⟩, .bool false]) (by simp [results, Tryz.f40, go_sem, c0, c1, c2]) rfl ⟨.inl ⟨rfl, _, _, _, _, rfl⟩, p3_below _ _ _ hA (Nat.le_refl _)⟩

set_option maxHeartbeats 1000000 in
theorem opOf_any (o : Opq) (a : List UInt8) (w : World) (h1 : 0 ≤ o.2.1) (h2 : o.2.1 ≤ 9223372036854775807) (h3 : 0 ≤ o.2.2) (h4 : o.2.2 ≤ 9223372036854775807) (ha : a.length ≤ 2000000) :
    Calls Tryz.prog 41 #[opV o, .string (bs a)] w fun r w' => r = .returned (.tuple #[.string (bs ((ofO a o).getD [])), .bool (ofO a o).isSome]) ∧ Below w.heap.size w w' := by
  obtain ⟨own, at_, size⟩ := o
  dsimp only at h1 h2 h3 h4
  have hA := below_alloc w (.cells #[.string (bs own), .int .i64 at_, .int .i64 size] 59)
  have hK : (w.alloc (.cells #[.string (bs own), .int .i64 at_, .int .i64 size] 59)).heap[w.heap.size]? = some (.cells #[.string (bs own), .int .i64 at_, .int .i64 size] 59 (0, 0)) := block_at _ rfl
  obtain ⟨c0, c1, c2⟩ := p3_cells hK
  clear hK
  have hsa : (bs a).size = a.length := by rw [Lib.size_eq, bs_data]
  unfold opV ofO
  dsimp only
  by_cases ho : own = []
  · subst ho
    rw [if_neg (fun q => q rfl)]
    rw [show bs [] = (⟨#[]⟩ : ByteArray) from rfl] at hA c0 c1 c2 ⊢
    by_cases hb : (a.length : Int) - at_ < size
    · rw [if_pos hb]
      have hb' : ((bs a).size : Int) - at_ < size := by omega
      have k1 : -9223372036854775808 ≤ ((bs a).size : Int) - at_ := by omega
      have k2 : ((bs a).size : Int) - at_ ≤ 9223372036854775807 := by omega
      clear hb hsa
      generalize bs a = sa at *
      go_enter Tryz.func41, Tryz.ntmps41
      go_wp2
      go_ret2
      exact ⟨rfl, hA⟩
    · rw [if_neg hb]
      have hb' : size ≤ ((bs a).size : Int) - at_ := by omega
      obtain ⟨i, rfl⟩ : ∃ i : Nat, at_ = i := ⟨at_.toNat, by omega⟩
      obtain ⟨n, rfl⟩ : ∃ i : Nat, size = i := ⟨size.toNat, by omega⟩
      have e1 : (bs a).extract i (i + n) = bs ((a.drop i).take n) := pl_ext (by rw [bs_data]; simp [bs_data])
      have k1 : -9223372036854775808 ≤ ((bs a).size : Int) - i := by omega
      have k2 : ((bs a).size : Int) - i ≤ 9223372036854775807 := by omega
      have k3 : (i : Int) + n ≤ ((bs a).size : Int) := by omega
      have k4 : (i : Int) + n ≤ 9223372036854775807 := by omega
      have k5 : -9223372036854775808 ≤ (i : Int) + n := by omega
      have k6 : (i : Int) ≤ (i : Int) + n := by omega
      have k7 : ((i : Int) + n).toNat = i + n := by omega
      have E1 : Hid (_) := e1
      dsimp only [Option.getD, Option.isSome]
      rw [Int.toNat_natCast, Int.toNat_natCast]
      clear hb hsa e1
      generalize bs ((a.drop i).take n) = st at E1 ⊢
      generalize bs a = sa at *
      go_enter Tryz.func41, Tryz.ntmps41
      go_wp2
      go_ret2
      exact ⟨by simp [E1.out], hA⟩
  · rw [if_pos ho]
    have hoe : (bs own).toList.isEmpty = false := by rw [ByteArray.toList_eq, bs_data, List.isEmpty_eq_false_iff]; exact ho
    dsimp only [Option.getD, Option.isSome]
    clear hsa ho
    generalize bs own = so at *
    generalize bs a = sa at *
    go_enter Tryz.func41, Tryz.ntmps41
    go_wp2
    go_ret2
    exact ⟨rfl, hA⟩

/-- an error's value: none, the text's, the bounds' -/
def apE (s : Nat → Addr) (k : Nat) : Value := if k = 0 then .nilIface else .iface 173 (.pointer (some (s (k - 1))))
/-- how long a text is -/
def strLenP : Value → Nat
  | .string s => s.size
  | _ => 0
theorem cutO_bd {l b : List UInt8} {o : Opq} (h : cutO l = some (o, b)) : 0 ≤ o.2.1 ∧ o.2.1 ≤ 9223372036854775807 ∧ 0 ≤ o.2.2 ∧ o.2.2 ≤ 9223372036854775807 ∧ o.1.length ≤ l.length := by
  cases l with
  | nil => cases h
  | cons x r =>
    rw [cutO_c] at h
    split at h
    · unfold cutC at h
      cases hc : ct 44 r with
      | none => rw [hc] at h; cases h
      | some p =>
        rw [hc] at h
        dsimp only at h
        cases hd : ct 59 p.2 with
        | none => rw [hd] at h; cases h
        | some q =>
          rw [hd] at h
          dsimp only at h
          cases h3 : numA p.1 with
          | none => rw [h3] at h; cases h
          | some n3 =>
            cases h4 : numA q.1 with
            | none => rw [h3, h4] at h; cases h
            | some n4 =>
              rw [h3, h4] at h
              dsimp only at h
              split at h
              · cases h
                exact ⟨(numA_bd h3).1, (numA_bd h3).2, (numA_bd h4).1, (numA_bd h4).2, Nat.zero_le _⟩
              · cases h
    · split at h
      · unfold cutI at h
        cases hs : cutS 59 r with
        | none => rw [hs] at h; cases h
        | some p =>
          have := cutS_len (x := p.1) (b := p.2) hs
          rw [hs] at h
          dsimp only at h
          split at h
          · cases h
          · cases h
            refine ⟨Int.le_refl _, by dsimp only; omega, Int.le_refl _, by dsimp only; omega, ?_⟩
            rw [List.length_cons]
            dsimp only
            omega
      · cases h
theorem stp_len (a : List UInt8) (q : List UInt8 × Bool) (o : Opq) (h : q.1.length ≤ 10000) : (stp a q o).1.length ≤ 10000 := by
  unfold stp
  split
  · exact h
  · split
    · rename_i hh; rw [List.length_append]; exact hh.2
    · exact h
theorem ofO_len {a : List UInt8} {o : Opq} {p : List UInt8} (h : ofO a o = some p) : p.length ≤ o.1.length + a.length := by
  unfold ofO at h
  split at h
  · cases h; omega
  · split at h
    · cases h
    · cases h
      rw [List.length_take, List.length_drop]
      omega

set_option maxHeartbeats 2000000 in
set_option maxRecDepth 100000 in
theorem apply_any (a d : List UInt8) (sn : Nat → Addr) (w : World) (g : GlobA sn w) (ha : a.length ≤ 2000000) (hd : d.length ≤ 2000000) :
    Calls Tryz.prog 15 #[.string (bs a), .string (bs d)] w fun r w' => r = .returned (.tuple #[.string (bs (apK a d).2), apE sn (apK a d).1]) ∧ Below w.heap.size w w' := by
  have hA := below_alloc w (.cells #[.pointer none, .slice none 0 0] 50)
  have PB0 : Hid (PB w [] (w.alloc (.cells #[.pointer none, .slice none 0 0] 50))) := PB.new w
  have HG : Hid (GlobA sn w) := g
  have HA : Hid (a.length ≤ 2000000) := ha
  clear g
  obtain ⟨R, hR⟩ : ∃ R, apK a d = R := ⟨_, rfl⟩
  rw [hR]
  have HR : Hid (fin a ([], true) d = R) := hR
  clear hR
  go_enter Tryz.func15, Tryz.ntmps15
  go_upto_region 3 with (fail)
  generalize w.alloc (.cells #[.pointer none, .slice none 0 0] 50) = w0 at PB0 hA ⊢
  go_loopw [1, 7] (fun dv bv wr => ∃ (l acc : List UInt8) (bb : Bool), dv = .string (bs l) ∧ bv = .bool bb ∧ Hid (l.length ≤ 2000000) ∧ Hid (PB w acc wr) ∧ Hid (acc.length ≤ 10000) ∧ Hid (fin a (acc, bb) l = R)) (fun dv _ _ => strLenP dv)
  case atStart => exact ⟨d, [], true, rfl, rfl, hd, PB0.out, by show (0 : Nat) ≤ _; omega, HR.out⟩
  case round =>
    obtain ⟨l, acc, bb, rfl, rfl, HL, HP, HAC, HF⟩ := hrel
    clear hA PB0 hd ha HR
    by_cases hl : l = []
    · subst hl
      rw [show bs [] = (⟨#[]⟩ : ByteArray) from rfl]
      cases bb with
      | false =>
        have HK : Hid (R = (2, [])) := HF.out.symm
        have hB := (HG.out.step HP.out.1).bound
        have HB : Hid (Below w.heap.size w wr) := HP.out.1
        clear HF HP HAC HL
        go_wp2
        go_quiet (fail)
        go_wp2
        go_ret2
        exact ⟨by rw [HK.out]; rfl, below_then HB.out (pl_drew _ _)⟩
      | true =>
        have HK : Hid (R = (0, acc)) := HF.out.symm
        have ST : Hid (Calls _ _ _ _ _) := pstring w acc wr HP.out
        clear HF HP HAC HL
        go_wp2_with (go_at_call 23; refine Calls.mono ST.out ?_; rintro r w5 ⟨rfl, hb5⟩)
        go_ret2
        exact ⟨by rw [HK.out]; rfl, hb5⟩
    · have hle : (bs l).toList.isEmpty = false := by rw [ByteArray.toList_eq, bs_data, List.isEmpty_eq_false_iff]; exact hl
      have CO := cutOp_any l sn wr (HG.out.step HP.out.1) HL.out
      cases hc : cutO l with
      | none =>
        rw [hc] at CO
        have CN : Hid (Calls Tryz.prog 40 #[.string (bs l)] wr fun r w' => (∃ x xa xn y, r = .returned (.tuple #[.agg #[.string x, .int .i64 xa, .int .i64 xn], .string y, .bool false])) ∧ Below wr.heap.size wr w') := by
          refine Calls.mono CO ?_
          rintro r w2 ⟨⟨_, x, xa, xn, y, rfl⟩ | ⟨o, b, q, _⟩, hb2⟩
          · exact ⟨⟨_, _, _, _, rfl⟩, hb2⟩
          · cases q
        have HK : Hid (R = (1, [])) := by show _ = _; rw [← HF.out]; exact fin_no a _ hl hc
        have HB : Hid (Below w.heap.size w wr) := HP.out.1
        have HT : Hid (∀ W, Below wr.heap.size wr W → _) := fun W hW => ((HG.out.step HB.out).step hW).text
        clear CO HF HP HAC HL hc hl
        generalize bs l = s at CN hle ⊢
        go_upto_region 5 with (go_at_call 40; refine Calls.mono CN.out ?_; rintro r w2 ⟨⟨x, xa, xn, y, rfl⟩, hb2⟩)
        have hb5 := below_then hb2 (below_alloc w2 (.cells #[.string x, .int .i64 xa, .int .i64 xn] 59))
        clear CN
        generalize w2.alloc (.cells #[.string x, .int .i64 xa, .int .i64 xn] 59) = w5 at hb5 ⊢
        have hT := HT.out w5 hb5
        have B5 : Hid (Below w.heap.size w w5) := below_then HB.out hb5
        clear hb5 hb2 HT HB
        go_wp2
        go_quiet (fail)
        go_wp2
        go_ret2
        exact ⟨by rw [HK.out]; rfl, below_then B5.out (pl_drew _ _)⟩
      | some p =>
        obtain ⟨o, b⟩ := p
        obtain ⟨o1, o2, o3, o4, o5⟩ := cutO_bd hc
        have hlen := cutO_len hc
        rw [hc] at CO
        have CN : Hid (Calls Tryz.prog 40 #[.string (bs l)] wr fun r w' => r = .returned (.tuple #[.agg #[.string (bs o.1), .int .i64 o.2.1, .int .i64 o.2.2], .string (bs b), .bool true]) ∧ Below wr.heap.size wr w') := by
          refine Calls.mono CO ?_
          rintro r w2 ⟨⟨q, _⟩ | ⟨o, b, q, e⟩, hb2⟩
          · cases q
          · cases q; exact ⟨e, hb2⟩
        have HF2 : Hid (fin a (stp a (acc, bb) o) b = R) := by show _ = _; rw [← HF.out]; exact (fin_cons a _ hc).symm
        have OF : Hid (∀ W, Calls Tryz.prog 41 #[.agg #[.string (bs o.1), .int .i64 o.2.1, .int .i64 o.2.2], .string (bs a)] W fun r w' => r = .returned (.tuple #[.string (bs ((ofO a o).getD [])), .bool (ofO a o).isSome]) ∧ Below W.heap.size W w') := fun W => opOf_any o a W o1 o2 o3 o4 HA.out
        have HBL : Hid ((bs b).size < (bs l).size ∧ b.length ≤ 2000000) := by
          have := HL.out
          refine ⟨by rw [Lib.size_eq, Lib.size_eq, bs_data, bs_data]; exact hlen, by omega⟩
        have hpl : (bs ((ofO a o).getD [])).size ≤ 4000000 := by
          rw [Lib.size_eq, bs_data]
          have := HL.out
          have := HA.out
          cases ho : ofO a o with
          | none => simp
          | some p => have := ofO_len ho; show p.length ≤ _; omega
        clear CO HF hc hl o1 o2 o3 o4 o5 hlen
        have hst : stp a (acc, bb) o = match ofO a o with | none => (acc, false) | some p => if bb = true ∧ acc.length + p.length ≤ 10000 then (acc ++ p, true) else (acc, false) := rfl
        generalize hbl : bs l = s at CN hle HBL ⊢
        have HBL2 : Hid (_) := HBL.out
        clear HBL
        generalize hoo : bs o.1 = so at CN OF
        generalize hob : bs b = sb at CN HBL2
        have HOB : Hid (bs b = sb) := hob
        clear hbl hoo hob
        generalize o.2.1 = oa at CN OF
        generalize o.2.2 = on at CN OF
        go_upto_region 5 with (go_at_call 40; refine Calls.mono CN.out ?_; rintro r w2 ⟨rfl, hb2⟩)
        have hk5 : (w2.alloc (.cells #[.string so, .int .i64 oa, .int .i64 on] 59)).heap[w2.heap.size]? = some (.cells #[.string so, .int .i64 oa, .int .i64 on] 59 (0, 0)) := block_at _ rfl
        have hb5 := below_then hb2 (below_alloc w2 (.cells #[.string so, .int .i64 oa, .int .i64 on] 59))
        obtain ⟨d0, d1, d2⟩ := p3_cells hk5
        clear hk5 CN
        generalize w2.alloc (.cells #[.string so, .int .i64 oa, .int .i64 on] 59) = w5 at hb5 d0 d1 d2 ⊢
        generalize w2.heap.size = q2 at d0 d1 d2 ⊢
        have HP5 : Hid (PB w acc w5) := HP.out.step hb5
        clear hb5 hb2 HP
        have HAC2 : Hid (acc.length ≤ 10000) := HAC.out
        have hac := HAC.out
        clear HAC
        go_upto_region 8 with (go_at_call 41; refine Calls.mono (OF.out _) ?_; rintro r w6 ⟨rfl, hb6⟩)
        have HP6 : Hid (PB w acc w6) := HP5.out.step hb6
        clear HP5 OF d0 d1 d2 hb6
        cases ho : ofO a o with
        | none =>
          rw [ho] at hst
          have HS : Hid (stp a (acc, bb) o = (acc, false)) := hst
          clear hst ho
          have hcb : bb = false ∨ bb = true := by cases bb <;> simp
          dsimp only [Option.getD, Option.isSome]
          rcases hcb with rfl | rfl
          all_goals
            go_wp2
            go_roundw
            case rel => exact ⟨b, acc, false, by rw [HOB.out], rfl, HBL2.out.2, HP6.out, HAC2.out, by have := HF2.out; rw [HS.out] at this; exact this⟩
            case measure => simp [strLenP]; exact HBL2.out.1
        | some p =>
          rw [ho] at hst hpl
          dsimp only [Option.getD, Option.isSome] at hpl ⊢
          dsimp only at hst
          have hps : (bs p).size = p.length := by rw [Lib.size_eq, bs_data]
          have LN : Hid (Calls _ _ _ _ _) := plen w acc w6 HP6.out
          cases bb with
          | false =>
            rw [if_neg (by simp)] at hst
            have HS : Hid (stp a (acc, false) o = (acc, false)) := hst
            clear hst ho hps
            generalize bs p = sp at hpl ⊢
            go_wp2
            go_roundw
            case rel => exact ⟨b, acc, false, by rw [HOB.out], rfl, HBL2.out.2, HP6.out, HAC2.out, by have := HF2.out; rw [HS.out] at this; exact this⟩
            case measure => simp [strLenP]; exact HBL2.out.1
          | true =>
            by_cases hfit : acc.length + p.length ≤ 10000
            · rw [if_pos ⟨rfl, hfit⟩] at hst
              have HS : Hid (stp a (acc, true) o = (acc ++ p, true)) := hst
              have hfit' : (acc.length : Int) + ((bs p).size : Int) ≤ 10000 := by omega
              have WR : Hid (Calls Tryz.prog 19 #[.pointer (some ⟨w.heap.size, 0, none⟩), .string (bs p)] w6 fun r w' => (∃ v, r = .returned (.tuple #[v, .nilIface])) ∧ PB w (acc ++ p) w') := by
                refine Calls.mono (pwrite w acc (bs p) w6 HP6.out (by omega)) ?_
                rintro r w' ⟨q1, q2⟩
                rw [bs_data] at q2
                exact ⟨⟨_, q1⟩, q2⟩
              have HAC3 : Hid ((acc ++ p).length ≤ 10000) := by show _ ≤ _; rw [List.length_append]; exact hfit
              clear hst ho hps hfit
              generalize bs p = sp at hpl hfit' WR ⊢
              generalize acc.length = na at LN hfit' hac
              go_wp2_with (first
                | (go_at_call 22; refine Calls.mono LN.out ?_; rintro r w7 ⟨rfl, hq⟩; subst hq)
                | (go_at_call 19; refine Calls.mono WR.out ?_; rintro r w8 ⟨⟨v8, rfl⟩, hp8⟩))
              go_roundw
              case rel => exact ⟨b, acc ++ p, true, by rw [HOB.out], rfl, HBL2.out.2, hp8, HAC3.out, by have := HF2.out; rw [HS.out] at this; exact this⟩
              case measure => simp [strLenP]; exact HBL2.out.1
            · rw [if_neg (fun q => hfit q.2)] at hst
              have HS : Hid (stp a (acc, true) o = (acc, false)) := hst
              have hfit' : (10000 : Int) < (acc.length : Int) + ((bs p).size : Int) := by omega
              clear hst ho hps hfit
              generalize bs p = sp at hpl hfit' ⊢
              generalize acc.length = na at LN hfit' hac
              go_wp2_with (go_at_call 22; refine Calls.mono LN.out ?_; rintro r w7 ⟨rfl, hq⟩; subst hq)
              go_roundw
              case rel => exact ⟨b, acc, false, by rw [HOB.out], by rw [decide_eq_false (by omega)], HBL2.out.2, HP6.out, HAC2.out, by have := HF2.out; rw [HS.out] at this; exact this⟩
              case measure => simp [strLenP]; exact HBL2.out.1
end Go.Proofs.YtbocknocmggcpaaGreatDoor
