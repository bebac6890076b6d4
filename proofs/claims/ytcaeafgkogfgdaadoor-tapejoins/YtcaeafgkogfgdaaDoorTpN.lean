/- Package number's ReadAny, of any text, leaning on strconv's errors alone. (by wip/gen/mkTpN.py, out of PkN) -/
import Derived.Test.YtcaeafgkogfgdaaDoorPlN
import Derived.Test.YtcaeafgkogfgdaaDoorPkM
namespace Go.Proofs.YtcaeafgkogfgdaaDoor
open Go Go.RowKit Go.Maps Cal Pk
attribute [local go_sem] Oper.semAt_some

/-- what reading numbers leans on -/
structure GlobQ (w : World) : Prop where
  rng : ∃ q, w.cell? ⟨7, 0, none⟩ = some (.iface 90 (.pointer (some q)))
  syn : ∃ q, w.cell? ⟨6, 0, none⟩ = some (.iface 90 (.pointer (some q)))
theorem GlobQ.step {w w' : World} (h : GlobQ w) (hb : Below w.heap.size w w') : GlobQ w' := by
  obtain ⟨q1, h1⟩ := h.rng
  obtain ⟨q2, h2⟩ := h.syn
  exact ⟨⟨q1, cell_step h1 hb⟩, ⟨q2, cell_step h2 hb⟩⟩

theorem atoi_q (s : ByteArray) (w : World) (g : GlobQ w) (hs : s.size ≤ 2000000) :
    Calls Tryd.prog 26 #[.string s] w fun r w' => ((∃ n, Lib.atoiAll s.data.toList = .ok n ∧ r = .returned (.tuple #[.int .i64 n, .nilIface])) ∨ ((∀ n, Lib.atoiAll s.data.toList ≠ .ok n) ∧ ∃ v N, r = .returned (.tuple #[.int .i64 v, .iface 71 (.pointer (some ⟨N, 0, none⟩))]))) ∧ Below w.heap.size w w' := by
  cases ha : Lib.atoiAll s.data.toList with
  | ok n =>
    refine Calls.mono (Tryd.strconv_Atoi_ok s (by omega) n ha w) ?_
    rintro r w' ⟨rfl, q⟩
    refine ⟨.inl ⟨n, rfl, rfl⟩, ?_⟩
    rcases q with rfl | ⟨t, rfl⟩
    · exact Below.refl _ _
    · exact pl_bytes _ _ _
  | «syntax» =>
    obtain ⟨q, hq⟩ := g.syn
    refine Calls.mono (Tryd.strconv_Atoi_syntax s (by omega) ha _ w hq (.inr ⟨_, _, rfl⟩)) ?_
    rintro r w' ⟨N, rfl, _, _, hb⟩
    exact ⟨.inr ⟨fun n q => (by cases q), _, N, rfl⟩, hb⟩
  | range =>
    obtain ⟨q, hq⟩ := g.rng
    refine Calls.mono (Tryd.strconv_Atoi_range s (by omega) ha _ w hq (.inr ⟨_, _, rfl⟩)) ?_
    rintro r w' ⟨N, rfl, _, _, hb⟩
    exact ⟨.inr ⟨fun n q => (by cases q), _, N, rfl⟩, hb⟩

theorem dg_iffQ (c : UInt8) : dg c = true ↔ 48 ≤ (c.toNat : Int) ∧ (c.toNat : Int) ≤ 57 := by
  unfold dg
  rw [Bool.and_eq_true, decide_eq_true_eq, decide_eq_true_eq]
  omega
/-- the answer of ReadAny -/
def raQ (o : Option Int) : Value := .tuple #[.int .i64 (o.getD 0), .bool o.isSome]
theorem numA_noQ {l : List UInt8} (h : l = [] ∨ (l[0]? = some 48 ∧ l ≠ [48]) ∨ ∃ c ∈ l, dg c = false) : numA l = none := by
  unfold numA
  split
  · rfl
  · rename_i h0
    rcases h with h | h | ⟨c, hc, hd⟩
    · exact absurd (.inl h) h0
    · exact absurd (.inr h) h0
    · rw [if_neg]
      intro q
      have := List.all_eq_true.1 q c hc
      rw [hd] at this
      cases this
theorem numA_okQ {l : List UInt8} (h1 : l ≠ []) (h2 : l[0]? ≠ some 48 ∨ l = [48]) (h3 : ∀ c ∈ l, dg c = true) : (∀ n, Lib.atoiAll l = .ok n → numA l = some n) ∧ ((∀ n, Lib.atoiAll l ≠ .ok n) → numA l = some 9223372036854775807) := by
  have e : numA l = (match Lib.atoiAll l with | .ok n => some n | _ => some 9223372036854775807) := by
    unfold numA
    have hn : ¬ (l = [] ∨ (l[0]? = some 48 ∧ l ≠ [48])) := by
      rintro (q | ⟨q1, q2⟩)
      · exact h1 q
      · rcases h2 with h | h
        · exact h q1
        · exact q2 h
    rw [if_neg hn, if_pos (List.all_eq_true.2 h3)]
    cases Lib.atoiAll l <;> rfl
  rw [e]
  constructor
  · intro n hn; rw [hn]
  · intro hn
    split
    · rename_i n q; exact absurd q (hn n)
    · rfl

set_option maxHeartbeats 1000000 in
theorem readAny_q (s : ByteArray) (w : World) (g : GlobQ w) (hs : s.size ≤ 2000000) :
    Calls Tryd.prog 22 #[.string s] w fun r w' => r = .returned (raQ (numA s.data.toList)) ∧ Below w.heap.size w w' := by
  have hsz : s.data.toList.length = s.size := (Lib.size_eq s).symm
  by_cases h1 : s.size = 0
  · have hl : s.data.toList = [] := List.eq_nil_of_length_eq_zero (by omega)
    have e : s = ⟨#[]⟩ := pl_ext (by rw [hl])
    rw [numA_noQ (.inl hl)]
    subst e
    clear hsz hl h1 hs g
    go_enter Tryd.func22, Tryd.ntmps22
    go_wp2
    go_ret2
    exact ⟨rfl, Below.refl _ _⟩
  · have hs0 : 0 < s.size := by omega
    have hs0' : (0 : Int) < (s.size : Int) := by omega
    have hln : s.data.toList ≠ [] := fun q => by rw [q] at hsz; simp at hsz; omega
    have hne0 : s.toList.isEmpty = false := by rw [ByteArray.toList_eq, List.isEmpty_eq_false_iff]; exact hln
    have e0 : s.data.toList[0]? = some s[0] := Lib.data_getElem? s 0 hs0
    by_cases hz : s[0] = 48 ∧ s ≠ ⟨#[48]⟩
    · obtain ⟨hz1, hz2⟩ := hz
      rw [numA_noQ (.inr (.inl ⟨by rw [e0, hz1], fun q => hz2 (pl_ext q)⟩))]
      have z1 : ((s[0].toNat : Int) == 48) = true := by rw [hz1]; rfl
      have z2 : (s.toList == [48]) = false := by rw [beq_eq_false_iff_ne, ByteArray.toList_eq]; exact fun e => hz2 (pl_ext e)
      clear hsz hln e0 hz1 hz2 g h1
      go_enter Tryd.func22, Tryd.ntmps22
      go_wp2
      go_ret2
      exact ⟨rfl, Below.refl _ _⟩
    · have hq : (((s[0].toNat : Int) == 48) = false) ∨ s = ⟨#[48]⟩ := by
        by_cases q : s[0] = 48
        · exact .inr (Classical.byContradiction fun k => hz ⟨q, k⟩)
        · exact .inl (beq_eq_false_iff_ne.2 fun k => q (UInt8.toNat_inj.1 (by show s[0].toNat = 48; omega)))
      have HOK : Hid ((∀ c ∈ s.data.toList, dg c = true) → (∀ n, Lib.atoiAll s.data.toList = .ok n → numA s.data.toList = some n) ∧ ((∀ n, Lib.atoiAll s.data.toList ≠ .ok n) → numA s.data.toList = some 9223372036854775807)) := fun q => numA_okQ hln (by
        by_cases k : s[0] = 48
        · right
          have : s = ⟨#[48]⟩ := Classical.byContradiction fun m => hz ⟨k, m⟩
          rw [this]
        · left; rw [e0]; exact fun m => k (Option.some.inj m)) q
      have HNO : Hid (∀ k (h : k < s.size), dg s[k] = false → numA s.data.toList = none) := fun k h q => numA_noQ (.inr (.inr ⟨s[k], List.mem_of_getElem? (Lib.data_getElem? s k h), q⟩))
      have HMEM : Hid ((∀ (j : Nat) (h : j < s.size), dg s[j] = true) → ∀ c ∈ s.data.toList, dg c = true) := fun q c hc => by
        obtain ⟨j, hj, e⟩ := List.getElem_of_mem hc
        have hj' : j < s.size := by omega
        have := Lib.data_getElem? s j hj'
        rw [List.getElem?_eq_getElem hj, e] at this
        rw [Option.some.inj this]
        exact q j hj'
      have AT : Hid (∀ W, Below w.heap.size w W → _) := fun W hW => atoi_q s W (g.step hW) hs
      clear hsz hln e0 hz h1 g
      generalize numA s.data.toList = o at HOK HNO ⊢
      generalize Lib.atoiAll s.data.toList = oa at HOK AT
      have hq' : Hid (_) := hq
      clear hq
      have hq : ((s[0].toNat : Int) == 48) = false ∨ (((s[0].toNat : Int) == 48) = true ∧ (s.toList == [48]) = true) := by
        rcases hq'.out with q | q
        · exact .inl q
        · right
          subst q
          exact ⟨rfl, by rw [ByteArray.toList_eq]; rfl⟩
      clear hq'
      have hq2 : ∃ z : Bool, ((s[0].toNat : Int) == 48) = z ∧ (z = true → (s.toList == [48]) = true) := by
        rcases hq with q | ⟨q1, q2⟩
        · exact ⟨false, q, fun e => by cases e⟩
        · exact ⟨true, q1, fun _ => q2⟩
      clear hq2
      rcases hq with hq | ⟨hq, hq3⟩
      all_goals
        go_enter Tryd.func22, Tryd.ntmps22
        go_wp2
        go_loop [4, 20] (fun _ i => ∃ k : Nat, k ≤ s.size ∧ i = .int .i64 k ∧ Hid (∀ (j : Nat) (h : j < s.size), j < k → dg s[j] = true)) (fun _ i => s.size - (intOf i).toNat)
        case atStart => exact ⟨0, Nat.zero_le _, rfl, fun j _ h => absurd h (Nat.not_lt_zero _)⟩
        case round =>
          obtain ⟨k, hk, rfl, HD⟩ := hrel
          by_cases hlt : k < s.size
          · have HN : Hid (dg s[k] = true → ∀ (j : Nat) (h : j < s.size), j < k + 1 → dg s[j] = true) := fun hx j hj hjk => by
              by_cases ej : j = k
              · subst ej; exact hx
              · exact HD.out j hj (by omega)
            have HF : Hid (dg s[k] = false → o = none) := fun q => HNO.out k hlt q
            have hok : Hid (dg s[k] = true ↔ 48 ≤ (s[k].toNat : Int) ∧ (s[k].toNat : Int) ≤ 57) := dg_iffQ _
            clear HD HNO HOK HMEM AT
            by_cases hlo : (s[k].toNat : Int) < 48
            · have HO : Hid (o = none) := HF.out (by
                cases hd : dg s[k] with
                | false => rfl
                | true => have := hok.out.1 hd; omega)
              clear HF HN hok
              go_wp2
              go_ret2
              exact ⟨by rw [HO.out]; rfl, Below.refl _ _⟩
            · by_cases hhi : (57 : Int) < (s[k].toNat : Int)
              · have HO : Hid (o = none) := HF.out (by
                  cases hd : dg s[k] with
                  | false => rfl
                  | true => have := hok.out.1 hd; omega)
                clear HF HN hok
                go_wp2
                go_ret2
                exact ⟨by rw [HO.out]; rfl, Below.refl _ _⟩
              · have HN' : Hid (_) := HN.out (hok.out.2 ⟨by omega, by omega⟩)
                clear HF HN hok
                go_wp2
                go_round
                case rel => exact ⟨k + 1, by omega, by go_num, HN'.out⟩
                case measure => simp [intOf]; omega
          · have HALL : Hid (_) := HOK.out (HMEM.out fun j hj => HD.out j hj (by omega))
            have A : Hid (Calls _ _ _ _ _) := AT.out w (Below.refl _ _)
            clear HD HOK HMEM HNO AT
            go_wp2_with (go_at_call 26; refine Calls.mono A.out ?_; rintro r w1 ⟨⟨n, hn, rfl⟩ | ⟨hn, v, N, rfl⟩, hb1⟩)
            · go_ret2
              exact ⟨by rw [HALL.out.1 n hn]; rfl, hb1⟩
            · go_ret2
              exact ⟨by rw [HALL.out.2 hn]; rfl, hb1⟩
end Go.Proofs.YtcaeafgkogfgdaaDoor
