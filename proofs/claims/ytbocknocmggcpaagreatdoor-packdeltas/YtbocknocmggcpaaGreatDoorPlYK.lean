/- The document's pool: Fresh, Text. -/
import Derived.Test.YtbocknocmggcpaaGreatDoorPlXK
namespace Go.Proofs.YtbocknocmggcpaaGreatDoor
open Go Go.RowKit Go.Maps Go.Sort Cal
attribute [local go_sem] Oper.semAt_some

set_option maxHeartbeats 1000000 in
set_option maxRecDepth 100000 in
theorem mfresh_pl (lo qb : Nat) (mv : Value) (ts : List ByteArray) (x : ByteArray) (w : World) (h : MPl lo w qb mv ts) (hl : ts.length ≤ 1000) (hx : x.size ≤ 10000) :
    Calls Tryz.prog 36 #[.pointer (some ⟨qb, 0, none⟩), .string x] w fun r w' =>
      (x ∈ ts ∧ r = .returned (.int .i64 6) ∧ w' = w) ∨
      (x ∉ ts ∧ 1000 ≤ ts.length ∧ r = .returned (.int .i64 7) ∧ w' = w) ∨
      (x ∉ ts ∧ ts.length < 1000 ∧ r = .returned (.int .i64 0) ∧ ∃ mv', MPl lo w' qb mv' (ts ++ [x]) ∧ PKept w w' qb qb mv ∧ (mv'.ownBlock = mv.ownBlock ∨ ∃ k, w.heap.size ≤ k ∧ mv'.ownBlock = some k)) := by
  have F : Hid (Calls _ _ _ _ _) := mpfind_any lo qb mv ts x w h hl
  have P : Hid (Calls _ _ _ _ _) := mput_pl lo qb mv ts x w h hl
  clear h
  go_enter Tryz.func36, Tryz.ntmps36
  go_upto_if 10 with (go_at_call 52; refine Calls.mono F.out ?_; rintro r w' ⟨hq, hr⟩; have hq := hq.symm; subst hq; rcases hr with ⟨i, hi, rfl⟩ | ⟨hn, rfl⟩)
  · have HM : Hid (x ∈ ts) := List.mem_of_getElem? hi
    clear hi F P
    go_wp2
    go_ret
    exact .inl ⟨HM.out, rfl, rfl⟩
  · have HM : Hid (x ∉ ts) := hn
    have HX : Hid (x.size ≤ 10000) := hx
    clear F hn hx
    go_upto_region 4 with (go_at_call 28; refine Calls.mono P.out ?_; rintro r w' (⟨q1, rfl, rfl⟩ | ⟨q1, i, q2, rfl, rfl⟩ | ⟨q1, q2, q3, rfl, rfl⟩ | ⟨q1, q2, q3, rfl, q4⟩))
    · exact absurd HX.out (by omega)
    · exact absurd (List.mem_of_getElem? q2) HM.out
    · have Q3 : Hid (_) := q3
      clear q1 q2 q3 P
      go_wp2
      go_ret
      exact .inr (.inl ⟨HM.out, Q3.out, rfl, rfl⟩)
    · have Q3 : Hid (_) := q3
      have Q4 : Hid (_) := q4
      clear q1 q2 q3 q4 P
      go_wp2
      go_ret
      exact .inr (.inr ⟨HM.out, Q3.out, rfl, Q4.out⟩)

theorem pl_bs_app (a b : List UInt8) : bs a ++ bs b = bs (a ++ b) := by
  unfold bs
  exact ByteArray.mk_append_mk a b
theorem bs_full (t : ByteArray) : bs t.data.toList = t := pl_ext (bs_data _)

set_option maxHeartbeats 2000000 in
set_option maxRecDepth 100000 in
theorem mtext_pl (lo qb : Nat) (mv : Value) (ts : List ByteArray) (w : World) (h : MPl lo w qb mv ts) (hl : ts.length ≤ 1000) (hz : ∀ t ∈ ts, t.size ≤ 9999) :
    Calls Tryz.prog 13 #[.pointer (some ⟨qb, 0, none⟩)] w fun r w' => r = .returned (.string (bs (plT ts))) ∧ Below w.heap.size w w' := by
  have x0 := h.cell
  obtain ⟨a, c, rfl, hc⟩ := h.form
  have HC : Hid (∀ W, Below w.heap.size w W → W.cell? ⟨qb, 0, none⟩ = some (.slice a ts.length c) ∧ ∀ (j : Nat) (hj : j < ts.length), ∃ b, a = some ⟨b, 0, none⟩ ∧ W.cell? ⟨b, j, none⟩ = some (.string ts[j])) := fun W hW => ⟨cell_step x0 hW, fun j hj => by
    obtain ⟨b, q1, q2, q3⟩ := hc j hj
    exact ⟨b, q1, cell_step q3 hW⟩⟩
  have HTL : Hid (∀ j, j ≤ ts.length → (bs (plT (ts.take j))).size ≤ 20000000) := fun j hj => by
    have := plT_len (ts := ts.take j) (B := 9999) (by omega) (fun t ht => hz t (List.mem_of_mem_take ht))
    rw [List.length_take] at this
    rw [Lib.size_eq, bs_data]
    omega
  have HZ : Hid (∀ t ∈ ts, t.size ≤ 9999) := hz
  clear hc h hz x0
  go_enter Tryz.func13, Tryz.ntmps13
  go_wp2
  go_loopw [3, 4] (fun o i wr => ∃ (m : Nat) (os : ByteArray), m ≤ ts.length ∧ i = .int .i64 m ∧ o = .string os ∧ os.size ≤ 20000000 ∧ Hid (os = bs (plT (ts.take m))) ∧ Hid (Below w.heap.size w wr)) (fun _ i _ => ts.length - (intOf i).toNat)
  case atStart => exact ⟨0, ⟨#[]⟩, Nat.zero_le _, rfl, rfl, by show (0:Nat) ≤ _; omega, rfl, Below.refl _ _⟩
  case round =>
    obtain ⟨m, os, hm, rfl, rfl, hos, HO, HB⟩ := hrel
    obtain ⟨x0, hc⟩ := HC.out wr HB.out
    by_cases hlt : m < ts.length
    · obtain ⟨b, rfl, hcell⟩ := hc m hlt
      have ht : (ts[m]).size ≤ 9999 := HZ.out _ (List.getElem_mem hlt)
      have J1 : Hid (bs (plT (ts.take (m + 1))) = os ++ bs (Lib.itoa (ts[m]).size) ++ ⟨#[58]⟩ ++ ts[m] ++ ⟨#[10]⟩) := by
        show _ = _
        rw [List.take_succ_eq_append_getElem hlt, plT_snoc, HO.out]
        have e1 : (⟨#[58]⟩ : ByteArray) = bs [58] := rfl
        have e2 : (⟨#[10]⟩ : ByteArray) = bs [10] := rfl
        rw [e1, e2, pl_bs_app, pl_bs_app]
        conv => rhs; rw [← bs_full ts[m]]
        rw [pl_bs_app, pl_bs_app, bs_full]
      have JL := HTL.out (m + 1) (by omega)
      have D1 : Hid (∀ W, Calls Tryz.prog 9 #[.int .i64 ((ts[m]).size : Int)] W fun e w' => e = .returned (.string (bs (Lib.itoa (ts[m]).size))) ∧ Below W.heap.size W w') := fun W => decimal_int0 (ts[m]).size W ht
      have hil : (bs (Lib.itoa ((ts[m]).size : Int))).size ≤ 6 := by rw [Lib.size_eq, bs_data]; exact itoa_len _ (by omega) (by omega)
      clear hc
      generalize ts[m] = t at hcell ht J1 D1 hil
      generalize bs (Lib.itoa (t.size : Int)) = it at J1 D1 hil
      have X0 := cell_regrown x0
      have X1 := cell_regrown hcell
      have T1 : Hid (∀ d os', Calls Tryz.prog 9 #[.int .i64 (t.size : Int)] (grow (redrawn wr d) os') fun r w'' => r = .returned (.string it) ∧ ∃ p : Regrown, w'' = grow (redrawn wr p.d) p.os) := fun d os' => Calls.regrown_of (D1.out _)
      have q0 : ¬ 9223372036854775807 < os.size + it.size := by omega
      have q1 : ¬ 9223372036854775807 < os.size + it.size + 1 := by omega
      have q2 : ¬ 9223372036854775807 < os.size + it.size + 1 + t.size := by omega
      have q3 : ¬ 9223372036854775807 < os.size + it.size + 1 + t.size + 1 := by omega
      have g1 : (0 : Int) ≤ (m : Int) := by omega
      have g2 : (m : Int) < (ts.length : Int) := by omega
      go_upto_region 5 with (fail)
      refine wp_region_quiet_below (by kernel_rfl) (by kernel_rfl) ?_
      repeat (quiet_step ((go_at_call 9; exact T1.out _ _)))
      refine wpQuiet_nil ?_
      intro w2 hw'
      have hb2 : Below wr.heap.size wr w2 := by
        obtain ⟨⟨dq, osq⟩, hw''⟩ := hw'
        subst hw''
        exact below_regrown _ _ _
      clear hw' X0 X1 T1 D1 x0 hcell q0 q1 q2 q3
      go_wp2
      go_roundw
      case rel =>
        refine ⟨m + 1, _, by omega, by go_num, rfl, ?_, J1.out.symm, below_then HB.out hb2⟩
        rw [← J1.out]; exact JL
      case measure => simp [intOf]; omega
    · have HE : Hid (os = bs (plT ts)) := by
        show _ = _
        rw [HO.out, List.take_of_length_le (by omega)]
      clear HC hc HO
      go_wp2
      go_ret
      exact ⟨by rw [← HE.out]; rfl, HB.out⟩
end Go.Proofs.YtbocknocmggcpaaGreatDoor
