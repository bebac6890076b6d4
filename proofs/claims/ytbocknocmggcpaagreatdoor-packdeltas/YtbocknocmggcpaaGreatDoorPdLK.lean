/- poolOf: the pool and the document's have the same texts. (out of PaL) -/
import Derived.Test.YtbocknocmggcpaaGreatDoorPaLK
namespace Go.Proofs.YtbocknocmggcpaaGreatDoor
open Go Go.RowKit Go.Sort Go.Maps Cal Pk
attribute [local go_sem] Oper.semAt_some

open Classical in
/-- a text put -/
noncomputable def addT (ts : List ByteArray) (x : ByteArray) : List ByteArray := if x ∈ ts then ts else ts ++ [x]
theorem addT_old {ts : List ByteArray} {x : ByteArray} (h : x ∈ ts) : addT ts x = ts := if_pos h
theorem addT_new {ts : List ByteArray} {x : ByteArray} (h : x ∉ ts) : addT ts x = ts ++ [x] := if_neg h
theorem addT_len (ts : List ByteArray) (x : ByteArray) : (addT ts x).length ≤ ts.length + 1 := by
  by_cases h : x ∈ ts
  · rw [addT_old h]; omega
  · rw [addT_new h]; simp
theorem addT_mem {ts : List ByteArray} {x t : ByteArray} (h : t ∈ addT ts x) : t ∈ ts ∨ t = x := by
  by_cases hm : x ∈ ts
  · rw [addT_old hm] at h; exact .inl h
  · rw [addT_new hm] at h
    rcases List.mem_append.1 h with q | q
    · exact .inl q
    · exact .inr (List.mem_singleton.1 q)
theorem PM.putE {w W : World} {qb : Nat} {ts us : List ByteArray} {tv mv : Value} (h : PM w W qb ts us tv mv) (x : ByteArray) (hx : x.size ≤ 10000) (hl : ts.length < 1000) :
    Calls Tryz.prog 27 #[.pointer (some ⟨w.heap.size + 1, 0, none⟩), .string x] W fun r w' => (∃ k : Nat, r = .returned (.tuple #[.int .i64 k, .nilIface])) ∧ ∃ tv', PM w w' qb (addT ts x) us tv' mv := by
  by_cases hm : x ∈ ts
  · obtain ⟨i, hi⟩ := List.getElem?_of_mem hm
    refine Calls.mono (pput_old _ _ _ tv ts x i W h.p hx hi) ?_
    rintro r w' ⟨rfl, rfl⟩
    rw [addT_old hm]
    exact ⟨⟨i, rfl⟩, tv, h⟩
  · refine Calls.mono (pput_new _ _ _ tv ts x W h.p hx hm hl) ?_
    rintro r w' ⟨rfl, tv', h1, h2, h3⟩
    have hq := h.q
    rw [addT_new hm]
    refine ⟨⟨_, rfl⟩, tv', ⟨h1, h.m.far h2.size (fun k hk hh => ?_), fun k q e => ?_, h2.belowP h.p h.bw (by omega) (by omega) (by omega), h.q⟩⟩
    · rcases hh with rfl | hh
      · exact h2.block _ hk (by omega) (by omega) h.notq
      · have hlo := (own_strK h.m.row hh).1
        exact h2.block _ hk (by omega) (by omega) (fun e => h.ap k e hh)
    · rcases h3 with h3 | ⟨k', h3, h4⟩
      · rw [h3] at q; exact h.ap k q e
      · have := (own_strK h.m.row e).2.1
        rw [h4] at q
        have := Option.some.inj q
        omega
theorem PM.mputE {w W : World} {qb : Nat} {ts us : List ByteArray} {tv mv : Value} (h : PM w W qb ts us tv mv) (x : ByteArray) (hx : x.size ≤ 10000) (hl : us.length < 1000) :
    Calls Tryz.prog 28 #[.pointer (some ⟨qb, 0, none⟩), .string x] W fun r w' => (∃ a b : Nat, r = .returned (.tuple #[.int .i64 a, .int .i64 b])) ∧ ∃ mv', PM w w' qb ts (addT us x) tv mv' := by
  refine Calls.mono (mput_pl (qb + 1) qb mv us x W h.m (by omega)) ?_
  rintro r w' (⟨q, _⟩ | ⟨_, i, hi, rfl, rfl⟩ | ⟨_, _, q, _⟩ | ⟨_, hm, _, rfl, mv', h1, h2, h3⟩)
  · omega
  · rw [addT_old (List.mem_of_getElem? hi)]
    exact ⟨⟨i, 0, rfl⟩, mv, h⟩
  · omega
  · have hq := h.q
    rw [addT_new hm]
    refine ⟨⟨_, 0, rfl⟩, mv', ⟨h.p.far h2.size (fun k hk hh => ?_), h1, fun k q e => ?_, ⟨h2.os.trans h.bw.os, h2.tape.trans h.bw.tape, h2.output.trans h.bw.output, Nat.le_trans h.bw.size h2.size, fun k hk => (h2.block k (Nat.lt_of_lt_of_le hk h.bw.size) (by omega) (by omega) (fun e => by have := (own_strK h.m.row e).1; omega)).trans (h.bw.block k hk)⟩, h.q⟩⟩
    · rcases hh with rfl | rfl | hh
      · exact h2.block _ hk (by omega) (by omega) (fun e => by have := (own_strK h.m.row e).1; omega)
      · exact h2.block _ hk (by omega) (by omega) (fun e => by have := (own_strK h.m.row e).1; omega)
      · have hne : k ≠ qb := fun e => h.notq (by rw [hh, e])
        exact h2.block _ hk hne hne (h.ap k hh)
    · rcases h3 with h3 | ⟨k', h3, h4⟩
      · rw [h3] at e; exact h.ap k q e
      · have := (own_strK h.p.row q).2.1
        rw [h4] at e
        have := Option.some.inj e
        omega

set_option maxHeartbeats 1000000 in
set_option maxRecDepth 100000 in
theorem poolOf_tie (xs : List ByteArray) (v : Value) (w : World) (h : TxK w v xs) (hl : xs.length ≤ 20) (hz : ∀ t ∈ xs, t.size ≤ 150) :
    Calls Tryz.prog 10 #[v] w fun r w' => ∃ (qb : Nat) (ts : List ByteArray) (tv mv : Value), r = .returned (.tuple #[.pointer (some ⟨w.heap.size + 1, 0, none⟩), .pointer (some ⟨qb, 0, none⟩)]) ∧ PM w w' qb ts ts tv mv ∧ ts.length ≤ 20 ∧ ∀ t ∈ ts, t.size ≤ 150 := by
  have NW : Hid (Calls _ _ _ _ _) := pnew_any w
  have HX : Hid (TxK w v xs) := h
  obtain ⟨a, cap, rfl, _⟩ := h
  have HZ : Hid (∀ t ∈ xs, t.size ≤ 150) := hz
  clear hz
  have hl' : (xs.length : Int) ≤ 20 := by omega
  go_enter Tryz.func10, Tryz.ntmps10
  go_wp2_with (go_at_call 26; refine Calls.mono NW.out ?_; rintro r w1 ⟨rfl, hp1, hb1⟩)
  have hle := hp1.le
  have HM : Hid (PM w (w1.alloc (.cells #[.slice none 0 0] 40)) w1.heap.size [] [] (.slice none 0 0) (.slice none 0 0)) :=
    ⟨hp1.step (below_alloc _ _), ⟨by omega, by rw [World.size_alloc]; omega, block_at _ rfl, World.ownsRow_nil _ _ _ _⟩, (fun k q => by cases q), below_then hb1 (below_alloc _ _), hle⟩
  generalize w1.alloc (.cells #[.slice none 0 0] 40) = w2 at HM ⊢
  generalize w1.heap.size = qb at HM hle ⊢
  clear NW hp1 hb1
  go_loopw [6] (fun i wr => ∃ m : Nat, m ≤ xs.length ∧ i = .int .i64 m ∧ Hid (∃ ts tv mv, PM w wr qb ts ts tv mv ∧ ts.length ≤ m ∧ ∀ t ∈ ts, t.size ≤ 150)) (fun i _ => xs.length - (intOf i).toNat)
  case atStart => exact ⟨0, Nat.zero_le _, rfl, [], _, _, HM.out, by simp, by simp⟩
  case round =>
    obtain ⟨m, hm, rfl, HR⟩ := hrel
    obtain ⟨ts, tv, mv, hpm, ht, htz⟩ := HR.out
    clear HR
    by_cases hlt : m < xs.length
    · have HC : Hid (∀ W, RowKit.Below w.heap.size w W → ∃ ad : Addr, a = some ad ∧ W.cell? (ad.add m) = some (.string xs[m])) := fun W hW => by
        obtain ⟨a2, c2, e, _, h3⟩ := HX.out.step hW
        injection e with e1 _ _
        obtain ⟨ad, q1, _, q3⟩ := h3 m hlt
        exact ⟨ad, by rw [e1]; exact q1, q3⟩
      have hx : (xs[m]).size ≤ 150 := HZ.out _ (List.getElem_mem hlt)
      generalize xs[m] = x at HC hx
      have g1 : (0 : Int) ≤ (m : Int) := by omega
      have g2 : (m : Int) < (xs.length : Int) := by omega
      have PP : Hid (Calls _ _ _ _ _) := hpm.putE x (by omega) (by omega)
      have HTZ : Hid (∀ t ∈ ts, t.size ≤ 150) := htz
      obtain ⟨ad, rfl, hcell⟩ := HC.out wr hpm.bw
      clear hpm htz
      go_upto_region 7 with (go_at_call 27; refine Calls.mono PP.out ?_; rintro r w3 ⟨⟨k, rfl⟩, tv', hpm3⟩)
      obtain ⟨ad2, e2, hcell2⟩ := HC.out w3 hpm3.bw
      obtain rfl : ad = ad2 := Option.some.inj e2
      have PP2 : Hid (Calls _ _ _ _ _) := hpm3.mputE x (by omega) (by omega)
      clear hpm3 PP e2 hcell HC
      go_wp2_with (go_at_call 28; refine Calls.mono PP2.out ?_; rintro r w4 ⟨⟨k1, k2, rfl⟩, mv', hpm4⟩; have HP4 : Hid (_) := hpm4; clear hpm4)
      go_roundw
      case rel =>
        refine ⟨m + 1, by omega, by go_num, addT ts x, tv', mv', HP4.out, Nat.le_trans (addT_len ts x) (by omega), fun t q => ?_⟩
        rcases addT_mem q with q | rfl
        · exact HTZ.out t q
        · exact hx
      case measure => simp [intOf]; omega
    · have g2 : (xs.length : Int) ≤ (m : Int) := by omega
      have HF : Hid (PM w wr qb ts ts tv mv) := hpm
      have HTZ : Hid (∀ t ∈ ts, t.size ≤ 150) := htz
      clear hpm htz
      go_wp2
      go_ret2
      exact ⟨qb, ts, tv, mv, rfl, HF.out, by omega, HTZ.out⟩
end Go.Proofs.YtbocknocmggcpaaGreatDoor
