/- The laws' own texts: longTexts, poolOf. -/
import Derived.Test.YtbocknocmggcpaaGreatDoorJkX
import Derived.Test.YtbocknocmggcpaaGreatDoorPlT
import Derived.Test.YtbocknocmggcpaaGreatDoorPlXJ
import Derived.Test.YtbocknocmggcpaaGreatDoorLawPJ
namespace Go.Proofs.YtbocknocmggcpaaGreatDoor
open Go Go.RowKit Go.Sort Go.Maps Cal Pk
attribute [local go_sem] Oper.semAt_some

/-- a list of texts that came in -/
def TxK (w : World) (v : Value) (xs : List ByteArray) : Prop := ∃ (a : Option Addr) (c : Nat), v = .slice a xs.length c ∧ xs.length ≤ c ∧ ∀ (j : Nat) (h : j < xs.length), ∃ ad : Addr, a = some ad ∧ ad.block < w.heap.size ∧ w.cell? (ad.add j) = some (.string xs[j])
theorem addrK_block (a : Addr) (n : Nat) : (a.add n).block = a.block := by
  unfold Addr.add
  split <;> rfl
theorem TxK.step {w w' : World} {v : Value} {xs : List ByteArray} (h : TxK w v xs) (hb : RowKit.Below w.heap.size w w') : TxK w' v xs := by
  obtain ⟨a, c, h1, h2, h3⟩ := h
  refine ⟨a, c, h1, h2, fun j hj => ?_⟩
  obtain ⟨ad, q1, q2, q3⟩ := h3 j hj
  exact ⟨ad, q1, Nat.lt_of_lt_of_le q2 hb.size, (hb.cell (p := ad.add j) (by rw [addrK_block]; exact q2)).trans q3⟩

theorem longTexts_any (xs : List ByteArray) (v : Value) (w : World) (h : TxK w v xs) :
    Calls Tryz.prog 6 #[v] w fun r w' => ∃ b, r = .returned (.bool b) ∧ (b = false → xs.length ≤ 20 ∧ ∀ t ∈ xs, t.size ≤ 150) ∧ w' = w := by
  obtain ⟨a, cap, rfl, hcap, hc⟩ := h
  have HC : Hid (∀ (j : Nat) (h : j < xs.length), ∃ ad : Addr, a = some ad ∧ ad.block < w.heap.size ∧ w.cell? (ad.add j) = some (.string xs[j])) := hc
  clear hc
  by_cases h20 : (20 : Int) < (xs.length : Int)
  · clear HC
    go_enter Tryz.func6, Tryz.ntmps6
    go_wp2
    go_ret
    exact ⟨true, rfl, (fun q => by cases q), rfl⟩
  · have h20' : (xs.length : Int) ≤ 20 := by omega
    go_enter Tryz.func6, Tryz.ntmps6
    go_wp2
    go_loop [3] (fun i => ∃ m : Nat, m ≤ xs.length ∧ i = .int .i64 m ∧ Hid (∀ (j : Nat) (hj : j < xs.length), j < m → (xs[j]).size ≤ 150)) (fun i => xs.length - (intOf i).toNat)
    case atStart => exact ⟨0, Nat.zero_le _, rfl, fun j _ hj => by omega⟩
    case round =>
      obtain ⟨m, hm, rfl, HM⟩ := hrel
      by_cases hlt : m < xs.length
      · obtain ⟨ad, rfl, had, hcell⟩ := HC.out m hlt
        have g1 : (0 : Int) ≤ (m : Int) := by omega
        have g2 : (m : Int) < (xs.length : Int) := by omega
        by_cases h150 : (150 : Int) < ((xs[m]).size : Int)
        · generalize xs[m] = x at hcell h150
          go_wp2
          go_ret
          exact .inr ⟨rfl, rfl⟩
        · have h150' : ((xs[m]).size : Int) ≤ 150 := by omega
          have HX : Hid ((xs[m]).size ≤ 150) := by show _ ≤ _; omega
          generalize hx : xs[m] = x at hcell h150'
          have HX2 : Hid (xs[m] = x) := hx
          clear hx h150
          go_wp2
          go_round
          case rel =>
            refine ⟨m + 1, by omega, by go_num, fun j hj hjm => ?_⟩
            rcases Nat.lt_or_ge j m with q | q
            · exact HM.out j hj q
            · have : j = m := by omega
              subst this
              exact HX.out
          case measure => simp [intOf]; omega
      · have g2 : (xs.length : Int) ≤ (m : Int) := by omega
        go_wp2
        go_ret
        refine .inl ⟨rfl, ⟨by omega, fun t ht => ?_⟩, rfl⟩
        obtain ⟨j, hj, rfl⟩ := List.getElem_of_mem ht
        exact HM.out j hj (by omega)

theorem PoolAt.nodupK {lo : Nat} {W : World} {pb mb : Nat} {tv : Value} {ts : List ByteArray} (h : PoolAt lo W pb mb tv ts) : ts.Nodup := by
  have one : ∀ {i j : Nat} {x : ByteArray}, ts[i]? = some x → ts[j]? = some x → i = j := fun {i j x} hi hj => by
    obtain ⟨D, _, hl⟩ := h.map
    have e1 := ((hl x).1 i hi).2
    have e2 := ((hl x).1 j hj).2
    rw [e1] at e2
    have e : (i : Int) = j := by injection e2 with q; injection q
    omega
  unfold List.Nodup
  rw [List.pairwise_iff_getElem]
  intro i j hi hj hij e
  have := one (List.getElem?_eq_getElem hi) (by rw [e]; exact List.getElem?_eq_getElem hj)
  omega
theorem own_strK {W : World} {lo n : Nat} {v : Value} {xs : List Value} (h : W.ownsRow lo 9 1 v n xs) {k : Nat} (hk : v.ownBlock = some k) : lo ≤ k ∧ k < W.heap.size ∧ ∃ c, W.heap[k]? = some (.cells c 9 (0, 0)) := by
  rcases h.2 with ⟨e, _⟩ | ⟨g', cap, cur, hv, hb, hh, _⟩
  · rw [e] at hk; cases hk
  · rw [hv] at hk
    have : g' = k := Option.some.inj hk
    subst this
    exact ⟨hb, (Array.getElem?_eq_some_iff.1 hh).1, cur, hh⟩
/-- a pool and the document's, beside each other -/
structure PM (w W : World) (qb : Nat) (ts us : List ByteArray) (tv mv : Value) : Prop where
  p : PoolAt (w.heap.size + 2) W (w.heap.size + 1) w.heap.size tv ts
  m : MPl (qb + 1) W qb mv us
  ap : ∀ k, tv.ownBlock = some k → mv.ownBlock ≠ some k
  bw : RowKit.Below w.heap.size w W
  q : w.heap.size + 2 ≤ qb
theorem PM.notq {w W : World} {qb : Nat} {ts us : List ByteArray} {tv mv : Value} (h : PM w W qb ts us tv mv) : tv.ownBlock ≠ some qb := fun e => by
  obtain ⟨_, _, c, hc⟩ := own_strK h.p.row e
  rw [h.m.blk] at hc
  injection hc with hc
  injection hc with _ hc
  exact absurd hc (by decide)
theorem PM.put {w W : World} {qb : Nat} {ts us : List ByteArray} {tv mv : Value} (h : PM w W qb ts us tv mv) (x : ByteArray) (hx : x.size ≤ 10000) (hl : ts.length < 1000) :
    Calls Tryz.prog 27 #[.pointer (some ⟨w.heap.size + 1, 0, none⟩), .string x] W fun r w' => (∃ k : Nat, r = .returned (.tuple #[.int .i64 k, .nilIface])) ∧ ∃ ts' tv', PM w w' qb ts' us tv' mv ∧ (∀ t ∈ ts', t ∈ ts ∨ t = x) ∧ ts'.length ≤ ts.length + 1 := by
  by_cases hm : x ∈ ts
  · obtain ⟨i, hi⟩ := List.getElem?_of_mem hm
    refine Calls.mono (pput_old _ _ _ tv ts x i W h.p hx hi) ?_
    rintro r w' ⟨rfl, rfl⟩
    exact ⟨⟨i, rfl⟩, ts, tv, h, fun t ht => .inl ht, by omega⟩
  · refine Calls.mono (pput_new _ _ _ tv ts x W h.p hx hm hl) ?_
    rintro r w' ⟨rfl, tv', h1, h2, h3⟩
    have hq := h.q
    refine ⟨⟨_, rfl⟩, ts ++ [x], tv', ⟨h1, h.m.far h2.size (fun k hk hh => ?_), fun k q e => ?_, h2.belowP h.p h.bw (by omega) (by omega) (by omega), h.q⟩, fun t ht => ?_, by simp⟩
    · rcases hh with rfl | hh
      · exact h2.block _ hk (by omega) (by omega) h.notq
      · have hlo := (own_strK h.m.row hh).1
        exact h2.block _ hk (by omega) (by omega) (fun e => h.ap k e hh)
    · rcases h3 with h3 | ⟨k', h3, h4⟩
      · rw [h3] at q; exact h.ap k q e
      · have := (own_strK h.m.row e).2.1
        rw [h4] at q
        have := Option.some.inj q
        omega
    · rcases List.mem_append.1 ht with q | q
      · exact .inl q
      · exact .inr (List.mem_singleton.1 q)
theorem PM.mput {w W : World} {qb : Nat} {ts us : List ByteArray} {tv mv : Value} (h : PM w W qb ts us tv mv) (x : ByteArray) (hx : x.size ≤ 10000) (hl : us.length < 1000) :
    Calls Tryz.prog 28 #[.pointer (some ⟨qb, 0, none⟩), .string x] W fun r w' => (∃ a b : Nat, r = .returned (.tuple #[.int .i64 a, .int .i64 b])) ∧ ∃ us' mv', PM w w' qb ts us' tv mv' ∧ us'.length ≤ us.length + 1 := by
  refine Calls.mono (mput_pl (qb + 1) qb mv us x W h.m (by omega)) ?_
  rintro r w' (⟨q, _⟩ | ⟨_, i, _, rfl, rfl⟩ | ⟨_, _, q, _⟩ | ⟨_, _, _, rfl, mv', h1, h2, h3⟩)
  · omega
  · exact ⟨⟨i, 0, rfl⟩, us, mv, h, by omega⟩
  · omega
  · have hq := h.q
    refine ⟨⟨_, 0, rfl⟩, us ++ [x], mv', ⟨h.p.far h2.size (fun k hk hh => ?_), h1, fun k q e => ?_, ⟨h2.os.trans h.bw.os, h2.tape.trans h.bw.tape, h2.output.trans h.bw.output, Nat.le_trans h.bw.size h2.size, fun k hk => (h2.block k (Nat.lt_of_lt_of_le hk h.bw.size) (by omega) (by omega) (fun e => by have := (own_strK h.m.row e).1; omega)).trans (h.bw.block k hk)⟩, h.q⟩, by simp⟩
    · rcases hh with rfl | rfl | hh
      · exact h2.block _ hk (by omega) (by omega) (fun e => by have := (own_strK h.m.row e).1; omega)
      · exact h2.block _ hk (by omega) (by omega) (fun e => by have := (own_strK h.m.row e).1; omega)
      · have hne : k ≠ qb := fun e => h.notq (by rw [hh, e])
        exact h2.block _ hk hne hne (h.ap k hh)
    · rcases h3 with h3 | ⟨k', h3, h4⟩
      · rw [h3] at e; exact h.ap k q e
      · have := (own_strK h.p.row q).2.1
        rw [h4] at e
        have := Option.some.inj e
        omega

set_option maxHeartbeats 1000000 in
set_option maxRecDepth 100000 in
theorem poolOf_any (xs : List ByteArray) (v : Value) (w : World) (h : TxK w v xs) (hl : xs.length ≤ 20) (hz : ∀ t ∈ xs, t.size ≤ 150) :
    Calls Tryz.prog 10 #[v] w fun r w' => (∃ qb : Nat, r = .returned (.tuple #[.pointer (some ⟨w.heap.size + 1, 0, none⟩), .pointer (some ⟨qb, 0, none⟩)])) ∧ (∃ ts tv, PoolAt (w.heap.size + 2) w' (w.heap.size + 1) w.heap.size tv ts ∧ ts.length ≤ 20 ∧ ∀ t ∈ ts, t.size ≤ 150) ∧ RowKit.Below w.heap.size w w' := by
  have NW : Hid (Calls _ _ _ _ _) := pnew_any w
  have HX : Hid (TxK w v xs) := h
  obtain ⟨a, cap, rfl, _⟩ := h
  have HZ : Hid (∀ t ∈ xs, t.size ≤ 150) := hz
  clear hz
  have hl' : (xs.length : Int) ≤ 20 := by omega
  go_enter Tryz.func10, Tryz.ntmps10
  go_wp2_with (go_at_call 26; refine Calls.mono NW.out ?_; rintro r w1 ⟨rfl, hp1, hb1⟩)
  have hle := hp1.le
  have HM : Hid (PM w (w1.alloc (.cells #[.slice none 0 0] 40)) w1.heap.size [] [] (.slice none 0 0) (.slice none 0 0)) :=
    ⟨hp1.step (below_alloc _ _), ⟨by omega, by rw [World.size_alloc]; omega, block_at _ rfl, World.ownsRow_nil _ _ _ _⟩, (fun k q => by cases q), below_then hb1 (below_alloc _ _), hle⟩
  generalize w1.alloc (.cells #[.slice none 0 0] 40) = w2 at HM ⊢
  generalize w1.heap.size = qb at HM hle ⊢
  clear NW hp1 hb1
  go_loopw [6] (fun i wr => ∃ m : Nat, m ≤ xs.length ∧ i = .int .i64 m ∧ Hid (∃ ts us tv mv, PM w wr qb ts us tv mv ∧ ts.length ≤ m ∧ us.length ≤ m ∧ ∀ t ∈ ts, t.size ≤ 150)) (fun i _ => xs.length - (intOf i).toNat)
  case atStart => exact ⟨0, Nat.zero_le _, rfl, [], [], _, _, HM.out, by simp, by simp, by simp⟩
  case round =>
    obtain ⟨m, hm, rfl, HR⟩ := hrel
    obtain ⟨ts, us, tv, mv, hpm, ht, hu, htz⟩ := HR.out
    clear HR
    by_cases hlt : m < xs.length
    · have HC : Hid (∀ W, RowKit.Below w.heap.size w W → ∃ ad : Addr, a = some ad ∧ W.cell? (ad.add m) = some (.string xs[m])) := fun W hW => by
        obtain ⟨a2, c2, e, _, h3⟩ := HX.out.step hW
        injection e with e1 _ _
        obtain ⟨ad, q1, _, q3⟩ := h3 m hlt
        exact ⟨ad, by rw [e1]; exact q1, q3⟩
      have hx : (xs[m]).size ≤ 150 := HZ.out _ (List.getElem_mem hlt)
      generalize xs[m] = x at HC hx
      have g1 : (0 : Int) ≤ (m : Int) := by omega
      have g2 : (m : Int) < (xs.length : Int) := by omega
      have PP : Hid (Calls _ _ _ _ _) := hpm.put x (by omega) (by omega)
      have HTZ : Hid (∀ t ∈ ts, t.size ≤ 150) := htz
      obtain ⟨ad, rfl, hcell⟩ := HC.out wr hpm.bw
      clear hpm htz
      go_upto_region 7 with (go_at_call 27; refine Calls.mono PP.out ?_; rintro r w3 ⟨⟨k, rfl⟩, ts', tv', hpm3, hmem, hlen⟩)
      obtain ⟨ad2, e2, hcell2⟩ := HC.out w3 hpm3.bw
      obtain rfl : ad = ad2 := Option.some.inj e2
      have PP2 : Hid (Calls _ _ _ _ _) := hpm3.mput x (by omega) (by omega)
      clear hpm3 PP e2 hcell HC
      go_wp2_with (go_at_call 28; refine Calls.mono PP2.out ?_; rintro r w4 ⟨⟨k1, k2, rfl⟩, us', mv', hpm4, hlen4⟩; have HP4 : Hid (_) := hpm4; clear hpm4)
      go_roundw
      case rel =>
        refine ⟨m + 1, by omega, by go_num, ts', us', tv', mv', HP4.out, by omega, by omega, fun t q => ?_⟩
        rcases hmem t q with q | rfl
        · exact HTZ.out t q
        · exact hx
      case measure => simp [intOf]; omega
    · have g2 : (xs.length : Int) ≤ (m : Int) := by omega
      have HF : Hid ((∃ ts tv, PoolAt (w.heap.size + 2) wr (w.heap.size + 1) w.heap.size tv ts ∧ ts.length ≤ 20 ∧ ∀ t ∈ ts, t.size ≤ 150) ∧ RowKit.Below w.heap.size w wr) := ⟨⟨ts, tv, hpm.p, by omega, htz⟩, hpm.bw⟩
      clear hpm htz
      go_wp2
      go_ret2
      exact ⟨⟨qb, rfl⟩, HF.out⟩
end Go.Proofs.YtbocknocmggcpaaGreatDoor
