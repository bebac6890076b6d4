/- The law PoolBack: a pool is read as it was written; two texts have one number only if they are one. -/
import Derived.Test.YtifbhedomcgonaaDoorPlR
import Derived.Laws.AppendOwnNone
namespace Go.Proofs.YtifbhedomcgonaaDoor
open Go Go.RowKit Go.Maps Cal
attribute [local go_sem] Oper.semAt_some

theorem PoolAt.one {lo : Nat} {W : World} {pb mb : Nat} {tv : Value} {ts : List ByteArray} (h : PoolAt lo W pb mb tv ts) {i j : Nat} {x : ByteArray} (hi : ts[i]? = some x) (hj : ts[j]? = some x) : i = j := by
  obtain ⟨D, _, hl⟩ := h.map
  have e1 := ((hl x).1 i hi).2
  have e2 := ((hl x).1 j hj).2
  rw [e1] at e2
  have e : (i : Int) = j := by injection e2 with q; injection q
  omega
theorem PoolAt.nodup {lo : Nat} {W : World} {pb mb : Nat} {tv : Value} {ts : List ByteArray} (h : PoolAt lo W pb mb tv ts) : ts.Nodup := by
  unfold List.Nodup
  rw [List.pairwise_iff_getElem]
  intro i j hi hj hij e
  have := h.one (List.getElem?_eq_getElem hi) (by rw [e]; exact List.getElem?_eq_getElem hj)
  omega

theorem pput_law (lo pb mb : Nat) (tv : Value) (ts : List ByteArray) (x : ByteArray) (w : World) (h : PoolAt lo w pb mb tv ts) (hx : x.size ≤ 10000) (hl : ts.length < 1000) :
    Calls Tryd.prog 6 #[.pointer (some ⟨pb, 0, none⟩), .string x] w fun r w' => ∃ (k : Nat) (ts' : List ByteArray) (tv' : Value), r = .returned (.tuple #[.int .i64 k, .nilIface]) ∧ ts'[k]? = some x ∧ (∀ (j : Nat) (y : ByteArray), ts[j]? = some y → ts'[j]? = some y) ∧ ts'.length ≤ ts.length + 1 ∧ (∀ t ∈ ts', t ∈ ts ∨ t = x) ∧ PoolAt lo w' pb mb tv' ts' ∧ PKept w w' pb mb tv := by
  by_cases hm : x ∈ ts
  · obtain ⟨i, hi⟩ := List.getElem?_of_mem hm
    refine Calls.mono (pput_old lo pb mb tv ts x i w h hx hi) ?_
    rintro r w' ⟨rfl, rfl⟩
    exact ⟨i, ts, tv, rfl, hi, fun _ _ q => q, by omega, fun t ht => .inl ht, h, PKept.same (Below.refl _ _) _ _ _⟩
  · refine Calls.mono (pput_new lo pb mb tv ts x w h hx hm hl) ?_
    rintro r w' ⟨rfl, tv', h1, h2, _⟩
    refine ⟨ts.length, ts ++ [x], tv', rfl, ?_, fun j y q => ?_, by simp, fun t ht => ?_, h1, h2⟩
    · rw [List.getElem?_append_right (Nat.le_refl _), Nat.sub_self]; rfl
    · rw [List.getElem?_append_left (List.getElem?_eq_some_iff.1 q).1]; exact q
    · rcases List.mem_append.1 ht with q | q
      · exact .inl q
      · exact .inr (List.mem_singleton.1 q)

set_option maxHeartbeats 1000000 in
theorem pooled_any (w : World) : Calls Tryd.prog 4 #[] w fun r w' => r = .returned (.bool true) ∧ Below w.heap.size w w' := by
  have NW : Hid (Calls _ _ _ _ _) := pnew_any w
  go_enter Tryd.func4, Tryd.ntmps4
  go_upto_region 4 with (go_at_call 5; refine Calls.mono NW.out ?_; rintro r w1 ⟨rfl, hp1, hb1⟩)
  have P1 : Hid (Calls _ _ _ _ _) := pput_new _ _ _ _ _ ⟨#[120]⟩ w1 hp1 (by decide) (by simp) (by simp)
  have HP1 : Hid (PoolAt _ _ _ _ _ _) := hp1
  clear NW hp1
  go_upto_region 5 with (go_at_call 6; refine Calls.mono P1.out ?_; rintro r w2 ⟨rfl, tv2, hp2, hk2, _⟩)
  have B2 : Hid (Below w.heap.size w w2) := hk2.below HP1.out hb1 (by omega) (by omega) (by omega)
  have P2 : Hid (Calls _ _ _ _ _) := pput_new _ _ _ _ _ ⟨#[]⟩ w2 hp2 (by decide) (by rw [List.nil_append, List.mem_singleton]; intro q; exact absurd (congrArg ByteArray.size q) (by decide)) (by simp)
  have HP2 : Hid (PoolAt _ _ _ _ _ _) := hp2
  clear P1 hp2 hk2 hb1 HP1
  go_upto_region 6 with (go_at_call 6; refine Calls.mono P2.out ?_; rintro r w3 ⟨rfl, tv3, hp3, hk3, _⟩)
  have B3 : Hid (Below w.heap.size w w3) := hk3.below HP2.out B2.out (by omega) (by omega) (by omega)
  have P3 : Hid (Calls _ _ _ _ _) := pput_old _ _ _ _ _ ⟨#[120]⟩ 0 w3 hp3 (by decide) rfl
  have L3 : Hid (Calls _ _ _ _ _) := plen_any _ _ _ _ _ w3 hp3
  clear P2 hp3 hk3 HP2
  go_wp2_with (first
    | (go_at_call 6; refine Calls.mono P3.out ?_; rintro r w4 ⟨rfl, hq⟩; have hq := hq.symm; subst hq)
    | (go_at_call 7; refine Calls.mono L3.out ?_; rintro r w4 ⟨rfl, hq⟩; have hq := hq.symm; subst hq))
  go_ret
  exact ⟨rfl, B3.out⟩

theorem row_far {W W' : World} {base : Nat} {e : TypeId} {size : Nat} {v : Value} {n : Nat} {xs : List Value} (h : W.ownsRow base e size v n xs) (hk : ∀ k, v.ownBlock = some k → k < W.heap.size → W'.heap[k]? = W.heap[k]?) : W'.ownsRow base e size v n xs := by
  refine ⟨h.1, ?_⟩
  rcases h.2 with h2 | ⟨g, cap, cur, hv, hg, hh, r⟩
  · exact .inl h2
  · exact .inr ⟨g, cap, cur, hv, hg, (hk g (by rw [hv]; rfl) (Array.getElem?_eq_some_iff.1 hh).1).trans hh, r⟩
theorem row_apart {W : World} {b1 b2 : Nat} {e1 e2 : TypeId} {s1 s2 : Nat} {v1 v2 : Value} {n1 n2 : Nat} {xs1 xs2 : List Value} (h1 : W.ownsRow b1 e1 s1 v1 n1 xs1) (h2 : W.ownsRow b2 e2 s2 v2 n2 xs2) (hne : e1 ≠ e2) (k : Nat) (q1 : v1.ownBlock = some k) : v2.ownBlock ≠ some k := by
  intro q2
  rcases h1.2 with ⟨rfl, _⟩ | ⟨g, cap, cur, rfl, _, hh, _⟩
  · cases q1
  · rcases h2.2 with ⟨rfl, _⟩ | ⟨g', cap', cur', rfl, _, hh', _⟩
    · cases q2
    · have a1 : g = k := Option.some.inj q1
      have a2 : g' = k := Option.some.inj q2
      subst a1; subst a2
      rw [hh] at hh'
      have := Option.some.inj hh'
      injection this with _ q _
      exact hne q
theorem row_cell {W : World} {base : Nat} {e : TypeId} {g n cap : Nat} {xs : List Value} (h : W.ownsRow base e 1 (.slice (some ⟨g, 0, none⟩) n cap) n xs) (j : Nat) (u : Value) (hj : xs[j]? = some u) : W.cell? ⟨g, j, none⟩ = some u ∧ g < W.heap.size := by
  have hl := h.1
  rcases h.2 with ⟨q, _⟩ | ⟨g', cap', cur, hv, _, hh, hcap, hmax, hsz, htake⟩
  · cases q
  · have eg : g = g' := by injection hv with a _ _; injection a with a; injection a
    subst eg
    refine ⟨?_, (Array.getElem?_eq_some_iff.1 hh).1⟩
    have hlt := (List.getElem?_eq_some_iff.1 hj).1
    have e := congrArg (fun z : List Value => z[j]?) htake
    simp only [List.getElem?_take, Array.getElem?_toList] at e
    rw [if_pos (by omega), hj] at e
    simp only [World.cell?, hh]
    exact e

/-- a list of texts that came in -/
def TxA (w : World) (v : Value) (xs : List ByteArray) : Prop := ∃ (a : Option Addr) (c : Nat), v = .slice a xs.length c ∧ xs.length ≤ c ∧ ∀ (j : Nat) (h : j < xs.length), ∃ ad : Addr, a = some ad ∧ ad.block < w.heap.size ∧ w.cell? (ad.add j) = some (.string xs[j])
theorem addr_block (a : Addr) (n : Nat) : (a.add n).block = a.block := by
  unfold Addr.add
  split <;> rfl

set_option maxHeartbeats 4000000 in
set_option maxRecDepth 100000 in
theorem poolBack_all (xs : List ByteArray) (v : Value) (sn : Nat → Addr) (w : World) (g : GlobP sn w) (gn : GlobN w) (hX : TxA w v xs) :
    Calls Tryd.prog 3 #[v] w fun r w' => r = .returned (.bool true) ∧ Below w.heap.size w w' := by
  obtain ⟨a, cap, rfl, hcap, hc⟩ := hX
  have PO : Hid (Calls _ _ _ _ _) := pooled_any w
  have HG : Hid (GlobP sn w) := g
  have HGN : Hid (GlobN w) := gn
  have HC : Hid (∀ W, Below w.heap.size w W → ∀ (j : Nat) (h : j < xs.length), ∃ ad : Addr, a = some ad ∧ ad.block < w.heap.size ∧ W.cell? (ad.add j) = some (.string xs[j])) := fun W hW j hj => by
    obtain ⟨ad, q1, q2, q3⟩ := hc j hj
    exact ⟨ad, q1, q2, (hW.cell (p := ad.add j) (by rw [addr_block]; exact q2)).trans q3⟩
  clear g gn hc
  go_enter Tryd.func3, Tryd.ntmps3
  go_upto_region 2 with (go_at_call 4; refine Calls.mono PO.out ?_; rintro r w1 ⟨rfl, hb1⟩)
  clear PO
  by_cases h60 : (60 : Int) < (xs.length : Int)
  · go_wp2
    go_ret
    exact ⟨rfl, hb1⟩
  · have NW : Hid (Calls _ _ _ _ _) := pnew_any w1
    go_wp2_with (go_at_call 5; refine Calls.mono NW.out ?_; rintro r w2 ⟨rfl, hp2, hb2⟩)
    have B2 : Hid (Below w.heap.size w w2) := below_then hb1 hb2
    have HP2 : Hid (PoolAt _ _ _ _ _ _) := hp2
    have hw1 : w.heap.size ≤ w1.heap.size := hb1.size
    obtain ⟨i0, hi, hz0, hz1, hz2⟩ := info_parts info_int
    clear NW hp2 hb1 hb2
    go_loopw [5, 6, 7, 8, 9, 10] (fun nv i _ _ _ _ wr => ∃ m : Nat, m ≤ xs.length ∧ i = .int .i64 m ∧ Hid (Below w.heap.size w wr) ∧ ∃ (na : Option Addr) (nc : Nat), nv = .slice na m nc ∧ Hid (∃ (ns : List Int) (ts : List ByteArray) (tv : Value), ns.length = m ∧ Ow (w1.heap.size + 2) wr (.slice na m nc) ns ∧ PoolAt (w1.heap.size + 2) wr (w1.heap.size + 1) w1.heap.size tv ts ∧ ts.length ≤ m ∧ (∀ t ∈ ts, t.size ≤ 300) ∧ ∀ (j : Nat) (h : j < m) (h2 : j < xs.length), ∃ k : Nat, ns[j]? = some (k : Int) ∧ ts[k]? = some xs[j])) (fun _ i _ _ _ _ _ => xs.length - (intOf i).toNat)
    case atStart => exact ⟨0, Nat.zero_le _, rfl, B2.out, none, 0, rfl, [], [], _, rfl, Ow.nil _ _, HP2.out, by simp, by simp, fun j h => by omega⟩
    case round =>
      obtain ⟨m, hm, rfl, HB, na, nc, rfl, HX⟩ := hrel
      obtain ⟨ns, ts, tv, hns, hown, hp, htl, htz, hj⟩ := HX.out
      clear HX
      by_cases hlt : m < xs.length
      · obtain ⟨ad, rfl, had, hcell⟩ := HC.out wr HB.out m hlt
        by_cases h300 : (300 : Int) < ((xs[m]).size : Int)
        · generalize xs[m] = x at hcell h300
          go_wp2
          go_ret
          exact ⟨rfl, HB.out⟩
        · have hxs : (xs[m]).size ≤ 300 := by omega
          have PP : Hid (Calls _ _ _ _ _) := pput_law (w1.heap.size + 2) (w1.heap.size + 1) w1.heap.size tv ts xs[m] wr hp (by omega) (by omega)
          have HHJ : Hid (∀ (j : Nat) (h : j < m) (h2 : j < xs.length), ∃ k : Nat, ns[j]? = some (k : Int) ∧ ts[k]? = some xs[j]) := hj
          have HOW : Hid (Ow (w1.heap.size + 2) wr (.slice na m nc) ns) := hown
          have HPR : Hid (PoolAt (w1.heap.size + 2) wr (w1.heap.size + 1) w1.heap.size tv ts) := hp
          have HTZ : Hid (∀ t ∈ ts, t.size ≤ 300) := htz
          have HNS : Hid (ns.length = m) := hns
          clear hown hp htz hns hj
          obtain ⟨x, hx⟩ : ∃ x, xs[m] = x := ⟨_, rfl⟩
          have HXM : Hid (xs[m] = x) := hx
          rw [hx] at PP hcell h300 hxs
          clear hx
          go_upto_region 14 with (go_at_call 6; refine Calls.mono PP.out ?_; rintro r w3 ⟨k, ts', tv', rfl, hk, hold, hl', hmem, hp3, hkp⟩)
          have B3 : Hid (Below w.heap.size w w3) := hkp.below HPR.out HB.out (by omega) (by omega) (by omega)
          have OW3 : Hid (Ow (w1.heap.size + 2) w3 (.slice na m nc) ns) := row_far HOW.out (fun q hq hlt => hkp.block q hlt (by have := (World.ownsRow.lt HOW.out q hq).1; omega) (by have := (World.ownsRow.lt HOW.out q hq).1; omega) (row_apart HOW.out HPR.out.row (by decide) q hq))
          have hkl : k < ts'.length := (List.getElem?_eq_some_iff.1 hk).1
          have hkl' : (k : Int) < (ts'.length : Int) := by omega
          have HK : Hid (ts'[k]? = some x) := hk
          have HOLD : Hid (∀ (j : Nat) (y : ByteArray), ts[j]? = some y → ts'[j]? = some y) := hold
          have HMEM : Hid (∀ t ∈ ts', t ∈ ts ∨ t = x) := hmem
          have HP3 : Hid (PoolAt (w1.heap.size + 2) w3 (w1.heap.size + 1) w1.heap.size tv' ts') := hp3
          have L3 : Hid (Calls _ _ _ _ _) := plen_any (w1.heap.size + 2) (w1.heap.size + 1) w1.heap.size tv' ts' w3 hp3
          have hs3 : w1.heap.size + 2 ≤ w3.heap.size := hp3.le
          clear PP hk hold hmem hp3 hkp hcell HOW HPR
          have NC : Hid (∀ (j : Nat) (u : Value), [Value.int .i64 (k : Int)][j]? = some u → (w3.alloc (.cells #[.int .i64 (k : Int)] 3)).cell? ((⟨w3.heap.size, 0, none⟩ : Addr).add j) = some u) := fun j u hj => by
            match j, hj with
            | 0, hj => simp at hj; subst hj; simp [Addr.add]
          have OW3' : Hid (World.ownsRow (w3.alloc (.cells #[.int .i64 (k : Int)] 3)) (w1.heap.size + 2) 3 1 (.slice na m nc) m (ns.map (Value.int .i64))) := by
            have := World.ownsRow.alloc OW3.out (.cells #[.int .i64 (k : Int)] 3)
            rw [HNS.out] at this
            exact this
          go_upto_region 17 with (first
            | (go_at_call 7; refine Calls.mono L3.out ?_; rintro r w4 ⟨rfl, hq⟩; have hq := hq.symm; subst hq)
            | (at_builtin; refine wpList_append_own_at _ rfl _ _ 26 rfl (w1.heap.size + 2) 3 i0 (.int .i64 0) 1 8 Tryd.underlying26 hi hz0 hz1 hz2 rfl (by decide) _ _ _ rfl OW3'.out ⟨w3.heap.size, 0, none⟩ 1 1 [.int .i64 (k : Int)] rfl rfl NC.out (fun v hv => by rw [List.mem_singleton.1 hv]; rfl) (by unfold maxLen; omega) (by omega) (by rw [World.size_alloc]; omega) ?_; intro v' w5 hown' hgrow _ hat; obtain ⟨gb, capb, rfl⟩ := Joins.ownsRow_form hown' (by omega)))
          have G5 : Hid (World.grownBy (w3.alloc (.cells #[.int .i64 (k : Int)] 3)) w5 (Value.slice na m nc).ownBlock) := hgrow
          have O5 : Hid (World.ownsRow w5 (w1.heap.size + 2) 3 1 (.slice (some ⟨gb, 0, none⟩) (m + 1) capb) (m + 1) (ns.map (Value.int .i64) ++ [.int .i64 (k : Int)])) := hown'
          have B5 : Hid (Below w.heap.size w w5) := by
            have q := below_then B3.out (below_alloc w3 (.cells #[.int .i64 (k : Int)] 3))
            exact ⟨G5.out.os.trans q.os, G5.out.tape.trans q.tape, G5.out.output.trans q.output, Nat.le_trans q.size G5.out.size, fun j hj => (G5.out.block j (Nat.lt_of_lt_of_le hj q.size) (fun e => by have := (World.ownsRow.lt OW3.out j e.symm).1; omega)).trans (q.block j hj)⟩
          have P5 : Hid (PoolAt (w1.heap.size + 2) w5 (w1.heap.size + 1) w1.heap.size tv' ts') := by
            have q := HP3.out.step (below_alloc w3 (.cells #[.int .i64 (k : Int)] 3))
            refine PoolAt.far q G5.out.size (fun j hj hh => G5.out.block j hj (fun e => ?_))
            have hlo := (World.ownsRow.lt OW3.out j e.symm).1
            rcases hh with rfl | rfl | hh
            · omega
            · omega
            · exact row_apart OW3.out HP3.out.row (by decide) j e.symm hh
          have HJ5 : Hid (∀ (j : Nat) (h : j < m + 1) (h2 : j < xs.length), ∃ k2 : Nat, (ns ++ [(k : Int)])[j]? = some (k2 : Int) ∧ ts'[k2]? = some xs[j]) := fun j hj h2 => by
            have hnl := HNS.out
            rcases Nat.lt_or_ge j m with hjm | hjm
            · obtain ⟨k2, q1, q2⟩ := HHJ.out j hjm h2
              exact ⟨k2, by rw [List.getElem?_append_left (by omega)]; exact q1, HOLD.out _ _ q2⟩
            · have : j = m := by omega
              subst this
              refine ⟨k, ?_, ?_⟩
              · rw [List.getElem?_append_right (by omega), show j - ns.length = 0 by omega]; rfl
              · rw [HXM.out]; exact HK.out
          have hgb : gb < w5.heap.size := (row_cell O5.out m (.int .i64 (k : Int)) (by rw [List.getElem?_append_right (by rw [List.length_map]; have := HNS.out; omega), List.length_map, HNS.out, Nat.sub_self]; rfl)).2
          clear hgrow hown' hat OW3' NC L3 OW3 HP3 B3 HOLD HHJ
          go_wp2
          go_loopw [9] (fun jv wx => ∃ j : Nat, j ≤ m ∧ jv = .int .i64 j ∧ Hid (Below w5.heap.size w5 wx)) (fun jv _ => m - (intOf jv).toNat)
          case atStart => exact ⟨0, Nat.zero_le _, rfl, Below.refl _ _⟩
          case round =>
            obtain ⟨j, hjm, rfl, HBX⟩ := hrel
            have hBX : Below w.heap.size w wr := below_then B5.out HBX.out
            obtain ⟨ad2, e2, _, hcm⟩ := HC.out wr hBX m hlt
            obtain rfl : ad = ad2 := Option.some.inj e2
            rw [HXM.out] at hcm
            by_cases hjlt : j < m
            · obtain ⟨ad3, e3, _, hcj⟩ := HC.out wr hBX j (by omega)
              obtain rfl : ad = ad3 := Option.some.inj e3
              obtain ⟨k2, hk2, hk3⟩ := HJ5.out j (by omega) (by omega)
              have hcn : wr.cell? ⟨gb, j, none⟩ = some (.int .i64 (k2 : Int)) := by
                have q : (ns.map (Value.int .i64) ++ [.int .i64 (k : Int)])[j]? = some (.int .i64 (k2 : Int)) := by
                  have := congrArg (Option.map (Value.int .i64)) hk2
                  rw [← List.getElem?_map, List.map_append] at this
                  exact this
                exact cell_step (row_cell O5.out j _ q).1 HBX.out
              have g1 : (0 : Int) ≤ (j : Int) := by omega
              have g2 : (j : Int) < ((m + 1 : Nat) : Int) := by omega
              have g3 : (j : Int) < (xs.length : Int) := by omega
              have g4 : (0 : Int) ≤ (m : Int) := by omega
              have g5 : (m : Int) < (xs.length : Int) := by omega
              have g6 : (j : Int) < (m : Int) := by omega
              by_cases he : xs[j] = x
              · rw [he] at hcj hk3
                have hkk : k2 = k := P5.out.one hk3 HK.out
                rw [hkk] at hcn
                clear hk2 hk3 he hkk e2 e3
                go_wp2
                go_region
                go_wp2
                go_roundw
                case rel => exact ⟨j + 1, by omega, by go_num, below_then HBX.out (pl_drew _ 1)⟩
                case measure => simp [intOf]; omega
              · have hkk : ¬ ((k2 : Int) = (k : Int)) := fun q => he (by
                  have q' : k2 = k := by omega
                  rw [q', HK.out] at hk3
                  exact (Option.some.inj hk3).symm)
                have hne := pl_ne he
                clear hk2 hk3 e2 e3
                generalize xs[j] = y at hcj hne he
                clear he
                go_wp2
                go_region
                go_wp2
                go_roundw
                case rel => exact ⟨j + 1, by omega, by go_num, below_then HBX.out (pl_drew _ 1)⟩
                case measure => simp [intOf]; omega
            · have hjm2 : j = m := by omega
              have GT : Hid (Calls Tryd.prog 8 #[.pointer (some ⟨w1.heap.size + 1, 0, none⟩), .int .i64 k] wr fun r w' => r = .returned (.tuple #[.string x, .nilIface]) ∧ w' = wr) := by
                have := pget_ok (w1.heap.size + 2) (w1.heap.size + 1) w1.heap.size tv' ts' k hkl wr (P5.out.step HBX.out)
                have e : ts'[k] = x := by
                  have := HK.out
                  rw [List.getElem?_eq_getElem hkl] at this
                  exact Option.some.inj this
                rw [e] at this
                exact this
              clear e2
              go_wp2_with (go_at_call 8; refine Calls.mono GT.out ?_; rintro r w' ⟨rfl, hq⟩; have hq := hq.symm; subst hq)
              go_roundw
              case rel =>
                refine ⟨m + 1, by omega, by go_num, hBX, some ⟨gb, 0, none⟩, capb, rfl, ns ++ [(k : Int)], ts', tv', ?_, ?_, P5.out.step HBX.out, by omega, ?_, HJ5.out⟩
                · rw [List.length_append, HNS.out]; rfl
                · have q := row_far O5.out (fun b _ hb => HBX.out.block b hb)
                  unfold Ow
                  rw [List.length_append, HNS.out, List.map_append]
                  exact q
                · intro t ht
                  rcases HMEM.out t ht with q | q
                  · exact HTZ.out t q
                  · rw [q]; exact hxs
              case measure => simp [intOf]; omega
      · have hmx : m = xs.length := by omega
        have hl60 : ts.length ≤ 60 := by omega
        have HZ : Hid (∀ t ∈ ts, t.size ≤ 10000) := fun t ht => by have := htz t ht; omega
        have TX : Hid (∀ W, Below wr.heap.size wr W → Calls Tryd.prog 10 #[.pointer (some ⟨w1.heap.size + 1, 0, none⟩)] W fun r w' => r = .returned (.string (bs (plT ts))) ∧ Below W.heap.size W w') := fun W hW => ptext_any (w1.heap.size + 2) (w1.heap.size + 1) w1.heap.size tv ts W (HGN.out.step (below_then HB.out hW)) (hp.step hW) HZ.out (by omega)
        have LN : Hid (∀ W, Below wr.heap.size wr W → Calls Tryd.prog 7 #[.pointer (some ⟨w1.heap.size + 1, 0, none⟩)] W fun r w' => r = .returned (.int .i64 ts.length) ∧ w' = W) := fun W hW => plen_any (w1.heap.size + 2) (w1.heap.size + 1) w1.heap.size tv ts W (hp.step hW)
        have hrd : rd [] (bs (plT ts)).data.toList = (some ts, 0, 0) := by
          rw [bs_data]
          have := rd_text ts [] HZ.out hp.nodup (by simp) (by simp; omega)
          rw [List.nil_append] at this
          exact this
        have hsz : (bs (plT ts)).size ≤ 1048576 := by
          rw [Lib.size_eq, bs_data]
          have := plT_len (ts := ts) (B := 300) (by omega) htz
          omega
        have RD : Hid (∀ W, Below wr.heap.size wr W → Calls Tryd.prog 9 #[.string (bs (plT ts))] W fun r w' => ∃ lo pb mb tv2, r = .returned (.tuple #[.pointer (some ⟨pb, 0, none⟩), .nilIface]) ∧ PoolAt lo w' pb mb tv2 ts ∧ w1.heap.size + 1 < pb ∧ Below W.heap.size W w' ∧ ∀ W2, Below w'.heap.size w' W2 → Calls Tryd.prog 10 #[.pointer (some ⟨pb, 0, none⟩)] W2 fun r w'' => r = .returned (.string (bs (plT ts))) ∧ Below W2.heap.size W2 w'') := fun W hW => by
          refine Calls.mono (pread_any (bs (plT ts)) sn W (HG.out.step (below_then HB.out hW)) (HGN.out.step (below_then HB.out hW)) hsz) ?_
          rintro r w' ⟨q, hb⟩
          have hle := (hp.step hW).le
          rcases q with ⟨ts2, lo, pb, mb, tv2, q1, q2, q3, q4, _⟩ | ⟨k, n, fb, q1, _⟩
          · rw [hrd] at q1
            have e : ts = ts2 := Option.some.inj (congrArg Prod.fst q1)
            subst e
            exact ⟨lo, pb, mb, tv2, q2, q3, by omega, hb, fun W2 hW2 => ptext_any lo pb mb tv2 ts W2 (HGN.out.step (below_then HB.out (below_then hW (below_then hb hW2)))) (q3.step hW2) HZ.out (by omega)⟩
          · rw [hrd] at q1
            cases congrArg Prod.fst q1
        clear hown hp hj hrd hsz htz
        generalize bs (plT ts) = tx at TX RD
        clear hns hm htl hlt hl60 HZ
        obtain rfl := hmx
        go_upto_region 26 with (first
          | (go_at_call 10; refine Calls.mono (TX.out _ (Below.refl _ _)) ?_; rintro r w3 ⟨rfl, hb3⟩)
          | (go_at_call 9; refine Calls.mono (RD.out _ hb3) ?_; rintro r w4 ⟨lo, pb, mb, tv2, rfl, hp4, hpb, hb4, htq⟩))
        have B4 : Hid (Below wr.heap.size wr w4) := below_then hb3 hb4
        have HP4 : Hid (PoolAt lo w4 pb mb tv2 ts) := hp4
        have TQ : Hid (Calls Tryd.prog 10 #[.pointer (some ⟨pb, 0, none⟩)] w4 fun r w'' => r = .returned (.string tx) ∧ Below w4.heap.size w4 w'') := htq w4 (Below.refl _ _)
        clear hb3 hb4 RD hp4 htq
        go_wp2_with (first
          | (go_at_call_of 10 (Value.pointer (some ⟨pb, 0, none⟩)); refine Calls.mono TQ.out ?_; rintro r w5 ⟨rfl, hb5⟩; have B5 : Hid (Below wr.heap.size wr w5) := below_then B4.out hb5; have H5 : Hid (Below w4.heap.size w4 w5) := hb5)
          | (go_at_call 10; refine Calls.mono (TX.out w5 B5.out) ?_; rintro r w6 ⟨rfl, hb6⟩; have B6 : Hid (Below wr.heap.size wr w6) := below_then B5.out hb6; have LQ : Hid (Calls _ _ _ _ _) := plen_any lo pb mb tv2 ts w6 (HP4.out.step (below_then H5.out hb6)); have LP : Hid (Calls _ _ _ _ _) := LN.out w6 B6.out)
          | (go_at_call_of 7 (Value.pointer (some ⟨pb, 0, none⟩)); refine Calls.mono LQ.out ?_; rintro r w7 ⟨rfl, hq⟩; have hq := hq.symm; subst hq)
          | (go_at_call 7; refine Calls.mono LP.out ?_; rintro r w7 ⟨rfl, hq⟩; have hq := hq.symm; subst hq))
        go_ret
        exact ⟨rfl, below_then HB.out B6.out⟩
end Go.Proofs.YtifbhedomcgonaaDoor
