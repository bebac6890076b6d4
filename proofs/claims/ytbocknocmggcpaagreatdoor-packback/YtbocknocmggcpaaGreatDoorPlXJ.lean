/- The document's pool in memory: Find, Put, Fresh, Text. -/
import Derived.Test.YtbocknocmggcpaaGreatDoorPlMJ
import Derived.Lib.QuietBelow
import Derived.Deep.DeepCutAuto
import Derived.Lib.SmallJoins
namespace Go.Proofs.YtbocknocmggcpaaGreatDoor
open Go Go.RowKit Go.Maps Cal
attribute [local go_sem] Oper.semAt_some

/-- block qb is a pool of the document's (its list: mv); ts: its texts -/
structure MPl (lo : Nat) (W : World) (qb : Nat) (mv : Value) (ts : List ByteArray) : Prop where
  hq : qb < lo
  le : lo ≤ W.heap.size
  blk : W.heap[qb]? = some (.cells #[mv] 40 (0, 0))
  row : W.ownsRow lo 9 1 mv ts.length (ts.map Value.string)
theorem MPl.far {lo : Nat} {W W' : World} {qb : Nat} {mv : Value} {ts : List ByteArray} (h : MPl lo W qb mv ts) (hs : W.heap.size ≤ W'.heap.size) (hk : ∀ k, k < W.heap.size → (k = qb ∨ mv.ownBlock = some k) → W'.heap[k]? = W.heap[k]?) : MPl lo W' qb mv ts := by
  have hle := h.le
  have hq := h.hq
  refine ⟨h.hq, Nat.le_trans h.le hs, (hk qb (by omega) (.inl rfl)).trans h.blk, ⟨h.row.1, ?_⟩⟩
  rcases h.row.2 with h2 | ⟨g, cap, cur, hv, hg, hh, r⟩
  · exact .inl h2
  · refine .inr ⟨g, cap, cur, hv, hg, (hk g (Array.getElem?_eq_some_iff.1 hh).1 (.inr ?_)).trans hh, r⟩
    rw [hv]; rfl
theorem MPl.step {lo : Nat} {W W' : World} {qb : Nat} {mv : Value} {ts : List ByteArray} (h : MPl lo W qb mv ts) (hb : Below W.heap.size W W') : MPl lo W' qb mv ts := h.far hb.size (fun k hk _ => hb.block k hk)
theorem MPl.cell {lo : Nat} {W : World} {qb : Nat} {mv : Value} {ts : List ByteArray} (h : MPl lo W qb mv ts) : W.cell? ⟨qb, 0, none⟩ = some mv := by simp [World.cell?, h.blk]
theorem MPl.form {lo : Nat} {W : World} {qb : Nat} {mv : Value} {ts : List ByteArray} (h : MPl lo W qb mv ts) : ∃ a c, mv = .slice a ts.length c ∧ ∀ (j : Nat) (hj : j < ts.length), ∃ b, a = some ⟨b, 0, none⟩ ∧ b < W.heap.size ∧ W.cell? ⟨b, j, none⟩ = some (.string ts[j]) := by
  rcases h.row.2 with ⟨rfl, h0⟩ | ⟨g, cap, cur, rfl, hg, hh, hcap, hmax, hsz, htake⟩
  · exact ⟨none, 0, by rw [h0], fun j hj => by omega⟩
  · refine ⟨_, _, rfl, fun j hj => ⟨g, rfl, (Array.getElem?_eq_some_iff.1 hh).1, ?_⟩⟩
    have e := congrArg (fun z : List Value => z[j]?) htake
    simp only [List.getElem?_take, List.getElem?_map, Array.getElem?_toList] at e
    rw [if_pos (by omega), List.getElem?_eq_getElem hj] at e
    simp only [World.cell?, hh]
    exact e

set_option maxRecDepth 100000 in
theorem mpfind_any (lo qb : Nat) (mv : Value) (ts : List ByteArray) (x : ByteArray) (w : World) (h : MPl lo w qb mv ts) (hl : ts.length ≤ 1000) :
    Calls Tryz.prog 52 #[.pointer (some ⟨qb, 0, none⟩), .string x] w fun r w' => w' = w ∧ ((∃ i : Nat, ts[i]? = some x ∧ r = .returned (.int .i64 i)) ∨ (x ∉ ts ∧ r = .returned (.int .i64 (-1)))) := by
  have x0 := h.cell
  obtain ⟨a, c, rfl, hc⟩ := h.form
  have HC : Hid (_) := hc
  clear h hc
  go_enter Tryz.func52, Tryz.ntmps52
  go_wp2
  go_loop [5] (fun i => ∃ m : Nat, m ≤ ts.length ∧ i = .int .i64 m ∧ Hid (x ∉ ts.take m)) (fun i => ts.length - (intOf i).toNat)
  case atStart => exact ⟨0, Nat.zero_le _, rfl, by show _ ∉ _; simp⟩
  case round =>
    obtain ⟨m, hm, rfl, HN⟩ := hrel
    by_cases hlt : m < ts.length
    · obtain ⟨b, rfl, hb, hcell⟩ := HC.out m hlt
      by_cases he : ts[m] = x
      · have HI : Hid (ts[m]? = some x) := by show _ = _; rw [List.getElem?_eq_getElem hlt, he]
        rw [he] at hcell
        clear he HC
        go_wp2
        go_ret
        exact ⟨rfl, .inl ⟨m, HI.out, rfl⟩⟩
      · have hne := pl_ne he
        have HN2 : Hid (x ∉ ts.take (m + 1)) := by
          show _ ∉ _
          rw [List.take_succ_eq_append_getElem hlt]
          intro q
          rcases List.mem_append.1 q with q | q
          · exact HN.out q
          · exact he (List.mem_singleton.1 q).symm
        generalize ts[m] = y at hcell hne he
        clear he HC
        go_wp2
        go_round
        case rel => exact ⟨m + 1, by omega, by go_num, HN2.out⟩
        case measure => simp [intOf]; omega
    · have HN2 : Hid (x ∉ ts) := by
        show _ ∉ _
        have := HN.out
        rw [List.take_of_length_le (by omega)] at this
        exact this
      clear HC
      go_wp2
      go_ret
      exact ⟨rfl, .inr ⟨HN2.out, rfl⟩⟩

set_option maxHeartbeats 1000000 in
set_option maxRecDepth 100000 in
/-- Put of the document's: its number and an error's, and what it leaves -/
theorem mput_pl (lo qb : Nat) (mv : Value) (ts : List ByteArray) (x : ByteArray) (w : World) (h : MPl lo w qb mv ts) (hl : ts.length ≤ 1000) :
    Calls Tryz.prog 28 #[.pointer (some ⟨qb, 0, none⟩), .string x] w fun r w' =>
      (10000 < x.size ∧ r = .returned (.tuple #[.int .i64 0, .int .i64 2]) ∧ w' = w) ∨
      (x.size ≤ 10000 ∧ ∃ i : Nat, ts[i]? = some x ∧ r = .returned (.tuple #[.int .i64 i, .int .i64 0]) ∧ w' = w) ∨
      (x.size ≤ 10000 ∧ x ∉ ts ∧ 1000 ≤ ts.length ∧ r = .returned (.tuple #[.int .i64 0, .int .i64 7]) ∧ w' = w) ∨
      (x.size ≤ 10000 ∧ x ∉ ts ∧ ts.length < 1000 ∧ r = .returned (.tuple #[.int .i64 ts.length, .int .i64 0]) ∧ ∃ mv', MPl lo w' qb mv' (ts ++ [x]) ∧ PKept w w' qb qb mv ∧ (mv'.ownBlock = mv.ownBlock ∨ ∃ k, w.heap.size ≤ k ∧ mv'.ownBlock = some k)) := by
  by_cases hx : 10000 < x.size
  · have hx' : (10000 : Int) < (x.size : Int) := by omega
    have HX : Hid (10000 < x.size) := hx
    clear h hx
    go_enter Tryz.func28, Tryz.ntmps28
    go_wp2
    go_ret2
    exact .inl ⟨HX.out, rfl, rfl⟩
  · have hx' : (x.size : Int) ≤ 10000 := by omega
    have HX : Hid (x.size ≤ 10000) := by show _ ≤ _; omega
    have F : Hid (Calls _ _ _ _ _) := mpfind_any lo qb mv ts x w h hl
    by_cases hm : x ∈ ts
    · clear h hx
      go_enter Tryz.func28, Tryz.ntmps28
      go_upto_region 4 with (go_at_call 52; refine Calls.mono F.out ?_; rintro r w' ⟨hq, hr⟩; have hq := hq.symm; subst hq; rcases hr with ⟨i, hi, rfl⟩ | ⟨hn, rfl⟩)
      · have HI : Hid (_) := hi
        clear hi F hm
        go_wp2
        go_ret2
        exact .inr (.inl ⟨HX.out, i, HI.out, rfl, rfl⟩)
      · exact absurd hm hn
    · have HM : Hid (x ∉ ts) := hm
      have x0 := h.cell
      rcases Nat.lt_or_ge ts.length 1000 with h2 | h2
      · have HL : Hid (ts.length < 1000) := h2
        obtain ⟨i0, hi, hz0, hz1, hz2⟩ := info_parts pl_info
        have hA := below_alloc w (.cells #[.string x] 9)
        have HROW : Hid (World.ownsRow (w.alloc (.cells #[.string x] 9)) lo 9 1 mv ts.length (ts.map Value.string)) := (h.step hA).row
        have HBLK : Hid (w.heap[qb]? = some (.cells #[mv] 40 (0, 0))) := h.blk
        have HP : Hid (qb < lo ∧ lo ≤ w.heap.size) := ⟨h.hq, h.le⟩
        have HNB : Hid (∀ k, k < lo → mv.ownBlock ≠ some k) := fun k hk q => by have := (World.ownsRow.lt h.row k q).1; omega
        have hl' : (ts.length : Int) < 1000 := by omega
        have NC : Hid (∀ (j : Nat) (u : Value), [Value.string x][j]? = some u → (w.alloc (.cells #[.string x] 9)).cell? ((⟨w.heap.size, 0, none⟩ : Addr).add j) = some u) := fun j u hj => by
          match j, hj with
          | 0, hj => simp at hj; subst hj; simp [Addr.add]
        obtain ⟨ta, tc, rfl, _⟩ := h.form
        clear h hx h2
        go_enter Tryz.func28, Tryz.ntmps28
        go_upto_region 4 with (go_at_call 52; refine Calls.mono F.out ?_; rintro r w' ⟨hq, hr⟩; have hq := hq.symm; subst hq; rcases hr with ⟨i, hi, rfl⟩ | ⟨hn, rfl⟩)
        · exact absurd (List.mem_of_getElem? hi) hm
        · clear F hm hn
          go_upto_region 9 with (at_builtin; refine wpList_append_own_at _ rfl _ _ 22 rfl lo 9 i0 (.string ⟨#[]⟩) 1 16 Tryz.underlying22 hi hz0 hz1 hz2 rfl (by decide) _ _ _ rfl HROW.out ⟨w.heap.size, 0, none⟩ 1 1 [.string x] rfl rfl NC.out (fun v hv => by rw [List.mem_singleton.1 hv]; rfl) (by unfold maxLen; omega) (by omega) (by have := HP.out.2; rw [World.size_alloc]; omega) ?_; intro v' w3 hown' hgrow _ hat; obtain ⟨gb, capb, rfl⟩ := Joins.ownsRow_form hown' (by omega); have hblk3 : w3.heap[qb]? = some (.cells #[.slice ta ts.length tc] 40 (0, 0)) := (hgrow.block qb (by have := HP.out; rw [World.size_alloc]; omega) (fun q => HNB.out qb HP.out.1 q.symm)).trans (block_alloc _ HBLK.out); have z0 : w3.frozen? ⟨qb, 0, none⟩ = false := (by simp [World.frozen?, hblk3]); have y0 : w3.cell? ⟨qb, 0, none⟩ = some (.slice ta ts.length tc) := (by simp [World.cell?, hblk3]))
          have HG3 : Hid (World.grownBy (w.alloc (.cells #[.string x] 9)) w3 (Value.slice ta ts.length tc).ownBlock) := hgrow
          have HAT : Hid ((Value.slice (some ⟨gb, 0, none⟩) (ts.length + 1) capb).ownBlock = (Value.slice ta ts.length tc).ownBlock ∨ (Value.slice (some ⟨gb, 0, none⟩) (ts.length + 1) capb).ownBlock = some (w.heap.size + 1)) := by rw [World.size_alloc] at hat; exact hat
          have HBW : Hid ((w3.setCell ⟨qb, 0, none⟩ (.slice (some ⟨gb, 0, none⟩) (ts.length + 1) capb)).heap[qb]? = some (.cells #[.slice (some ⟨gb, 0, none⟩) (ts.length + 1) capb] 40 (0, 0))) := set_block (i := 0) _ hblk3
          have y2 : (w3.setCell ⟨qb, 0, none⟩ (.slice (some ⟨gb, 0, none⟩) (ts.length + 1) capb)).cell? ⟨qb, 0, none⟩ = some (.slice (some ⟨gb, 0, none⟩) (ts.length + 1) capb) := by simp [World.cell?, HBW.out]
          have HSZ : Hid ((w3.setCell ⟨qb, 0, none⟩ (.slice (some ⟨gb, 0, none⟩) (ts.length + 1) capb)).heap.size = w3.heap.size) := set_size _ _ _
          have HGS : Hid (w3.grownBy (w3.setCell ⟨qb, 0, none⟩ (.slice (some ⟨gb, 0, none⟩) (ts.length + 1) capb)) (some qb)) := grown_set w3 ⟨qb, 0, none⟩ _
          have HO4 : Hid (World.ownsRow (w3.setCell ⟨qb, 0, none⟩ (.slice (some ⟨gb, 0, none⟩) (ts.length + 1) capb)) lo 9 1 (.slice (some ⟨gb, 0, none⟩) (ts.length + 1) capb) (ts.length + 1) (ts.map Value.string ++ [.string x])) := hown'.kept HGS.out (.inr (fun q => by have := (World.ownsRow.lt hown' qb q).1; have := HP.out.1; omega))
          clear hgrow hown' hblk3 hat HROW NC
          go_upto_region 10 with (fail)
          clear y0 z0
          generalize w3.setCell ⟨qb, 0, none⟩ (.slice (some ⟨gb, 0, none⟩) (ts.length + 1) capb) = w4 at HBW y2 HSZ HGS HO4 ⊢
          go_wp2
          go_ret2
          have hp1 := HP.out.1
          have hle := HP.out.2
          have hs3 := HG3.out.size
          rw [World.size_alloc] at hs3
          have hs4 := HSZ.out
          refine .inr (.inr (.inr ⟨HX.out, HM.out, HL.out, ?_, _, ⟨hp1, by omega, HBW.out, ?_⟩, ⟨HGS.out.os.trans HG3.out.os, HGS.out.tape.trans HG3.out.tape, HGS.out.output.trans HG3.out.output, by omega, fun k hk h1 _ h3 => ?_⟩, ?_⟩))
          · simp
          · rw [List.length_append, List.map_append]
            exact HO4.out
          · exact (HGS.out.block k (by omega) (fun q => h1 (Option.some.inj q))).trans ((HG3.out.block k (by rw [World.size_alloc]; omega) (fun q => h3 q.symm)).trans (hA.block k hk))
          · rcases HAT.out with q | q
            · exact .inl q
            · exact .inr ⟨_, Nat.le_succ _, q⟩
      · have HL : Hid (1000 ≤ ts.length) := h2
        have hl' : (1000 : Int) ≤ (ts.length : Int) := by omega
        obtain ⟨ta, tc, rfl, _⟩ := h.form
        clear h hx h2
        go_enter Tryz.func28, Tryz.ntmps28
        go_upto_region 4 with (go_at_call 52; refine Calls.mono F.out ?_; rintro r w' ⟨hq, hr⟩; have hq := hq.symm; subst hq; rcases hr with ⟨i, hi, rfl⟩ | ⟨hn, rfl⟩)
        · exact absurd (List.mem_of_getElem? hi) hm
        · clear F hm hn
          go_wp2
          go_ret2
          exact .inr (.inr (.inl ⟨HX.out, HM.out, HL.out, rfl, rfl⟩))
end Go.Proofs.YtbocknocmggcpaaGreatDoor
