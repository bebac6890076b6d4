/- Package tape: Append, Read, Recover. -/
import Derived.Test.YtcaeafgkogfgdaaDoorTpW
import Derived.Maps.AppendAt
namespace Go.Proofs.YtcaeafgkogfgdaaDoor
open Go Go.RowKit Go.Maps Cal Pk
attribute [local go_sem] Oper.semAt_some

/-- a row of texts that a call owns -/
abbrev TxR (base : Nat) (W : World) (v : Value) (X : List (List UInt8)) : Prop := W.ownsRow base 9 1 v X.length (X.map fun x => Value.string (bs x))
theorem TxR.step {base : Nat} {W W' : World} {v : Value} {X : List (List UInt8)} (h : TxR base W v X) (hb : Below W.heap.size W W') : TxR base W' v X := World.ownsRow.kept h (grown_below hb none) (by cases v.ownBlock <;> simp)
theorem TxR.keep {base lo : Nat} {W W' : World} {v : Value} {X : List (List UInt8)} (h : TxR base W v X) (hk : TKeep lo W W') : TxR base W' v X := by
  obtain ⟨h1, h2⟩ := h
  refine ⟨h1, h2.imp id ?_⟩
  rintro ⟨g, cap, cur, q1, q2, q3, q4⟩
  exact ⟨g, cap, cur, q1, q2, hk.2 g cur q3, q4⟩
theorem TxR.form {base : Nat} {W : World} {v : Value} {X : List (List UInt8)} (h : TxR base W v X) : ∃ a c, v = .slice a X.length c := by
  rcases h.2 with ⟨rfl, h0⟩ | ⟨g, cap, cur, rfl, _⟩
  · exact ⟨none, 0, by rw [h0]⟩
  · exact ⟨_, _, rfl⟩
theorem tx_info : (Tryd.prog.info? 9).map (fun i => (i.zero, i.size, i.bytes)) = some (some (.string ⟨#[]⟩), 1, 16) := by kernel_rfl
theorem tx_news (W : World) (x : ByteArray) : ∀ (j : Nat) (v : Value), [Value.string x][j]? = some v → (W.alloc (.cells #[.string x] 9)).cell? ((⟨W.heap.size, 0, none⟩ : Addr).add j) = some v := fun j v hv => by
  match j, hv with
  | 0, hv => simp at hv; subst hv; simp [Addr.add]
/-- how long a text is -/
def txLen (v : Value) : Nat := match v with
  | .string s => s.size
  | _ => 0

set_option maxHeartbeats 1000000 in
set_option maxRecDepth 100000 in
theorem tpRead_any (l : List UInt8) (w : World) (g : GlobQ w) (hl : l.length ≤ 2000000) :
    Calls Tryd.prog 12 #[.string (bs l)] w fun r w' => ∃ v, r = .returned (.tuple #[v, .int .i64 ((l.length : Int) - ((rdT l).2.length : Int))]) ∧ TxR w.heap.size w' v (rdT l).1 ∧ Below w.heap.size w w' := by
  obtain ⟨i0, hi, hz0, hz1, hz2⟩ := info_parts tx_info
  have C : Hid (∀ (x : List UInt8) W, Below w.heap.size w W → x.length ≤ 2000000 → Calls Tryd.prog 19 #[.string (bs x), .string ⟨#[10, 46]⟩] W fun r w' => r = szR (cutE [10, 46] x) ∧ Below W.heap.size W w') := fun x W hW hx => szCut_any x [10, 46] W (g.step hW) hx
  have hsl : (bs l).size = l.length := by rw [Lib.size_eq, bs_data]
  have HM : Hid ((rdT l).1.length + (rdT l).2.length ≤ l.length) := (rdT_many l).1
  clear g
  go_enter Tryd.func12, Tryd.ntmps12
  go_wp2
  go_loopw [4, 5] (fun rv sv wr => ∃ (X : List (List UInt8)) (rest : List UInt8) (a : Option Addr) (c : Nat), rv = .slice a X.length c ∧ sv = .string (bs rest) ∧ Hid (TxR w.heap.size wr (.slice a X.length c) X ∧ Below w.heap.size w wr ∧ rdT l = (X ++ (rdT rest).1, (rdT rest).2) ∧ rest.length ≤ l.length)) (fun _ sv _ => txLen sv)
  case atStart => exact ⟨[], l, none, 0, rfl, rfl, World.ownsRow_nil _ _ _ _, Below.refl _ _, rfl, Nat.le_refl _⟩
  case round =>
    obtain ⟨X, rest, a, c, rfl, rfl, HX⟩ := hrel
    obtain ⟨hx, hb, hr, hrl⟩ := HX.out
    clear HX
    have hrs : (bs rest).size = rest.length := by rw [Lib.size_eq, bs_data]
    have CC : Hid (Calls Tryd.prog 19 #[.string (bs rest), .string ⟨#[10, 46]⟩] wr fun r w' => r = szR (cutE [10, 46] rest) ∧ Below wr.heap.size wr w') := C.out rest wr hb (by omega)
    have HROW : Hid (TxR w.heap.size wr (.slice a X.length c) X) := hx
    have HB : Hid (Below w.heap.size w wr) := hb
    have HR : Hid (rdT l = (X ++ (rdT rest).1, (rdT rest).2)) := hr
    have hxl : X.length ≤ 2000000 := by
      have := HM.out
      rw [hr] at this
      simp only [List.length_append] at this
      omega
    clear hx hb hr C
    cases hc : stT rest with
    | none =>
      have HE : Hid (rdT l = (X, rest)) := by
        show _ = _
        rw [HR.out, rdT_no hc, List.append_nil]
      have hw : IntKind.i64.wrap (((bs l).size : Int) - ((bs rest).size : Int)) = ((bs l).size : Int) - ((bs rest).size : Int) := by rw [IntKind.wrap_i64]; omega
      cases hq : cutE [10, 46] rest with
      | none =>
        rw [hq] at CC
        have CC : Hid (Calls Tryd.prog 19 #[.string (bs rest), .string ⟨#[10, 46]⟩] wr fun r w' => r = .returned (.tuple #[.string ⟨#[]⟩, .string ⟨#[]⟩, .bool false]) ∧ Below wr.heap.size wr w') := CC
        have HS : Hid ((bs l).size = l.length ∧ (bs rest).size = rest.length) := ⟨hsl, hrs⟩
        clear hc hq hsl hrs hrl
        generalize bs rest = sr at CC hw HS ⊢
        go_wp2_with (go_at_call 19; refine Calls.mono CC.out ?_; rintro r w1 ⟨rfl, hb1⟩)
        go_ret2
        exact ⟨_, (by rw [HS.out.1, HS.out.2, HE.out]; rfl), by rw [HE.out]; exact TxR.step HROW.out hb1, below_then HB.out hb1⟩
      | some p =>
        obtain ⟨x, b⟩ := p
        rw [hq] at CC
        have CC : Hid (Calls Tryd.prog 19 #[.string (bs rest), .string ⟨#[10, 46]⟩] wr fun r w' => r = .returned (.tuple #[.string (bs x), .string (bs b), .bool true]) ∧ Below wr.heap.size wr w') := CC
        have hxs : (10000 : Int) < ((bs x).size : Int) := by
          have : ¬ x.length ≤ 10000 := fun q => by
            unfold stT at hc
            rw [hq] at hc
            dsimp only at hc
            rw [if_pos q] at hc
            cases hc
          rw [show (bs x).size = x.length by rw [Lib.size_eq, bs_data]]
          omega
        have HS : Hid ((bs l).size = l.length ∧ (bs rest).size = rest.length) := ⟨hsl, hrs⟩
        clear hc hq hsl hrs hrl
        generalize bs rest = sr at CC hw HS ⊢
        generalize bs x = sx at CC hxs
        generalize bs b = sb at CC
        go_wp2_with (go_at_call 19; refine Calls.mono CC.out ?_; rintro r w1 ⟨rfl, hb1⟩)
        go_ret2
        exact ⟨_, (by rw [HS.out.1, HS.out.2, HE.out]; rfl), by rw [HE.out]; exact TxR.step HROW.out hb1, below_then HB.out hb1⟩
    | some p =>
      obtain ⟨x, b⟩ := p
      obtain ⟨hq, hxl2⟩ := stT_some hc
      have hbl := stT_len hc
      rw [hq] at CC
      have CC : Hid (Calls Tryd.prog 19 #[.string (bs rest), .string ⟨#[10, 46]⟩] wr fun r w' => r = .returned (.tuple #[.string (bs x), .string (bs b), .bool true]) ∧ Below wr.heap.size wr w') := CC
      have hxs : ((bs x).size : Int) ≤ 10000 := by
        rw [show (bs x).size = x.length by rw [Lib.size_eq, bs_data]]
        omega
      have HE : Hid (rdT l = ((X ++ [x]) ++ (rdT b).1, (rdT b).2)) := by
        show _ = _
        rw [HR.out, rdT_cons hc]
        simp
      have HLE : Hid (b.length ≤ l.length) := by show _ ≤ _; omega
      have HMS : Hid ((bs b).size < (bs rest).size) := by
        show _ < _
        rw [show (bs b).size = b.length by rw [Lib.size_eq, bs_data]]
        omega
      clear hc hq hsl hrs hrl hxl2 hbl HR
      generalize hX : X.length = n at *
      have HXN : Hid (X.length = n) := hX
      clear hX
      generalize hsx : bs x = sx at CC hxs ⊢
      have HSX : Hid (bs x = sx) := hsx
      clear hsx
      generalize hsb : bs b = sb at CC HMS ⊢
      have HSB : Hid (bs b = sb) := hsb
      clear hsb
      generalize bs rest = sr at CC HMS ⊢
      go_upto_region 6 with (go_at_call 19; refine Calls.mono CC.out ?_; rintro r w1 ⟨rfl, hb1⟩; have HB1 : Hid (Below wr.heap.size wr w1) := hb1; clear hb1)
      have HR2 : Hid (World.ownsRow (w1.alloc (.cells #[.string sx] 9)) w.heap.size 9 1 (.slice a n c) n (X.map fun x => Value.string (bs x))) := by
        have z := TxR.step (TxR.step HROW.out HB1.out) (below_alloc w1 (.cells #[.string sx] 9))
        unfold TxR at z
        rw [HXN.out] at z
        exact z
      have NC : Hid (∀ (j : Nat) (v : Value), [Value.string sx][j]? = some v → (w1.alloc (.cells #[.string sx] 9)).cell? ((⟨w1.heap.size, 0, none⟩ : Addr).add j) = some v) := tx_news w1 sx
      have HBS : Hid (w.heap.size ≤ (w1.alloc (.cells #[.string sx] 9)).heap.size) := by
        show _ ≤ _
        have h1 := HB.out.size
        have h2 := HB1.out.size
        rw [World.size_alloc]
        omega
      go_wp2_with (at_builtin; refine wpList_append_own_at _ (by rfl) _ _ 22 (by rfl) w.heap.size 9 i0 (.string ⟨#[]⟩) 1 16 Tryd.underlying22 hi hz0 hz1 hz2 rfl (by decide) (.slice a n c) n (X.map fun x => Value.string (bs x)) (by rfl) HR2.out ⟨w1.heap.size, 0, none⟩ 1 1 [.string sx] (by rfl) rfl NC.out (fun v hv => by rw [List.mem_singleton.1 hv]; rfl) (by unfold maxLen; omega) (by omega) HBS.out ?_; intro v' w7 hown' hgrow _ hat; have HOWN : Hid (World.ownsRow w7 w.heap.size 9 1 v' (n + 1) ((X.map fun x => Value.string (bs x)) ++ [.string sx])) := hown'; have HGR : Hid (World.grownBy (w1.alloc (.cells #[.string sx] 9)) w7 (Value.slice a n c).ownBlock) := hgrow; clear hown' hgrow hat)
      have HF : Hid (TxR w.heap.size w7 v' (X ++ [x]) ∧ Below w.heap.size w w7) := by
        refine ⟨?_, ?_⟩
        · unfold TxR
          rw [List.length_append, HXN.out, List.map_append]
          show World.ownsRow _ _ _ _ _ (n + 1) (_ ++ [Value.string (bs x)])
          rw [HSX.out]
          exact HOWN.out
        · have z := below_then HB.out (below_then HB1.out (below_alloc w1 (.cells #[.string sx] 9)))
          have zs := z.size
          refine ⟨HGR.out.os.trans z.os, HGR.out.tape.trans z.tape, HGR.out.output.trans z.output, Nat.le_trans z.size HGR.out.size, fun i hi => (HGR.out.block i (by omega) (fun q => ?_)).trans (z.block i hi)⟩
          have := (World.ownsRow.lt HR2.out i q.symm).1
          omega
      obtain ⟨a', c', hv'⟩ := TxR.form HF.out.1
      have HV : Hid (v' = .slice a' (X ++ [x]).length c') := hv'
      clear hv'
      go_roundw
      case rel => exact ⟨X ++ [x], b, a', c', HV.out, by rw [HSB.out], by rw [← HV.out]; exact HF.out.1, HF.out.2, HE.out, HLE.out⟩
      case measure => exact HMS.out
end Go.Proofs.YtcaeafgkogfgdaaDoor
