/- Package pool's Text. -/
import Derived.Test.YtbocknocmggcpaaGreatDoorPlN
namespace Go.Proofs.YtbocknocmggcpaaGreatDoor
open Go Go.RowKit Go.Maps Cal
attribute [local go_sem] Oper.semAt_some

/-- a pool's text -/
noncomputable def plT (ts : List ByteArray) : List UInt8 := ts.flatMap fun t => Lib.itoa t.size ++ [58] ++ t.data.toList ++ [10]
theorem plT_snoc (ts : List ByteArray) (t : ByteArray) : plT (ts ++ [t]) = plT ts ++ Lib.itoa t.size ++ [58] ++ t.data.toList ++ [10] := by
  unfold plT
  rw [List.flatMap_append, List.flatMap_cons, List.flatMap_nil, List.append_nil]
  simp only [List.append_assoc]
theorem plT_cons (t : ByteArray) (ts : List ByteArray) : plT (t :: ts) = Lib.itoa t.size ++ [58] ++ t.data.toList ++ [10] ++ plT ts := rfl
theorem plT_len {ts : List ByteArray} {B : Nat} (hB : B ≤ 999999) (h : ∀ t ∈ ts, t.size ≤ B) : (plT ts).length ≤ ts.length * (B + 8) := by
  induction ts with
  | nil => simp [plT]
  | cons t r ih =>
    have h1 := h t List.mem_cons_self
    have h2 := itoa_len (t.size : Int) (by omega) (by omega)
    have h3 := ih (fun x hx => h x (List.mem_cons_of_mem _ hx))
    have h4 : t.data.toList.length = t.size := (Lib.size_eq t).symm
    rw [plT_cons]
    simp only [List.length_append, List.length_cons, List.length_nil]
    rw [Nat.add_mul]
    omega

theorem plsized_any (s : ByteArray) (w : World) (ht : Tab w) (hs : s.size ≤ 999999) :
    Calls Tryz.prog 42 #[.string s, .string ⟨#[10]⟩] w fun r w' => r = .returned (.string (bs (Lib.itoa s.size ++ [58] ++ s.data.toList ++ [10]))) ∧ Below w.heap.size w w' := by
  have I : Hid (Calls Tryz.prog 49 #[.int .i64 s.size] w fun e w' => e = .returned (.string (bs (Lib.itoa s.size))) ∧ Below w.heap.size w w') := itoa_all s.size w (by omega) (by omega) ht
  have hil : (bs (Lib.itoa s.size)).size ≤ 10 := by
    rw [Lib.size_eq, bs_data]
    have := itoa_len (s.size : Int) (by omega) (by omega)
    omega
  have k1 : ¬ 9223372036854775807 < (bs (Lib.itoa s.size)).size + 1 := by omega
  have k2 : ¬ 9223372036854775807 < (bs (Lib.itoa s.size)).size + 1 + s.size := by omega
  have k3 : ¬ 9223372036854775807 < (bs (Lib.itoa s.size)).size + 1 + s.size + 1 := by omega
  have e : bs (Lib.itoa s.size) ++ ⟨#[58]⟩ ++ s ++ ⟨#[10]⟩ = bs (Lib.itoa s.size ++ [58] ++ s.data.toList ++ [10]) := pl_ext (by simp [bs])
  rw [← e]
  clear e ht hs hil
  generalize bs (Lib.itoa s.size) = si at I k1 k2 k3 ⊢
  go_enter Tryz.func42, Tryz.ntmps42
  go_wp2_with (go_at_call 49; refine Calls.mono I.out ?_; rintro r w1 ⟨rfl, hb1⟩)
  go_ret
  exact ⟨rfl, hb1⟩

set_option maxHeartbeats 1000000 in
set_option maxRecDepth 100000 in
theorem ptext_row (pb : Nat) (a : Option Addr) (c : Nat) (ts : List ByteArray) (w : World) (gn : GlobN w) (h0 : w.cell? ⟨pb, 0, none⟩ = some (.slice a ts.length c)) (hc : ∀ (j : Nat) (hj : j < ts.length), ∃ b, a = some ⟨b, 0, none⟩ ∧ b < w.heap.size ∧ w.cell? ⟨b, j, none⟩ = some (.string ts[j])) (hz : ∀ t ∈ ts, t.size ≤ 10000) (hl : ts.length ≤ 1000) :
    Calls Tryz.prog 16 #[.pointer (some ⟨pb, 0, none⟩)] w fun r w' => r = .returned (.string (bs (plT ts))) ∧ Below w.heap.size w w' := by
  have hA := below_alloc w (.cells #[.pointer none, .slice none 0 0] 50)
  have PB0 : Hid (PB w [] (w.alloc (.cells #[.pointer none, .slice none 0 0] 50))) := PB.new w
  have x0 := cell_step h0 hA
  have HC : Hid (∀ W, Below w.heap.size w W → ∀ (j : Nat) (hj : j < ts.length), ∃ b, a = some ⟨b, 0, none⟩ ∧ W.cell? ⟨b, j, none⟩ = some (.string ts[j])) := fun W hW j hj => by
    obtain ⟨b, q1, q2, q3⟩ := hc j hj
    exact ⟨b, q1, cell_step q3 hW⟩
  have HTL : Hid (∀ j, j ≤ ts.length → (plT (ts.take j)).length ≤ 20000000) := fun j hj => by
    have := plT_len (ts := ts.take j) (B := 10000) (by omega) (fun t ht => hz t (List.mem_of_mem_take ht))
    rw [List.length_take] at this
    omega
  have HGN : Hid (GlobN w) := gn
  have HZ : Hid (∀ t ∈ ts, t.size ≤ 10000) := hz
  clear hc h0 gn hz
  generalize htx : bs (plT ts) = tx
  have HTX : Hid (bs (plT ts) = tx) := htx
  clear htx
  go_enter Tryz.func16, Tryz.ntmps16
  go_upto_region 2 with (fail)
  clear hA
  generalize w.alloc (.cells #[.pointer none, .slice none 0 0] 50) = w0 at PB0 x0 ⊢
  go_wp2
  go_loopw [5, 11] (fun _ i wr => ∃ m : Nat, m ≤ ts.length ∧ i = .int .i64 m ∧ Hid (PB w (plT (ts.take m)) wr)) (fun _ i _ => ts.length - (intOf i).toNat)
  case atStart => exact ⟨0, Nat.zero_le _, rfl, PB0.out⟩
  case round =>
    obtain ⟨m, hm, rfl, HP⟩ := hrel
    by_cases hlt : m < ts.length
    · obtain ⟨b, rfl, hcell⟩ := HC.out wr HP.out.1 m hlt
      have HTK : Hid (plT (ts.take (m + 1)) = plT (ts.take m) ++ Lib.itoa (ts[m]).size ++ [58] ++ (ts[m]).data.toList ++ [10]) := by
        show _ = _
        rw [List.take_succ_eq_append_getElem hlt, plT_snoc]
      have hl1 := HTL.out m hm
      have ht : (ts[m]).size ≤ 10000 := HZ.out _ (List.getElem_mem hlt)
      have hil := itoa_len ((ts[m]).size : Int) (by omega) (by omega)
      have hdl : (ts[m]).data.toList.length = (ts[m]).size := (Lib.size_eq _).symm
      generalize ts[m] = t at hcell HTK ht hil hdl
      generalize plT (ts.take m) = acc at HP HTK hl1
      have IT : Hid (Calls Tryz.prog 42 #[.string t, .string ⟨#[10]⟩] wr fun r w' => r = .returned (.string (bs (Lib.itoa t.size ++ [58] ++ t.data.toList ++ [10]))) ∧ Below wr.heap.size wr w') := plsized_any t wr (HGN.out.tab.step HP.out.1) (by omega)
      have W1 : Hid (∀ W, Below wr.heap.size wr W → Calls Tryz.prog 19 #[.pointer (some ⟨w.heap.size, 0, none⟩), .string (bs (Lib.itoa t.size ++ [58] ++ t.data.toList ++ [10]))] W fun r w' => (∃ v, r = .returned (.tuple #[v, .nilIface])) ∧ PB w (acc ++ Lib.itoa t.size ++ [58] ++ t.data.toList ++ [10]) w') := fun W hW => by
        refine Calls.mono (pwrite w acc (bs (Lib.itoa t.size ++ [58] ++ t.data.toList ++ [10])) W (HP.out.step hW) (by rw [Lib.size_eq, bs_data]; simp only [List.length_append, List.length_cons, List.length_nil]; omega)) ?_
        rintro r w' ⟨q1, q2⟩
        rw [bs_data] at q2
        refine ⟨⟨_, q1⟩, ?_⟩
        rw [show acc ++ Lib.itoa t.size ++ [58] ++ t.data.toList ++ [10] = acc ++ (Lib.itoa t.size ++ [58] ++ t.data.toList ++ [10]) by simp only [List.append_assoc]]
        exact q2
      clear hil hdl
      generalize bs (Lib.itoa t.size ++ [58] ++ t.data.toList ++ [10]) = it at IT W1
      go_wp2_with (first
        | (go_at_call 42; refine Calls.mono IT.out ?_; rintro r w1 ⟨rfl, hb1⟩)
        | (go_at_call 19; refine Calls.mono (W1.out _ hb1) ?_; rintro r w5 ⟨⟨v5, rfl⟩, hp5⟩))
      go_roundw
      case rel => exact ⟨m + 1, by omega, by go_num, by rw [HTK.out]; exact hp5⟩
      case measure => simp [intOf]; omega
    · have hfin : ts.take m = ts := List.take_of_length_le (by omega)
      have HBE : Hid (Calls Tryz.prog 23 #[.pointer (some ⟨w.heap.size, 0, none⟩)] wr fun r w' => r = .returned (.string (bs (plT ts))) ∧ Below w.heap.size w w') := by
        have := HP.out
        rw [hfin] at this
        exact pstring w (plT ts) wr this
      clear HP hfin
      rw [HTX.out] at HBE
      go_wp2_with (go_at_call 23; refine Calls.mono HBE.out ?_; rintro r w5 ⟨rfl, hb5⟩)
      go_ret
      exact ⟨rfl, hb5⟩
theorem ptext_any (lo pb mb : Nat) (tv : Value) (ts : List ByteArray) (w : World) (gn : GlobN w) (h : PoolAt lo w pb mb tv ts) (hz : ∀ t ∈ ts, t.size ≤ 10000) (hl : ts.length ≤ 1000) :
    Calls Tryz.prog 16 #[.pointer (some ⟨pb, 0, none⟩)] w fun r w' => r = .returned (.string (bs (plT ts))) ∧ Below w.heap.size w w' := by
  have x0 := h.cells.1
  obtain ⟨a, c, rfl, hc⟩ := h.form
  exact ptext_row pb a c ts w gn x0 hc hz hl
end Go.Proofs.YtbocknocmggcpaaGreatDoor
