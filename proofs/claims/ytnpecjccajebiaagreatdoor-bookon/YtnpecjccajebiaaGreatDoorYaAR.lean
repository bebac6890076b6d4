/- The law's booked. -/
import Derived.Test.YtnpecjccajebiaaGreatDoorYaAQ
import Derived.BigQuiet
import Derived.Test.YtnpecjccajebiaaGreatDoorYaAK
import Derived.Deep.Slices
namespace Go.Proofs.YtnpecjccajebiaaGreatDoor
open Go Go.RowKit Go.Maps Go.Sort Cal
attribute [local go_sem] Oper.semAt_some

/-- the closed calendar's map -/
def D7 (sl skv mvv : Value) : DataW Value := DataW.put (.map []) (key ⟨#[97]⟩) (.held (ev E7 sl skv mvv))
theorem D7_eq (sl skv mvv : Value) : D7 sl skv mvv = .map [(key ⟨#[97]⟩, .held (ev E7 sl skv mvv))] := rfl
theorem D7_keys (sl skv mvv : Value) : strKeys (D7 sl skv mvv) = [[97]] := rfl
theorem D7_at (sl skv mvv : Value) : (D7 sl skv mvv).atKey (key ⟨#[97]⟩) (.held zV) = .held (ev E7 sl skv mvv) := rfl
theorem D7_has (sl skv mvv : Value) : Maps.has (D7 sl skv mvv) (key ⟨#[97]⟩) = true := rfl
theorem off_ls {N : Nat → Prop} {W : World} {sl skv mvv : Value} (h : Off N W E7 sl skv mvv) : Ls W E7 sl skv mvv := ⟨ints_days h.d.ints (by decide), h.s.ints, h.m.movs⟩
theorem D7_holds {W : World} {sl skv mvv : Value} (h : Ls W E7 sl skv mvv) (d : Int) (b : Bool) (hb : b = true ↔ covers E7 d) : Holds60 W (D7 sl skv mvv) d (fun _ => b) := by
  intro k hk
  rw [D7_keys] at hk
  have hk' : k = [97] := List.mem_singleton.1 hk
  subst hk'
  exact ⟨E7, sl, skv, mvv, rfl, h, by decide, by decide, by decide, hb⟩
theorem on7 (bb mb : Nat) (sl skv mvv : Value) (s : Nat → Addr) (w : World) (g : GlobK s w) (h : Bok w bb (some mb) 1 (D7 sl skv mvv)) (hL : Ls w E7 sl skv mvv) :
    Calls Tryz.prog 17 #[.pointer (some ⟨bb, 0, none⟩), .int .i64 7] w fun r w' => ∃ v, r = .returned v ∧ Txs w' v [⟨#[97]⟩] ∧ Below w.heap.size w w' := by
  refine Calls.mono (on_any bb 1 (some mb) _ 7 _ s w g h (by decide) (D7_holds hL 7 true ⟨fun _ => E7_on, fun _ => rfl⟩)) ?_
  rintro r w' ⟨v, ss, rfl, hp, hr, hb⟩
  rw [D7_keys] at hp
  have hs : ss = [[97]] := List.perm_singleton.1 hp
  subst hs
  rw [List.mergeSort_singleton] at hr
  exact ⟨v, rfl, hr.txs (by decide), hb⟩
theorem on8 (bb mb : Nat) (sl skv mvv : Value) (s : Nat → Addr) (w : World) (g : GlobK s w) (h : Bok w bb (some mb) 1 (D7 sl skv mvv)) (hL : Ls w E7 sl skv mvv) :
    Calls Tryz.prog 17 #[.pointer (some ⟨bb, 0, none⟩), .int .i64 8] w fun r w' => (∃ a c, r = .returned (.slice a 0 c)) ∧ Below w.heap.size w w' := by
  refine Calls.mono (on_any bb 1 (some mb) _ 8 _ s w g h (by decide) (D7_holds hL 8 false ⟨fun q => absurd q (by decide), fun q => absurd q E7_off⟩)) ?_
  rintro r w' ⟨v, ss, rfl, hp, hr, hb⟩
  rw [List.filter_eq_nil_iff.2 (fun _ _ q => absurd q (by decide))] at hr
  obtain ⟨a, c, rfl, _⟩ := hr.txs (by decide)
  exact ⟨⟨a, c, rfl⟩, hb⟩

/-- what Get tells of the closed event -/
theorem get7 (bb mb : Nat) (sl skv mvv : Value) (w : World) (h : Bok w bb (some mb) 1 (D7 sl skv mvv)) (hL : Ls w E7 sl skv mvv) :
    Calls Tryz.prog 14 #[.pointer (some ⟨bb, 0, none⟩), .string ⟨#[97]⟩] w fun r w' => (∃ (ra : Option Addr) (rc : Nat) (sa : Option Addr) (sc : Nat) (ma : Option Addr) (mc : Nat), r = .returned (.tuple #[.agg #[.string ⟨#[97]⟩, .string ⟨#[]⟩, .int .i64 7, .int .i64 1, .string ⟨#[111, 110, 99, 101]⟩, .int .i64 1, .slice ra 0 rc, .int .i64 0, .int .i64 (-1), .slice sa 0 sc, .slice ma 0 mc], .bool true])) ∧ Below w.heap.size w w' := by
  refine Calls.mono (bget_any bb mb 1 _ ⟨#[97]⟩ E7 sl skv mvv w h (by decide) (D7_at _ _ _) hL (by decide) (by decide)) ?_
  rintro r w' ⟨sl', skv', mvv', rfl, hL', hb⟩
  obtain ⟨ra, rc, rfl, _⟩ := hL'.d
  obtain ⟨sa, sc, rfl, _⟩ := hL'.s
  obtain ⟨ma, mc, rfl, _⟩ := hL'.m
  exact ⟨⟨ra, rc, sa, sc, ma, mc, rfl⟩, hb⟩

theorem kept_cell {w w' : World} {bb : Nat} (h : Kept w w' bb none) {b o : Nat} {v : Value} (hc : w.cell? ⟨b, o, none⟩ = some v) (hne : b ≠ bb) : w'.cell? ⟨b, o, none⟩ = some v :=
  (World.cell?_of_block (a := ⟨b, o, none⟩) (h.block b (lt_of_cell hc) hne (by simp))).trans hc

theorem txs_new (w : World) : Txs (w.alloc (.cells #[.string ⟨#[97]⟩] 9)) (.slice (some ⟨w.heap.size, 0, none⟩) 1 1) [⟨#[97]⟩] := by
  refine ⟨_, 1, rfl, by decide, by decide, fun j hj => ⟨w.heap.size, rfl, by rw [World.size_alloc]; omega, ?_⟩⟩
  have hj' : j < 1 := hj
  match j, hj' with
  | 0, _ => exact cell_of (block_at (W := w) (.cells #[.string ⟨#[97]⟩] 9) rfl)

set_option maxHeartbeats 4000000 in
set_option maxRecDepth 100000 in
theorem booked_any (s : Nat → Addr) (w : World) (g : GlobK s w) : Calls Tryz.prog 6 #[] w fun r w' => r = .returned (.bool true) ∧ Below w.heap.size w w' := by
  have NW : Hid (Calls _ _ _ _ _) := new_any w
  have HG : Hid (GlobK s w) := g
  clear g
  go_enter Tryz.func6, Tryz.ntmps6
  go_wp2_with (first
    | (go_at_call 13; refine Calls.mono NW.out ?_; rintro r w1 ⟨rfl, hB1, hb1⟩; have SM : Hid (Calls Tryz.prog 31 #[.string ⟨#[97]⟩, .int .i64 7] w1 fun r w' => r = .returned (ev E7 (.slice none 0 0) (.slice none 0 0) (.slice none 0 0)) ∧ Below w1.heap.size w1 w') := small_any _ _ _; have HB1 : Hid (Bok w1 w.heap.size none 0 (.map [])) := hB1; have BW1 : Hid (Below w.heap.size w w1) := hb1; clear hB1 hb1)
    | (go_at_call 31; refine Calls.mono SM.out ?_; rintro r w2 ⟨rfl, hb2⟩; have BW2 : Hid (Below w.heap.size w w2) := below_then BW1.out hb2; have PT : Hid (Calls _ _ _ _ _) := put7 w.heap.size s w2 (HG.out.step BW2.out) (HB1.out.step hb2); clear hb2)
    | (go_at_call 15; refine Calls.mono PT.out ?_; rintro r w3 ⟨rfl, mb, hmb, sl, skv, mvv, hB3, hO3, hK3⟩; have BW3 : Hid (Below w.heap.size w w3) := hK3.below BW2.out (Nat.le_refl _) (fun m q => by cases q); have HB3 : Hid (Bok w3 w.heap.size (some mb) 1 (D7 sl skv mvv)) := hB3; have HL3 : Hid (Ls w3 E7 sl skv mvv) := off_ls hO3; have GT : Hid (Calls _ _ _ _ _) := get7 w.heap.size mb sl skv mvv w3 HB3.out HL3.out; clear hB3 hO3 hK3 hmb)
    | (go_at_call 14; refine Calls.mono GT.out ?_; rintro r w4 ⟨⟨ra, rc, sa, sc, ma, mc, rfl⟩, hb4⟩; have BW4 : Hid (Below w3.heap.size w3 w4) := hb4; have ON7 : Hid (∀ W, Below w3.heap.size w3 W → _) := fun W hW => on7 w.heap.size mb sl skv mvv s W (HG.out.step (below_then BW3.out hW)) (HB3.out.step hW) (HL3.out.step hW); have ON8 : Hid (∀ W, Below w3.heap.size w3 W → _) := fun W hW => on8 w.heap.size mb sl skv mvv s W (HG.out.step (below_then BW3.out hW)) (HB3.out.step hW) (HL3.out.step hW); clear hb4)
    | (go_at_call_of 17 (Value.int .i64 7); refine Calls.mono (ON7.out _ (below_then BW4.out (below_alloc _ _))) ?_; rintro r w5 ⟨v5, rfl, ht5, hb5⟩; have BW5 : Hid (Below w3.heap.size w3 w5) := below_then (below_then BW4.out (below_alloc _ _)) hb5; have ST : Hid (Calls _ _ _ _ _) := sameTexts_eq (ht5.step (below_alloc _ _)) (txs_new w5); clear ht5 hb5)
    | (go_at_call 29; refine Calls.mono ST.out ?_; rintro r w6 ⟨rfl, hb6⟩; have BW6 : Hid (Below w3.heap.size w3 w6) := below_then (below_then BW5.out (below_alloc _ _)) hb6; clear hb6)
    | (go_at_call 17; refine Calls.mono (ON8.out _ BW6.out) ?_; rintro r w7 ⟨⟨a7, c7, rfl⟩, hb7⟩))
  go_ret
  exact ⟨rfl, below_then BW3.out (below_then BW6.out hb7)⟩
end Go.Proofs.YtnpecjccajebiaaGreatDoor

/- A list of events as an argument; the law's LongEvents. -/
namespace Go.Proofs.YtnpecjccajebiaaGreatDoor
open Go Go.RowKit Go.Maps Cal
attribute [local go_sem] Oper.semAt_some

/-- an event's eleven cells, from place o of block b on -/
structure EvAt (W : World) (b o : Nat) (E : EV) (sl skv mvv : Value) : Prop where
  c0 : W.cell? ⟨b, o, none⟩ = some (.string E.id)
  c1 : W.cell? ⟨b, o + 1, none⟩ = some (.string E.ti)
  c2 : W.cell? ⟨b, o + 2, none⟩ = some (.int .i64 E.st)
  c3 : W.cell? ⟨b, o + 3, none⟩ = some (.int .i64 E.lg)
  c4 : W.cell? ⟨b, o + 4, none⟩ = some (.string E.f)
  c5 : W.cell? ⟨b, o + 5, none⟩ = some (.int .i64 E.e)
  c6 : W.cell? ⟨b, o + 6, none⟩ = some sl
  c7 : W.cell? ⟨b, o + 7, none⟩ = some (.int .i64 E.c)
  c8 : W.cell? ⟨b, o + 8, none⟩ = some (.int .i64 E.u)
  c9 : W.cell? ⟨b, o + 9, none⟩ = some skv
  c10 : W.cell? ⟨b, o + 10, none⟩ = some mvv
theorem EvAt.step {W W' : World} {b o : Nat} {E : EV} {sl skv mvv : Value} (h : EvAt W b o E sl skv mvv) (hb : Below W.heap.size W W') : EvAt W' b o E sl skv mvv :=
  ⟨cell_step h.c0 hb, cell_step h.c1 hb, cell_step h.c2 hb, cell_step h.c3 hb, cell_step h.c4 hb, cell_step h.c5 hb, cell_step h.c6 hb, cell_step h.c7 hb, cell_step h.c8 hb, cell_step h.c9 hb, cell_step h.c10 hb⟩
/-- an event's eleven cells, from any address on -/
structure EvA (W : World) (A : Addr) (E : EV) (sl skv mvv : Value) : Prop where
  c0 : W.cell? A = some (.string E.id)
  c1 : W.cell? ⟨A.block, A.off + 1, none⟩ = some (.string E.ti)
  c2 : W.cell? ⟨A.block, A.off + 2, none⟩ = some (.int .i64 E.st)
  c3 : W.cell? ⟨A.block, A.off + 3, none⟩ = some (.int .i64 E.lg)
  c4 : W.cell? ⟨A.block, A.off + 4, none⟩ = some (.string E.f)
  c5 : W.cell? ⟨A.block, A.off + 5, none⟩ = some (.int .i64 E.e)
  c6 : W.cell? ⟨A.block, A.off + 6, none⟩ = some sl
  c7 : W.cell? ⟨A.block, A.off + 7, none⟩ = some (.int .i64 E.c)
  c8 : W.cell? ⟨A.block, A.off + 8, none⟩ = some (.int .i64 E.u)
  c9 : W.cell? ⟨A.block, A.off + 9, none⟩ = some skv
  c10 : W.cell? ⟨A.block, A.off + 10, none⟩ = some mvv
theorem cellA_lt {W : World} {A : Addr} {u : Value} (h : W.cell? A = some u) : A.block < W.heap.size := by
  rcases Nat.lt_or_ge A.block W.heap.size with q | q
  · exact q
  · simp [World.cell?, Array.getElem?_eq_none q] at h
theorem cellA_step {W W' : World} {A : Addr} {u : Value} (h : W.cell? A = some u) (hb : Below W.heap.size W W') : W'.cell? A = some u := (World.cell?_of_block (a := A) (hb.block _ (cellA_lt h))).trans h
theorem EvA.step {W W' : World} {A : Addr} {E : EV} {sl skv mvv : Value} (h : EvA W A E sl skv mvv) (hb : Below W.heap.size W W') : EvA W' A E sl skv mvv :=
  ⟨cellA_step h.c0 hb, cellA_step h.c1 hb, cellA_step h.c2 hb, cellA_step h.c3 hb, cellA_step h.c4 hb, cellA_step h.c5 hb, cellA_step h.c6 hb, cellA_step h.c7 hb, cellA_step h.c8 hb, cellA_step h.c9 hb, cellA_step h.c10 hb⟩
/-- a list of events that was handed over: their lists may be as long as they are -/
def EvsL (W : World) (v : Value) (Es : List EV) : Prop :=
  ∃ (a : Option Addr) (c : Nat), v = .slice a Es.length c ∧ Es.length ≤ 1000000000000000 ∧ Es.length ≤ c ∧
    ∀ (j : Nat) (h : j < Es.length), ∃ ad : Addr, a = some ad ∧ Es[j].sk.length ≤ 1000000000000000 ∧ Es[j].mv.length ≤ 1000000000000000 ∧ Es[j].ti.size ≤ 1000000000000000 ∧ ∃ ra rc sa sc ma mc, EvA W (ad.add (j * 11)) Es[j] (.slice ra Es[j].ds.length rc) (.slice sa Es[j].sk.length sc) (.slice ma Es[j].mv.length mc) ∧
      Got W (.slice ra Es[j].ds.length rc) Es[j].ds ∧ Got W (.slice sa Es[j].sk.length sc) Es[j].sk ∧ GotM W (.slice ma Es[j].mv.length mc) Es[j].mv
theorem EvsL.step {W W' : World} {v : Value} {Es : List EV} (h : EvsL W v Es) (hb : Below W.heap.size W W') : EvsL W' v Es := by
  obtain ⟨a, c, h1, h2, h3, h4⟩ := h
  refine ⟨a, c, h1, h2, h3, fun j hj => ?_⟩
  obtain ⟨ad, q1, q2, q3, q4, ra, rc, sa, sc, ma, mc, q5, q6, q7, q8⟩ := h4 j hj
  exact ⟨ad, q1, q2, q3, q4, ra, rc, sa, sc, ma, mc, q5.step hb, q6.step hb, q7.step hb, q8.step hb⟩

theorem lng_01 (E : EV) : lngE E = 0 ∨ lngE E = 1 := by
  unfold lngE
  split
  · exact .inr rfl
  · exact .inl rfl

set_option maxHeartbeats 4000000 in
set_option maxRecDepth 100000 in
theorem longEvents_any (Es : List EV) (v : Value) (w : World) (h : EvsL w v Es) :
    Calls Tryz.prog 7 #[v] w fun r w' => ∃ k : Int, r = .returned (.int .i64 k) ∧ (k = 1 ∨ (k = 0 ∧ Es.length ≤ 70 ∧ ∀ E ∈ Es, lngE E = 0)) ∧ Below w.heap.size w w' := by
  obtain ⟨a, cap, rfl, hl, hcap, hc⟩ := h
  have HC : Hid (_) := hc
  clear hc
  by_cases h70 : 70 < Es.length
  · go_enter Tryz.func7, Tryz.ntmps7
    go_wp2
    go_ret
    exact ⟨1, rfl, .inl rfl, Below.refl _ _⟩
  · go_enter Tryz.func7, Tryz.ntmps7
    go_wp2
    go_loopw [3, 4] (fun n i wr => ∃ (m : Nat) (t : Int), m ≤ Es.length ∧ i = .int .i64 m ∧ n = .int .i64 t ∧ 0 ≤ t ∧ t ≤ 1500 ∧ Hid (Below w.heap.size w wr) ∧ Hid (∀ (j : Nat) (h : j < Es.length), j < m → lngE Es[j] = 0)) (fun _ i _ => Es.length - (intOf i).toNat)
    case atStart => exact ⟨0, 0, Nat.zero_le _, rfl, rfl, by omega, by omega, Below.refl _ _, fun j _ h => absurd h (Nat.not_lt_zero _)⟩
    case round =>
      obtain ⟨m, t, hm, rfl, rfl, ht0, ht1, hB, HA⟩ := hrel
      by_cases hlt : m < Es.length
      · obtain ⟨ad, rfl, k1, k2, k3, ra, rc, sa, sc, ma, mc, hE, _, _, _⟩ := HC.out m hlt
        have HN : Hid (lngE Es[m] = 0 → ∀ (j : Nat) (h : j < Es.length), j < m + 1 → lngE Es[j] = 0) := fun q j hj hjk => by
          by_cases ej : j = m
          · subst ej; exact q
          · exact HA.out j hj (by omega)
        have LE : Hid (∀ W, Calls Tryz.prog 32 #[ev Es[m] (.slice ra Es[m].ds.length rc) (.slice sa Es[m].sk.length sc) (.slice ma Es[m].mv.length mc)] W fun r w' => r = .returned (.int .i64 (lngE Es[m])) ∧ Below W.heap.size W w') := fun W => longEvent_any _ _ _ _ _ _ _ W
        have hE2 := hE.step hB.out
        clear HA HC hE
        generalize Es[m] = E at k1 k2 k3 hE2 HN LE
        obtain ⟨x0, x1, x2, x3, x4, x5, x6, x7, x8, x9, x10⟩ := hE2
        unfold ev at LE
        go_wp2_with fail
        go_quiet (fail)
        rcases lng_01 E with hz | hz
        · have HN' : Hid (_) := HN.out hz
          rw [hz] at LE
          clear HN hz
          by_cases hs : (1500 : Int) < t + (E.sk.length : Int) + (E.mv.length : Int) + (E.ti.size : Int)
          · go_wp2_with (go_at_call 32; refine Calls.mono (LE.out _) ?_; rintro r w5 ⟨rfl, hb5⟩)
            go_ret
            exact ⟨1, rfl, .inl rfl, below_then (below_then hB.out (drewN_below _ _)) hb5⟩
          · go_wp2_with (go_at_call 32; refine Calls.mono (LE.out _) ?_; rintro r w5 ⟨rfl, hb5⟩)
            go_roundw
            case rel => exact ⟨m + 1, t + (E.sk.length : Int) + (E.mv.length : Int) + (E.ti.size : Int), by omega, by go_num, by go_num, by omega, by omega, below_then (below_then hB.out (drewN_below _ _)) hb5, HN'.out⟩
            case measure => simp [intOf]; omega
        · rw [hz] at LE
          clear HN hz
          go_wp2_with (go_at_call 32; refine Calls.mono (LE.out _) ?_; rintro r w5 ⟨rfl, hb5⟩)
          go_ret
          exact ⟨1, rfl, .inl rfl, below_then (below_then hB.out (drewN_below _ _)) hb5⟩
      · have HR : Hid (∀ E ∈ Es, lngE E = 0) := fun E hE => by
          obtain ⟨j, hj, rfl⟩ := List.mem_iff_getElem.1 hE
          exact HA.out j hj (by omega)
        clear HA HC
        go_wp2
        go_ret
        exact ⟨0, rfl, .inr ⟨rfl, by omega, HR.out⟩, hB.out⟩
end Go.Proofs.YtnpecjccajebiaaGreatDoor

/- A list of events as an argument, opened. -/
namespace Go.Proofs.YtnpecjccajebiaaGreatDoor
open Go.ChangeShapes Go.WideShapes Go.ChangeAt Go.RowKit Cal

section
variable {H : Type} {enc : TypeId × Value → H} {W : World}
theorem bInt : Tryz.prog.bytesOf 3 = 8 := by kernel_rfl
theorem bMove : Tryz.prog.bytesOf 104 = 16 := by kernel_rfl
theorem bEvent : Tryz.prog.bytesOf 44 = 160 := by kernel_rfl
theorem weights_all {P : Program} {e : TypeId} : ∀ {l : List (DataW H)} {d : DataW H}, d ∈ l → ∀ n ∈ d.weights P e, n ∈ DataW.weightsAll P e l
  | x :: r, d, hd, n, hn => by
    rw [DataW.weightsAll, List.mem_append]
    rcases List.mem_cons.1 hd with rfl | hd
    · exact .inl hn
    · exact .inr (weights_all hd n hn)
  | [], _, hd, _, _ => absurd hd (by simp)
/-- a slice's length, by its weight -/
theorem slice_len {t e : TypeId} {fuel : Nat} {a : Option Addr} {n c : Nat} {x : DataW H × List MemPlace} (ht : Tryz.prog.underlying t = some (.slice e)) (hb : 1 ≤ Tryz.prog.bytesOf e)
    (h : DataW.trod enc Tryz.prog W 0 (fun _ => true) true fuel t [.slice a n c] = some x) (hw : ∀ k ∈ x.1.weights Tryz.prog t, k ≤ reachBytes) : n ≤ 1000000000000000 := by
  rcases Deep.open_slice ht h with ⟨e1, _⟩ | ⟨a', len, cap, m, k, D, Pl, e1, _, hlc, _, _, rfl, _⟩
  · cases e1; omega
  · cases e1
    have h1 := hw _ (show (((List.range n).map D).length + ((List.range (m - n)).map fun j => D (n + j)).length) * Tryz.prog.bytesOf e ∈ _ by simp [DataW.weights, ht])
    have h2 : n ≤ (((List.range n).map D).length + ((List.range (m - n)).map fun j => D (n + j)).length) * Tryz.prog.bytesOf e := by
      rw [List.length_map, List.length_range]
      exact Nat.le_trans (Nat.le_add_right _ _) (Nat.le_mul_of_pos_right _ hb)
    have h3 := reachBytes_lt
    omega

set_option maxRecDepth 100000 in
/-- an event of eleven cells: its parts, and their lengths -/
theorem open_event_cells {fuel : Nat} {c0 c1 c2 c3 c4 c5 c6 c7 c8 c9 c10 : Value} {x : DataW H × List MemPlace}
    (hf : DataW.trod enc Tryz.prog W 0 (fun _ => true) true fuel 44 [c0, c1, c2, c3, c4, c5, c6, c7, c8, c9, c10] = some x) (hw : ∀ k ∈ x.1.weights Tryz.prog 44, k ≤ reachBytes) :
    ∃ (E : EV) (ra : Option Addr) (rc : Nat) (sa : Option Addr) (sc : Nat) (ma : Option Addr) (mc : Nat), [c0, c1, c2, c3, c4, c5, c6, c7, c8, c9, c10] = [.string E.id, .string E.ti, .int .i64 E.st, .int .i64 E.lg, .string E.f, .int .i64 E.e, .slice ra E.ds.length rc, .int .i64 E.c, .int .i64 E.u, .slice sa E.sk.length sc, .slice ma E.mv.length mc] ∧
      Got W (.slice ra E.ds.length rc) E.ds ∧ Got W (.slice sa E.sk.length sc) E.sk ∧ GotM W (.slice ma E.mv.length mc) E.mv ∧ E.sk.length ≤ 1000000000000000 ∧ E.mv.length ≤ 1000000000000000 ∧ E.ti.size ≤ 1000000000000000 := by
  obtain ⟨xs, n, _, hx, hl, hlen, hfl⟩ := DataW.trod_struct Tryz.underlying44 hf
  have h0 := hfl 0 _ rfl
  have h1 := hfl 1 _ rfl
  have h2 := hfl 2 _ rfl
  have h3 := hfl 3 _ rfl
  have h4 := hfl 4 _ rfl
  have h5 := hfl 5 _ rfl
  have h6 := hfl 6 _ rfl
  match xs, hlen with
  | [y0, y1, y2, y3, y4, y5, y6], _ =>
  have hwt : x.1.weights Tryz.prog 44 = DataW.weightsEach Tryz.prog [9, 9, 3, 3, 41, 39, 42] [y0.1, y1.1, y2.1, y3.1, y4.1, y5.1, y6.1] := by
    rw [hx]
    simp [DataW.weights, Tryz.underlying44]
  have w1 : ∀ k ∈ y1.1.weights Tryz.prog 9, k ≤ reachBytes := fun k hk => hw k (by rw [hwt]; exact DataW.weights_mem_each (j := 1) rfl rfl k hk)
  have w5 : ∀ k ∈ y5.1.weights Tryz.prog 39, k ≤ reachBytes := fun k hk => hw k (by rw [hwt]; exact DataW.weights_mem_each (j := 5) rfl rfl k hk)
  have w6 : ∀ k ∈ y6.1.weights Tryz.prog 42, k ≤ reachBytes := fun k hk => hw k (by rw [hwt]; exact DataW.weights_mem_each (j := 6) rfl rfl k hk)
  simp [cStr, cInt, cInts, cRule, cMoves] at h0 h1 h2 h3 h4 h5 h6
  obtain ⟨xs', n', _, _, hl', hlen', hfl'⟩ := DataW.trod_struct Tryz.underlying41 h4
  have k0 := hfl' 0 _ rfl
  have k1 := hfl' 1 _ rfl
  have k2 := hfl' 2 _ rfl
  have k3 := hfl' 3 _ rfl
  have k4 := hfl' 4 _ rfl
  match xs', hlen' with
  | [z0, z1, z2, z3, z4], _ =>
  simp [cStr, cInt, cInts] at k0 k1 k2 k3 k4
  obtain ⟨id, e0, _, _⟩ := DataW.trod_string Tryz.underlying9 h0
  obtain ⟨ti, e1, ey1, _⟩ := DataW.trod_string Tryz.underlying9 h1
  obtain ⟨st, e2, _, _⟩ := DataW.trod_int Tryz.underlying3 h2
  obtain ⟨lg, e3, _, _⟩ := DataW.trod_int Tryz.underlying3 h3
  obtain ⟨f, g0, _, _⟩ := DataW.trod_string Tryz.underlying9 k0
  obtain ⟨e, g1, _, _⟩ := DataW.trod_int Tryz.underlying3 k1
  obtain ⟨c, g3, _, _⟩ := DataW.trod_int Tryz.underlying3 k3
  obtain ⟨u, g4, _, _⟩ := DataW.trod_int Tryz.underlying3 k4
  obtain ⟨ds, D⟩ := open_got k2
  obtain ⟨sk, S⟩ := open_got h5
  obtain ⟨mv, M⟩ := open_gotM h6
  cases e0
  cases e1
  cases e2
  cases e3
  cases g0
  cases g1
  cases g3
  cases g4
  obtain ⟨ra, rc, rfl, D'⟩ := D
  obtain ⟨sa, sc, rfl, S'⟩ := S
  obtain ⟨ma, mc, rfl, M'⟩ := M
  have b5 := slice_len Tryz.underlying39 (by rw [bInt]; decide) h5 w5
  have b6 := slice_len Tryz.underlying42 (by rw [bMove]; decide) h6 w6
  have b1 : ti.size ≤ 1000000000000000 := by
    have h1 := w1 ti.data.toList.length (by rw [ey1]; simp [DataW.weights])
    have h3 := reachBytes_lt
    have h2 : ti.data.toList.length = ti.size := by simp
    omega
  exact ⟨⟨id, ti, st, lg, f, e, ds, c, u, sk, mv⟩, ra, rc, sa, sc, ma, mc, rfl, ⟨_, _, rfl, D'⟩, ⟨_, _, rfl, S'⟩, ⟨_, _, rfl, M'⟩, b5, b6, b1⟩

instance : Inhabited EV := ⟨⟨⟨#[]⟩, ⟨#[]⟩, 0, 0, ⟨#[]⟩, 0, [], 0, 0, [], []⟩⟩
theorem eleven {l : List Value} (h : l.length = 11) : ∃ c0 c1 c2 c3 c4 c5 c6 c7 c8 c9 c10, l = [c0, c1, c2, c3, c4, c5, c6, c7, c8, c9, c10] := by
  match l, h with
  | [a, b, c, d, e, f, g, h, i, j, k], _ => exact ⟨a, b, c, d, e, f, g, h, i, j, k, rfl⟩
theorem add_blk (a : Addr) (k : Nat) (hk : k ≠ 0) : a.add k = ⟨a.block, a.off + k, none⟩ := by
  unfold Addr.add
  rw [if_neg hk]

set_option maxRecDepth 100000 in
/-- a list of events that was handed over -/
theorem open_events {fuel : Nat} {v : Value} {x : DataW H × List MemPlace} (h : DataW.trod enc Tryz.prog W 0 (fun _ => true) true fuel 22 [v] = some x) (hw : ∀ k ∈ x.1.weights Tryz.prog 22, k ≤ reachBytes) : ∃ Es : List EV, EvsL W v Es := by
  have h' := h
  rcases Deep.open_slice Tryz.underlying22 h with ⟨e1, _⟩ | ⟨a, len, cap, m, n, D, Pl, e1, _, hlc, _, hm, hx, he⟩
  · cases e1
    exact ⟨[], none, 0, rfl, by simp, by simp, fun j hj => absurd hj (by simp)⟩
  · cases e1
    have hbl := slice_len Tryz.underlying22 (by rw [bEvent]; decide) h' hw
    have hm' : m = cap := by simpa using hm
    have each : ∀ i, i < len → ∃ E : EV, E.sk.length ≤ 1000000000000000 ∧ E.mv.length ≤ 1000000000000000 ∧ E.ti.size ≤ 1000000000000000 ∧ ∃ ra rc sa sc ma mc, EvA W (a.add (i * 11)) E (.slice ra E.ds.length rc) (.slice sa E.sk.length sc) (.slice ma E.mv.length mc) ∧
        Got W (.slice ra E.ds.length rc) E.ds ∧ Got W (.slice sa E.sk.length sc) E.sk ∧ GotM W (.slice ma E.mv.length mc) E.mv := by
      intro i hi
      obtain ⟨cs, q1, q2⟩ := he i (by omega)
      rw [cEvent] at q1
      obtain ⟨_, hlen, hcell⟩ := World.cells?_some q1
      obtain ⟨c0, c1, c2, c3, c4, c5, c6, c7, c8, c9, c10, rfl⟩ := eleven hlen
      have hwi : ∀ k ∈ (D i).weights Tryz.prog 44, k ≤ reachBytes := fun k hk => hw k (by
        rw [hx]
        simp only [DataW.weights, Tryz.underlying22, List.mem_cons, List.mem_append]
        exact .inr (.inl (weights_all (List.mem_map.2 ⟨i, List.mem_range.2 hi, rfl⟩) k hk)))
      obtain ⟨E, ra, rc, sa, sc, ma, mc, hc, d1, d2, d3, b1, b2, b3⟩ := open_event_cells q2 hwi
      have A : ∀ k, k < 11 → k ≠ 0 → W.cell? ⟨(a.add (i * 11)).block, (a.add (i * 11)).off + k, none⟩ = [c0, c1, c2, c3, c4, c5, c6, c7, c8, c9, c10][k]? := fun k hk h0 => by
        rw [← add_blk _ _ h0, hcell k hk]
      have A0 : W.cell? (a.add (i * 11)) = [c0, c1, c2, c3, c4, c5, c6, c7, c8, c9, c10][0]? := by
        have := hcell 0 (by decide)
        rwa [show (a.add (i * 11)).add 0 = a.add (i * 11) from rfl] at this
      rw [hc] at A0
      refine ⟨E, b1, b2, b3, ra, rc, sa, sc, ma, mc, ⟨A0, ?_, ?_, ?_, ?_, ?_, ?_, ?_, ?_, ?_, ?_⟩, d1, d2, d3⟩
      · have := A 1 (by decide) (by decide); rwa [hc] at this
      · have := A 2 (by decide) (by decide); rwa [hc] at this
      · have := A 3 (by decide) (by decide); rwa [hc] at this
      · have := A 4 (by decide) (by decide); rwa [hc] at this
      · have := A 5 (by decide) (by decide); rwa [hc] at this
      · have := A 6 (by decide) (by decide); rwa [hc] at this
      · have := A 7 (by decide) (by decide); rwa [hc] at this
      · have := A 8 (by decide) (by decide); rwa [hc] at this
      · have := A 9 (by decide) (by decide); rwa [hc] at this
      · have := A 10 (by decide) (by decide); rwa [hc] at this
    obtain ⟨q, hq⟩ := Deep.choose_lt each
    refine ⟨(List.range len).map q, some a, cap, by simp, by simpa using hbl, by simpa using hlc, fun j hj => ?_⟩
    have hj' : j < len := by simpa using hj
    have e5 : ((List.range len).map q)[j] = q j := by simp
    obtain ⟨b1, b2, b3, ra, rc, sa, sc, ma, mc, hA, d1, d2, d3⟩ := hq j hj'
    rw [e5]
    exact ⟨a, rfl, b1, b2, b3, ra, rc, sa, sc, ma, mc, hA, d1, d2, d3⟩
end
end Go.Proofs.YtnpecjccajebiaaGreatDoor

/- The document's own calendar: a list of events; Find. -/
namespace Go.Proofs.YtnpecjccajebiaaGreatDoor
open Go Go.RowKit Go.Maps Cal
attribute [local go_sem] Oper.semAt_some

/-- an event as it lies -/
structure EX where
  E : EV
  sl : Value
  skv : Value
  mvv : Value
def EX.cells (X : EX) : List Value := [.string X.E.id, .string X.E.ti, .int .i64 X.E.st, .int .i64 X.E.lg, .string X.E.f, .int .i64 X.E.e, X.sl, .int .i64 X.E.c, .int .i64 X.E.u, X.skv, X.mvv]
theorem cells_at : ∀ (Xs : List EX) (j i : Nat) (hj : j < Xs.length), i < 11 → (Xs.flatMap EX.cells)[j * 11 + i]? = Xs[j].cells[i]?
  | [], j, _, hj, _ => absurd hj (Nat.not_lt_zero _)
  | X :: r, 0, i, _, hi => by
    rw [List.flatMap_cons, List.getElem?_append_left (by simp [EX.cells]; omega)]
    simp
  | X :: r, j + 1, i, hj, hi => by
    rw [List.flatMap_cons, List.getElem?_append_right (by simp [EX.cells]; omega)]
    have := cells_at r j i (by simpa using hj) hi
    rw [show (j + 1) * 11 + i - X.cells.length = j * 11 + i by simp [EX.cells]; omega, this]
    rfl
theorem cells_len : ∀ (Xs : List EX), (Xs.flatMap EX.cells).length = Xs.length * 11
  | [] => rfl
  | X :: r => by rw [List.flatMap_cons, List.length_append, cells_len r]; simp [EX.cells]; omega
/-- a list of events that was made -/
def MR (base : Nat) (W : World) (v : Value) (Xs : List EX) : Prop := W.ownsRow base 44 11 v Xs.length (Xs.flatMap EX.cells)
theorem MR.nil (base : Nat) (W : World) : MR base W (.slice none 0 0) [] := World.ownsRow_nil _ _ _ _
theorem MR.form {base : Nat} {W : World} {v : Value} {Xs : List EX} (h : MR base W v Xs) : ∃ (a : Option Addr) (cap : Nat), v = .slice a Xs.length cap ∧ Xs.length ≤ cap ∧ ∀ (j : Nat) (hj : j < Xs.length), ∃ b : Nat, a = some ⟨b, 0, none⟩ ∧ EvAt W b (j * 11) Xs[j].E Xs[j].sl Xs[j].skv Xs[j].mvv := by
  rcases h.2 with ⟨rfl, h0⟩ | ⟨g, cap, cur, rfl, hb, hg, hcap, hmax, hsz, htake⟩
  · refine ⟨none, 0, by rw [h0], by omega, fun j hj => absurd hj (by omega)⟩
  · refine ⟨_, cap, rfl, hcap, fun j hj => ⟨g, rfl, ?_⟩⟩
    have A : ∀ i, i < 11 → W.cell? ⟨g, j * 11 + i, none⟩ = Xs[j].cells[i]? := fun i hi => by
      rw [← cells_at Xs j i hj hi]
      exact World.ownsRow.cellAt h (j * 11 + i) (by omega)
    exact ⟨A 0 (by decide), A 1 (by decide), A 2 (by decide), A 3 (by decide), A 4 (by decide), A 5 (by decide), A 6 (by decide), A 7 (by decide), A 8 (by decide), A 9 (by decide), A 10 (by decide)⟩

set_option maxHeartbeats 1000000 in
theorem find_any (base : Nat) (x : ByteArray) (v : Value) (Xs : List EX) (w : World) (hR : MR base w v Xs) (h8 : Xs.length ≤ 1000) :
    Calls Tryz.prog 24 #[.agg #[v], .string x] w fun r w' => ∃ k : Int, r = .returned (.int .i64 k) ∧ (0 ≤ k ↔ ∃ X ∈ Xs, X.E.id = x) ∧ k ≤ 1000 ∧ -1 ≤ k ∧ Below w.heap.size w w' := by
  obtain ⟨a, cap, rfl, hcap, hc⟩ := hR.form
  have HC : Hid (_) := hc
  have hA := below_alloc w (.cells #[.slice a Xs.length cap] 27)
  have HA0 : Hid (_) := hA
  have cB := cell_of (block_at (W := w) (.cells #[.slice a Xs.length cap] 27) rfl)
  clear hc hR hA
  go_enter Tryz.func24, Tryz.ntmps24
  generalize hw0 : w.alloc (.cells #[.slice a Xs.length cap] 27) = w0 at HA0 cB
  have HCB : Hid (_) := cB
  clear cB
  go_wp2
  go_loopw [5] (fun i wr => ∃ m : Nat, m ≤ Xs.length ∧ i = .int .i64 m ∧ Hid (Below w0.heap.size w0 wr) ∧ Hid (∀ (j : Nat) (h : j < Xs.length), j < m → Xs[j].E.id ≠ x)) (fun i _ => Xs.length - (intOf i).toNat)
  case atStart => exact ⟨0, Nat.zero_le _, rfl, Below.refl _ _, fun j _ h => absurd h (Nat.not_lt_zero _)⟩
  case round =>
    obtain ⟨m, hm, rfl, hB, HA⟩ := hrel
    have cB := cell_step HCB.out hB.out
    by_cases hlt : m < Xs.length
    · obtain ⟨b, rfl, hE⟩ := HC.out m hlt
      have x0 := cell_step (cell_step hE.c0 HA0.out) hB.out
      by_cases hx : Xs[m].E.id = x
      · have HT : Hid (∃ X ∈ Xs, X.E.id = x) := ⟨_, List.getElem_mem hlt, hx⟩
        rw [hx] at x0
        clear HA HC hE hx HCB
        go_wp2
        go_ret
        exact ⟨_, rfl, ⟨fun _ => HT.out, fun _ => by omega⟩, by omega, by omega, below_then HA0.out hB.out⟩
      · have HN : Hid (∀ (j : Nat) (h : j < Xs.length), j < m + 1 → Xs[j].E.id ≠ x) := fun j hj hjk => by
          by_cases ej : j = m
          · subst ej; exact hx
          · exact HA.out j hj (by omega)
        clear HA HC hE HCB
        generalize Xs[m].E.id = y at x0 hx
        have hq := txt_ne hx
        clear hx
        go_wp2
        go_roundw
        case rel => exact ⟨m + 1, by omega, by go_num, hB.out, HN.out⟩
        case measure => simp [intOf]; omega
    · have HR : Hid (¬ ∃ X ∈ Xs, X.E.id = x) := fun ⟨X, hX, q⟩ => by
        obtain ⟨j, hj, rfl⟩ := List.mem_iff_getElem.1 hX
        exact HA.out j hj (by omega) q
      clear HA HC HCB
      go_wp2
      go_ret
      exact ⟨-1, rfl, ⟨fun q => absurd q (by decide), fun q => absurd q HR.out⟩, by omega, by omega, below_then HA0.out hB.out⟩
end Go.Proofs.YtnpecjccajebiaaGreatDoor
