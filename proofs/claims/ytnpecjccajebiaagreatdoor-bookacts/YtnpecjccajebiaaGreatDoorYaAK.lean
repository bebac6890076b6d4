/- The laws' own evented, LongEvent and OwnEvent. -/
import Derived.Test.YtnpecjccajebiaaGreatDoorYaAJ
import Derived.Laws.AppendOwnNone
import Derived.Test.YtnpecjccajebiaaGreatDoorYaAC
import Derived.Lib.LaidTab
import Derived.Lib.SmallJoins
import Derived.Deep.SlicePairs
namespace Go.Proofs.YtnpecjccajebiaaGreatDoor
open Go Go.RowKit Cal
attribute [local go_sem] Oper.semAt_some

theorem rtext_once0 (f : ByteArray) (e : Int) (sl : Value) (c u : Int) (ds : List Int) (w : World) (hd : Days w sl ds) (hw : Well (rd f e ds c u)) (hne : (f.toList == [111, 110, 99, 101]) = true) :
    Calls Tryz.prog 92 #[rv f e sl c u] w fun r w' => r = .returned (.string ⟨#[111, 110, 99, 101]⟩) ∧ Below w.heap.size w w' := by
  have D : Hid (Days w sl ds) := hd
  obtain ⟨a, cap, rfl, h20, hcap, hc⟩ := hd
  have W : Hid (Well (rd f e ds c u)) := hw
  clear hc hw
  unfold rv
  go_enter Tryz.func92, Tryz.ntmps92
  go_wp2_with (go_at_call 74; refine (check_ok f e _ c u ds _ (D.out.step (below_alloc _ _)) W.out).mono ?_; rintro r w1 ⟨rfl, hb1⟩; obtain ⟨x0, x1, x2, x3, x4⟩ := box5 hb1)
  go_ret
  exact ⟨rfl, below_then (below_alloc _ _) hb1⟩

/-- the closed event -/
def E0 : EV := ⟨⟨#[97]⟩, ⟨#[65, 32, 98]⟩, 5, 1, ⟨#[111, 110, 99, 101]⟩, 1, [], 0, -1, [], []⟩
theorem E0_rule : Well (rd ⟨#[111, 110, 99, 101]⟩ 1 [] 0 (-1)) := by
  refine ⟨?_, ?_, by decide, by decide, by decide, fun _ => ⟨rfl, rfl, rfl⟩, fun _ => rfl, Or.inl rfl, ?_⟩
  · left; exact ByteArray.toList_eq _
  · intro d hd; cases hd
  · intro i h; exact absurd h (by simp [rd])
theorem E0_well : EW E0 := by
  refine ⟨⟨fun j h => ?_, by decide, by decide⟩, ⟨fun j h => ?_, by decide⟩, ⟨by decide, by decide⟩, E0_rule, by decide⟩
  · have h' : j < 1 := h
    match j, h' with
    | 0, _ => show okc 97; left; decide
  · have h' : j < 3 := h
    match j, h' with
    | 0, _ => show okt 65; exact ⟨by decide, by decide, by decide⟩
    | 1, _ => show okt 32; exact ⟨by decide, by decide, by decide⟩
    | 2, _ => show okt 98; exact ⟨by decide, by decide, by decide⟩
/-- the texts of its fields -/
def P0 : List (List UInt8) := [[65, 32, 98], [50, 48, 48, 48, 45, 48, 49, 45, 48, 54], [49], [111, 110, 99, 101], [], []]

/-- too long for a law? -/
def lngE (E : EV) : Int := if (20 < E.f.size ∨ 20 < E.ds.length) ∨ 30 < E.id.size ∨ 60 < E.ti.size ∨ 25 < E.sk.length ∨ 25 < E.mv.length then 1 else 0
theorem lngE_01 (E : EV) : 0 ≤ lngE E ∧ lngE E ≤ 1 := by unfold lngE; split <;> omega
theorem lngE_0 {E : EV} (h : lngE E = 0) : E.f.size ≤ 20 ∧ E.ds.length ≤ 20 ∧ E.id.size ≤ 30 ∧ E.ti.size ≤ 60 ∧ E.sk.length ≤ 25 ∧ E.mv.length ≤ 25 := by
  unfold lngE at h
  split at h
  · omega
  · omega

set_option maxHeartbeats 1000000 in
theorem longEvent_any (E : EV) (ra : Option Addr) (rc : Nat) (sa : Option Addr) (sc : Nat) (ma : Option Addr) (mc : Nat) (w : World) :
    Calls Tryz.prog 32 #[ev E (.slice ra E.ds.length rc) (.slice sa E.sk.length sc) (.slice ma E.mv.length mc)] w fun r w' => r = .returned (.int .i64 (lngE E)) ∧ Below w.heap.size w w' := by
  have HK : Hid (lngE E = if (20 < E.f.size ∨ 20 < E.ds.length) ∨ 30 < E.id.size ∨ 60 < E.ti.size ∨ 25 < E.sk.length ∨ 25 < E.mv.length then 1 else 0) := rfl
  generalize lngE E = k at HK ⊢
  have hB := EB.new w E (.slice ra E.ds.length rc) (.slice sa E.sk.length sc) (.slice ma E.mv.length mc)
  obtain ⟨idn, ti, st, lg, f, e, ds, c, u, sk, mv⟩ := E
  unfold ev EB at *
  dsimp only at *
  have LR : Hid (∀ W, Calls Tryz.prog 58 #[.agg #[.string f, .int .i64 e, .slice ra ds.length rc, .int .i64 c, .int .i64 u]] W fun r w' => r = .returned (.int .i64 (if 20 < f.size ∨ 20 < ds.length then 1 else 0)) ∧ Below W.heap.size W w') := fun W => longRule_any f e ra ds.length rc c u W _ rfl
  have HA : Hid (_) := below_alloc w (.cells #[.string idn, .string ti, .int .i64 st, .int .i64 lg, .string f, .int .i64 e, .slice ra ds.length rc, .int .i64 c, .int .i64 u, .slice sa sk.length sc, .slice ma mv.length mc] 44)
  generalize hw0 : w.alloc (.cells #[.string idn, .string ti, .int .i64 st, .int .i64 lg, .string f, .int .i64 e, .slice ra ds.length rc, .int .i64 c, .int .i64 u, .slice sa sk.length sc, .slice ma mv.length mc] 44) = w0 at HA hB
  obtain ⟨x0, x1, x2, x3, x4, x5, x6, x7, x8, x9, x10⟩ := blk11 hB
  have BX : Hid (∀ W, Below w0.heap.size w0 W → _) := fun W h => blk11 ((h.block _ (Array.getElem?_eq_some_iff.1 hB).1).trans hB)
  clear hB
  have h1 : (20 < f.size ∨ 20 < ds.length) ∨ (¬ (20 < f.size ∨ 20 < ds.length) ∧ 30 < idn.size) ∨ (¬ (20 < f.size ∨ 20 < ds.length) ∧ idn.size ≤ 30 ∧ 60 < ti.size) ∨ (¬ (20 < f.size ∨ 20 < ds.length) ∧ idn.size ≤ 30 ∧ ti.size ≤ 60 ∧ 25 < sk.length) ∨ (¬ (20 < f.size ∨ 20 < ds.length) ∧ idn.size ≤ 30 ∧ ti.size ≤ 60 ∧ sk.length ≤ 25 ∧ 25 < mv.length) ∨ (¬ (20 < f.size ∨ 20 < ds.length) ∧ idn.size ≤ 30 ∧ ti.size ≤ 60 ∧ sk.length ≤ 25 ∧ mv.length ≤ 25) := by omega
  have HK2 : Hid (k = if (20 < f.size ∨ 20 < ds.length) ∨ 30 < idn.size ∨ 60 < ti.size ∨ 25 < sk.length ∨ 25 < mv.length then 1 else 0) := HK.out
  clear HK
  rcases h1 with h1 | ⟨h1, h2⟩ | ⟨h1, h2, h3⟩ | ⟨h1, h2, h3, h4⟩ | ⟨h1, h2, h3, h4, h5⟩ | ⟨h1, h2, h3, h4, h5⟩
  all_goals
    first
    | rw [if_pos h1] at LR
    | rw [if_neg h1] at LR
    first
    | rw [if_pos (by omega)] at HK2
    | rw [if_neg (by omega)] at HK2
    clear h1
    go_enter Tryz.func32, Tryz.ntmps32
    go_wp2_with (go_at_call 58; refine (LR.out _).mono ?_; rintro r w1 ⟨rfl, hb1⟩; obtain ⟨y0, y1, y2, y3, y4, y5, y6, y7, y8, y9, y10⟩ := BX.out _ hb1)
    go_ret
    exact ⟨ret_int HK2.out.symm, below_then HA.out hb1⟩

/-- moves as they were handed over -/
def GotM (w : World) (sl : Value) (ms : List (Int × Int)) : Prop :=
  ∃ (a : Option Addr) (cap : Nat), sl = .slice a ms.length cap ∧ (a = none → ms.length = 0 ∧ cap = 0) ∧ ∀ ad, a = some ad → ∀ (j : Nat) (h : j < ms.length), ad.block < w.heap.size ∧ w.cell? (ad.add (j * 2)) = some (.int .i64 ms[j].1) ∧ w.cell? (ad.add (j * 2 + 1)) = some (.int .i64 ms[j].2)
theorem GotM.step {w w' : World} {sl : Value} {ms : List (Int × Int)} (h : GotM w sl ms) (hb : Below w.heap.size w w') : GotM w' sl ms := by
  obtain ⟨a, cap, h1, h2, h3⟩ := h
  refine ⟨a, cap, h1, h2, fun ad e j hj => ?_⟩
  obtain ⟨h4, h5, h6⟩ := h3 ad e j hj
  exact ⟨Nat.lt_of_lt_of_le h4 hb.size, (World.cell?_of_block (a := ad.add (j * 2)) (hb.block _ (by rw [addr_add_block]; exact h4))).trans h5, (World.cell?_of_block (a := ad.add (j * 2 + 1)) (hb.block _ (by rw [addr_add_block]; exact h4))).trans h6⟩
/-- the cells of moves -/
def mcells : List (Int × Int) → List Value
  | [] => []
  | m :: r => .int .i64 m.1 :: .int .i64 m.2 :: mcells r
theorem mcells_len : ∀ ms : List (Int × Int), (mcells ms).length = ms.length * 2
  | [] => rfl
  | m :: r => by simp [mcells, mcells_len r]; omega
theorem mcells_at : ∀ (ms : List (Int × Int)) (j : Nat) (h : j < ms.length), (mcells ms)[j * 2]? = some (.int .i64 ms[j].1) ∧ (mcells ms)[j * 2 + 1]? = some (.int .i64 ms[j].2)
  | m :: r, 0, _ => ⟨rfl, rfl⟩
  | m :: r, j + 1, h => by
    have := mcells_at r j (by simpa using h)
    rw [show (j + 1) * 2 = j * 2 + 1 + 1 by omega]
    exact this
theorem mcells_one (ms : List (Int × Int)) : ∀ u ∈ mcells ms, u.oneCell' = true := by
  induction ms with
  | nil => intro u hu; cases hu
  | cons m r ih =>
    intro u hu
    rcases List.mem_cons.1 hu with rfl | hu
    · rfl
    · rcases List.mem_cons.1 hu with rfl | hu
      · rfl
      · exact ih u hu
theorem mcells_of (ms : List (Int × Int)) (P : Nat → Value → Prop) (h : ∀ (j : Nat) (h : j < ms.length), P (j * 2) (.int .i64 ms[j].1) ∧ P (j * 2 + 1) (.int .i64 ms[j].2)) : ∀ (i : Nat) (u : Value), (mcells ms)[i]? = some u → P i u := fun i u hu => by
  have hi : i < ms.length * 2 := by rw [← mcells_len]; exact (List.getElem?_eq_some_iff.1 hu).1
  have hj : i / 2 < ms.length := by omega
  obtain ⟨a1, a2⟩ := mcells_at ms (i / 2) hj
  obtain ⟨b1, b2⟩ := h (i / 2) hj
  rcases Nat.mod_two_eq_zero_or_one i with q | q
  · have e : i / 2 * 2 = i := by omega
    rw [e] at a1 b1
    rw [hu] at a1
    cases a1; exact b1
  · have e : i / 2 * 2 + 1 = i := by omega
    rw [e] at a2 b2
    rw [hu] at a2
    cases a2; exact b2
theorem info_move : (Tryz.prog.info? 104).map (fun i => (i.zero, i.size, i.bytes)) = some (some (.agg #[.int .i64 0, .int .i64 0]), 2, 16) := by kernel_rfl
/-- a row of moves of one's own -/
def OwM (base : Nat) (W : World) (sl : Value) (ms : List (Int × Int)) : Prop := W.ownsRow base 104 2 sl ms.length (mcells ms)
theorem OwM.grown {base B : Nat} {W W' : World} {sl : Value} {ds : List (Int × Int)} (h : OwM base W sl ds) (hg : W.grownBy W' (some B)) (hB : B < base) : OwM base W' sl ds :=
  World.ownsRow.kept h hg (.inr (fun he => by have := (World.ownsRow.lt h _ he).1; omega))
theorem owm_cell {W : World} {g : Nat} {cur : Array Value} {ms : List (Int × Int)} (hg : W.heap[g]? = some (.cells cur 104 (0, 0))) (htake : cur.toList.take (ms.length * 2) = mcells ms) (j : Nat) (hj : j < ms.length) :
    W.cell? ⟨g, j * 2, none⟩ = some (.int .i64 ms[j].1) ∧ W.cell? ⟨g, j * 2 + 1, none⟩ = some (.int .i64 ms[j].2) := by
  obtain ⟨a1, a2⟩ := mcells_at ms j hj
  rw [← htake, List.getElem?_take_of_lt (by omega), Array.getElem?_toList] at a1 a2
  constructor
  · simp only [World.cell?, hg]; simpa using a1
  · simp only [World.cell?, hg]; simpa using a2
theorem owm_movs {base : Nat} {W : World} {sl : Value} {ms : List (Int × Int)} (h : OwM base W sl ms) (hl : ms.length ≤ 80000) : Movs W sl ms ∧ GotM W sl ms := by
  rcases h.2 with ⟨rfl, h0⟩ | ⟨g, cap, cur, rfl, hb, hg, hcap, hmax, hsz, htake⟩
  · rw [List.length_eq_zero_iff.1 h0]; exact ⟨Movs.nil W 0, none, 0, rfl, fun _ => ⟨rfl, rfl⟩, fun ad q => by cases q⟩
  · have hlt := (Array.getElem?_eq_some_iff.1 hg).1
    refine ⟨⟨_, cap, rfl, hl, hcap, fun j hj => ?_⟩, ⟨_, cap, rfl, (fun q => by cases q), fun ad q j hj => ?_⟩⟩
    · obtain ⟨c1, c2⟩ := owm_cell hg htake j hj
      exact ⟨g, rfl, hlt, c1, c2⟩
    · cases q
      obtain ⟨c1, c2⟩ := owm_cell hg htake j hj
      rw [Addr.add_lit, Addr.add_lit, Nat.zero_add, Nat.zero_add]
      exact ⟨hlt, c1, c2⟩
end Go.Proofs.YtnpecjccajebiaaGreatDoor

/- What the rows' lists of package-level variables give the walks over package event: the library's table, the errors' cells; an event as an argument, opened. -/
namespace Go.Proofs.YtnpecjccajebiaaGreatDoor
open Go.ChangeShapes Go.WideShapes Go.ChangeAt Go.RowKit Cal

theorem tPow : (Tryz.prog.globals[14]?).map (·.type) = some 265 := by kernel_rfl
theorem cPow : Tryz.prog.cellsOf 265 = 20 := by kernel_rfl
theorem cU64 : Tryz.prog.cellsOf 192 = 1 := by kernel_rfl
theorem gText : Tryz.prog.globalNamed "lammastide/api.ErrText" = some 4 := by kernel_rfl
theorem tText : (Tryz.prog.globals[4]?).map (·.type) = some 32 := by kernel_rfl
theorem gExist : Tryz.prog.globalNamed "lammastide/api.ErrExist" = some 7 := by kernel_rfl
theorem tExist : (Tryz.prog.globals[7]?).map (·.type) = some 32 := by kernel_rfl
theorem gFull : Tryz.prog.globalNamed "lammastide/api.ErrFull" = some 2 := by kernel_rfl
theorem tFull : (Tryz.prog.globals[2]?).map (·.type) = some 32 := by kernel_rfl
theorem cEvent : Tryz.prog.cellsOf 44 = 11 := by kernel_rfl
theorem cMove : Tryz.prog.cellsOf 104 = 2 := by kernel_rfl
theorem cMoves : Tryz.prog.cellsOf 42 = 1 := by kernel_rfl

/-- the table at the head of the list -/
theorem table {r : List (String × DataW Unit)} {W : World} (h : laidMet Tryz.prog (("internal/strconv.uint64pow10", Rows.laid_internal_strconv_uint64pow10) :: r) W) : Tab W :=
  Lib.tabIs_of_head gPow tPow Tryz.underlying265 Tryz.underlying192 cU64 cPow h
/-- seven addresses by their numbers -/
def seven (a0 a1 a2 a3 a5 a6 a7 : Addr) : Nat → Addr
  | 0 => a0 | 1 => a1 | 2 => a2 | 3 => a3 | 5 => a5 | 6 => a6 | _ => a7

theorem array11 {α : Type} {cs : Array α} (h : cs.size = 11) : ∃ c0 c1 c2 c3 c4 c5 c6 c7 c8 c9 c10, cs = #[c0, c1, c2, c3, c4, c5, c6, c7, c8, c9, c10] := by
  obtain ⟨l⟩ := cs
  match l, h with
  | [a, b, c, d, e, f, g, h, i, j, k], _ => exact ⟨a, b, c, d, e, f, g, h, i, j, k, rfl⟩

section
variable {H : Type} {enc : TypeId × Value → H} {W : World}
/-- numbers that were handed over -/
theorem open_got {fuel : Nat} {v : Value} {x : DataW H × List MemPlace} (h : DataW.trod enc Tryz.prog W 0 (fun _ => true) true fuel 39 [v] = some x) : ∃ ds : List Int, Got W v ds := by
  rcases open_ints Tryz.underlying39 Tryz.underlying3 cInt h with ⟨e2, _⟩ | ⟨a, len, cap, zs, e2, _, hlc, _, hz, _, hc, _⟩
  · cases e2
    exact ⟨[], none, 0, rfl, fun _ => ⟨rfl, rfl⟩, fun ad ha => by cases ha⟩
  · cases e2
    have hzl : zs.length = cap := by simpa using hz
    have hl' : (zs.take len).length = len := by simp; omega
    refine ⟨zs.take len, some a, cap, by rw [hl'], fun ha => (by cases ha), fun ad ha j hj => ?_⟩
    cases ha
    have hj' : j < len := by omega
    have hcell := hc j (by omega)
    have e5 : zs.getD j 0 = (zs.take len)[j] := by simp [List.getD, List.getElem?_eq_getElem (show j < zs.length by omega)]
    rw [e5] at hcell
    refine ⟨?_, hcell⟩
    rcases Nat.lt_or_ge a.block W.heap.size with h | h
    · exact h
    · have hb : W.heap.size ≤ (a.add j).block := by rw [addr_add_block]; exact h
      simp [World.cell?, Array.getElem?_eq_none hb] at hcell
/-- moves that were handed over -/
theorem open_gotM {fuel : Nat} {v : Value} {x : DataW H × List MemPlace} (h : DataW.trod enc Tryz.prog W 0 (fun _ => true) true fuel 42 [v] = some x) : ∃ ms : List (Int × Int), GotM W v ms := by
  rcases Deep.open_slice_pairs Tryz.underlying42 Tryz.underlying104 cMove rfl rfl cInt cInt h with ⟨e2, _⟩ | ⟨a, len, cap, m, n, V0, V1, D0, D1, P0, P1, e2, _, hlc, _, hm, _, hx⟩
  · cases e2
    exact ⟨[], none, 0, rfl, fun _ => ⟨rfl, rfl⟩, fun ad ha => by cases ha⟩
  · cases e2
    have hm' : m = cap := by simpa using hm
    have each : ∀ i, i < len → ∃ q : Int × Int, W.cell? (a.add (i * 2)) = some (.int .i64 q.1) ∧ W.cell? (a.add (i * 2 + 1)) = some (.int .i64 q.2) := by
      intro i hi
      obtain ⟨c0, c1, t0, t1⟩ := hx i (by omega)
      obtain ⟨x0, e0, _, _⟩ := DataW.trod_int Tryz.underlying3 t0
      obtain ⟨x1, e1, _, _⟩ := DataW.trod_int Tryz.underlying3 t1
      exact ⟨(x0, x1), c0.trans (congrArg some (List.cons.inj e0).1), c1.trans (congrArg some (List.cons.inj e1).1)⟩
    obtain ⟨q, hq⟩ := Deep.choose_lt each
    refine ⟨(List.range len).map q, some a, cap, by simp, fun ha => (by cases ha), fun ad ha j hj => ?_⟩
    cases ha
    have hj' : j < len := by simpa using hj
    have e5 : ((List.range len).map q)[j] = q j := by simp
    obtain ⟨h1, h2⟩ := hq j hj'
    rw [e5]
    refine ⟨?_, h1, h2⟩
    rcases Nat.lt_or_ge a.block W.heap.size with h | h
    · exact h
    · have hb : W.heap.size ≤ (a.add (j * 2)).block := by rw [addr_add_block]; exact h
      simp [World.cell?, Array.getElem?_eq_none hb] at h1

set_option maxRecDepth 100000 in
/-- an event that was handed over: its parts -/
theorem open_event {b0 : Nat} {v : Value} {d : DataW H} {p : List MemPlace}
    (hv : Value.okWide Tryz.prog W .any b0 44 v) (h : DataW.Trod enc Tryz.prog W 0 (fun _ => true) true 44 v d p) :
    ∃ (E : EV) (sl skv mvv : Value), v = ev E sl skv mvv ∧ Got W sl E.ds ∧ Got W skv E.sk ∧ GotM W mvv E.mv := by
  obtain ⟨cs, rfl, hsz⟩ := okWide_struct Tryz.underlying44 hv
  obtain ⟨c0, c1, c2, c3, c4, c5, c6, c7, c8, c9, c10, rfl⟩ := array11 (hsz.trans cEvent)
  obtain ⟨fuel, hf⟩ := h
  obtain ⟨xs, n, _, _, hl, hlen, hfl⟩ := DataW.trod_struct Tryz.underlying44 hf
  have h0 := hfl 0 _ rfl
  have h1 := hfl 1 _ rfl
  have h2 := hfl 2 _ rfl
  have h3 := hfl 3 _ rfl
  have h4 := hfl 4 _ rfl
  have h5 := hfl 5 _ rfl
  have h6 := hfl 6 _ rfl
  match xs, hlen with
  | [y0, y1, y2, y3, y4, y5, y6], _ =>
  simp [Value.cells, cStr, cInt, cInts, cRule, cMoves] at h0 h1 h2 h3 h4 h5 h6
  obtain ⟨xs', n', _, _, hl', hlen', hfl'⟩ := DataW.trod_struct Tryz.underlying41 h4
  have k0 := hfl' 0 _ rfl
  have k1 := hfl' 1 _ rfl
  have k2 := hfl' 2 _ rfl
  have k3 := hfl' 3 _ rfl
  have k4 := hfl' 4 _ rfl
  match xs', hlen' with
  | [z0, z1, z2, z3, z4], _ =>
  simp [cStr, cInt, cInts] at k0 k1 k2 k3 k4
  obtain ⟨id, e0, _, _⟩ := DataW.trod_string Tryz.underlying9 h0
  obtain ⟨ti, e1, _, _⟩ := DataW.trod_string Tryz.underlying9 h1
  obtain ⟨st, e2, _, _⟩ := DataW.trod_int Tryz.underlying3 h2
  obtain ⟨lg, e3, _, _⟩ := DataW.trod_int Tryz.underlying3 h3
  obtain ⟨f, g0, _, _⟩ := DataW.trod_string Tryz.underlying9 k0
  obtain ⟨e, g1, _, _⟩ := DataW.trod_int Tryz.underlying3 k1
  obtain ⟨c, g3, _, _⟩ := DataW.trod_int Tryz.underlying3 k3
  obtain ⟨u, g4, _, _⟩ := DataW.trod_int Tryz.underlying3 k4
  obtain ⟨ds, D⟩ := open_got k2
  obtain ⟨sk, S⟩ := open_got h5
  obtain ⟨mv, M⟩ := open_gotM h6
  cases e0
  cases e1
  cases e2
  cases e3
  cases g0
  cases g1
  cases g3
  cases g4
  exact ⟨⟨id, ti, st, lg, f, e, ds, c, u, sk, mv⟩, _, _, _, rfl, D, S, M⟩
end
end Go.Proofs.YtnpecjccajebiaaGreatDoor

/- The law's own OwnRule: the days lie in memory of its own. -/
namespace Go.Proofs.YtnpecjccajebiaaGreatDoor
open Go.RowKit Cal

set_option maxHeartbeats 1000000 in
set_option maxRecDepth 100000 in
theorem ownRule_ow (f : ByteArray) (e : Int) (sl : Value) (c u : Int) (ds : List Int) (w : World) (hd : Got w sl ds) (h20 : ds.length ≤ 20) :
    Calls Tryz.prog 51 #[rv f e sl c u] w fun r w' => ∃ sl', r = .returned (rv f e sl' c u) ∧ Ow w.heap.size w' sl' ds ∧ Below w.heap.size w w' := by
  obtain ⟨a, cap, rfl, hn, hs⟩ := hd
  obtain ⟨i0, hi, hz0, hz1, hz2⟩ := info_parts info_int
  unfold rv
  cases a with
  | none =>
    obtain ⟨h0, rfl⟩ := hn rfl
    have hds : ds = [] := List.length_eq_zero_iff.1 h0
    subst hds
    clear hn hs h0
    simp only [List.length_nil]
    go_enter Tryz.func51, Tryz.ntmps51
    go_wp2
    exact bodyPost_ret (v := .agg #[.string f, .int .i64 e, .slice none 0 0, .int .i64 c, .int .i64 u]) (by simp [results, Tryz.f51, go_sem]) rfl ⟨_, rfl, Ow.nil _ _, below_box2 _ _ _⟩
  | some ad =>
    have hc := hs ad rfl
    have HC : Hid (_) := hc
    clear hn hs hc
    go_enter Tryz.func51, Tryz.ntmps51
    go_wp2_with (first
      | (at_builtin; refine wpList_append_own _ rfl _ _ 39 rfl (w.heap.size + 2) 3 i0 (.int .i64 0) 1 8 Tryz.underlying39 hi hz0 hz1 hz2 rfl (by decide) _ _ _ rfl (World.ownsRow_nil _ _ _ _) ad ds.length cap (ds.map (Value.int .i64)) rfl (by simp) ?c1 ?c2 ?c3 ?c4 ?c5 ?_)
      | go_in)
    case c1 =>
      intro j v hv
      rw [List.getElem?_map] at hv
      obtain ⟨d, hd, rfl⟩ := Option.map_eq_some_iff.1 hv
      obtain ⟨hj, rfl⟩ := List.getElem?_eq_some_iff.1 hd
      exact (World.cell?_of_block (a := ad.add j) ((below_box2 w _ _).block _ (by rw [addr_add_block]; exact (HC.out j hj).1))).trans (HC.out j hj).2
    case c2 =>
      intro v hv
      obtain ⟨d, _, rfl⟩ := List.mem_map.1 hv
      rfl
    case c3 => unfold maxLen; omega
    case c4 => omega
    case c5 => simp
    · intro v' w1 hown hgrow _
      have hb1 : Below _ _ w1 := ⟨hgrow.os, hgrow.tape, hgrow.output, hgrow.size, fun k hk => hgrow.block k hk (by simp [Value.ownBlock])⟩
      have OW : Hid (Ow (w.heap.size + 2) w1 v' ds) := hown
      obtain ⟨a', c', rfl, _, _, _⟩ := ow_days OW.out h20
      have k0 := (hb1.block w.heap.size (by simp; omega)).trans (block_alloc _ (block_at _ rfl))
      have k1 := (hb1.block (w.heap.size + 1) (by simp)).trans (block_at _ (by simp))
      have K1 : Hid (_) := k1
      have HB : Hid (Below w.heap.size w w1) := (below_box2 w _ _).trans (hb1.mono (by simp; omega))
      obtain ⟨x0, x1, x2, x3, x4⟩ := blk5 k0
      obtain ⟨y0, y1, y2, y3, y4⟩ := blk5 k1
      have z2 := blk5_frozen k0 2
      have t0 := blk5_frozen k1 0
      have t1 := blk5_frozen k1 1
      have t2 := blk5_frozen k1 2
      have t3 := blk5_frozen k1 3
      have t4 := blk5_frozen k1 4
      clear hown hgrow hb1 HC
      go_wp2
      have g0 := grown_set w1 ⟨w.heap.size, 2, none⟩ (.slice a' ds.length c')
      have q1 := (Below.heap_setCell w1 ⟨w.heap.size, 2, none⟩ (.slice a' ds.length c') (w.heap.size + 1) (fun e => by have e' : w.heap.size + 1 = w.heap.size := e; omega)).trans K1.out
      have o1 := Ow.grown OW.out g0 (show w.heap.size < _ by omega)
      have b1 : Below w.heap.size w (w1.setCell ⟨w.heap.size, 2, none⟩ (.slice a' ds.length c')) := HB.out.grown g0 HB.out.size (fun k e => by cases e; exact Nat.le_refl _)
      generalize w1.setCell ⟨w.heap.size, 2, none⟩ (.slice a' ds.length c') = w2 at q1 o1 b1
      have m0 := set_block (i := 0) (.string f) q1
      have m1 := set_block (i := 1) (.int .i64 e) m0
      have m2 := set_block (i := 2) (.slice a' ds.length c') m1
      have m3 := set_block (i := 3) (.int .i64 c) m2
      have m4 := set_block (i := 4) (.int .i64 u) m3
      have g4 : w2.grownBy (((((w2.setCell ⟨w.heap.size + 1, 0, none⟩ (.string f)).setCell ⟨w.heap.size + 1, 1, none⟩ (.int .i64 e)).setCell ⟨w.heap.size + 1, 2, none⟩ (.slice a' ds.length c')).setCell ⟨w.heap.size + 1, 3, none⟩ (.int .i64 c)).setCell ⟨w.heap.size + 1, 4, none⟩ (.int .i64 u)) (some (w.heap.size + 1)) :=
        grown_then (grown_then (grown_then (grown_then (grown_set _ ⟨w.heap.size + 1, 0, none⟩ _) (grown_set _ ⟨w.heap.size + 1, 1, none⟩ _)) (grown_set _ ⟨w.heap.size + 1, 2, none⟩ _)) (grown_set _ ⟨w.heap.size + 1, 3, none⟩ _)) (grown_set _ ⟨w.heap.size + 1, 4, none⟩ _)
      change _ = some (Obj.cells #[.string f, .int .i64 e, .slice a' ds.length c', .int .i64 c, .int .i64 u] 41 (0, 0)) at m4
      clear m0 m1 m2 m3 x0 x1 x2 x3 x4 y0 y1 y2 y3 y4 z2 t0 t1 t2 t3 t4
      generalize ((((w2.setCell ⟨w.heap.size + 1, 0, none⟩ (.string f)).setCell ⟨w.heap.size + 1, 1, none⟩ (.int .i64 e)).setCell ⟨w.heap.size + 1, 2, none⟩ (.slice a' ds.length c')).setCell ⟨w.heap.size + 1, 3, none⟩ (.int .i64 c)).setCell ⟨w.heap.size + 1, 4, none⟩ (.int .i64 u) = w3 at m4 g4
      obtain ⟨c0, c1, c2, c3, c4⟩ := blk5 m4
      exact bodyPost_ret (v := .agg #[.string f, .int .i64 e, .slice a' ds.length c', .int .i64 c, .int .i64 u]) (by simp [results, Tryz.f51, go_sem, c0, c1, c2, c3, c4]) rfl
        ⟨_, rfl, own_base (Ow.grown o1 g4 (by omega)) (by omega), b1.grown g4 b1.size (fun k e => by cases e; omega)⟩

end Go.Proofs.YtnpecjccajebiaaGreatDoor
