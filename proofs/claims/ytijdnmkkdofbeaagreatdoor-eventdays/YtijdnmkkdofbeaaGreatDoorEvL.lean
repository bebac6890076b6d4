/- The laws' own evented, LongEvent and OwnEvent. -/
import Derived.Test.YtijdnmkkdofbeaaGreatDoorEvT
import Derived.Laws.AppendOwnNone
namespace Go.Proofs.YtijdnmkkdofbeaaGreatDoor
open Go Go.RowKit Cal
attribute [local go_sem] Oper.semAt_some

theorem rtext_once0 (f : ByteArray) (e : Int) (sl : Value) (c u : Int) (ds : List Int) (w : World) (hd : Days w sl ds) (hw : Well (rd f e ds c u)) (hne : (f.toList == [111, 110, 99, 101]) = true) :
    Calls Tryz.prog 66 #[rv f e sl c u] w fun r w' => r = .returned (.string ⟨#[111, 110, 99, 101]⟩) ∧ Below w.heap.size w w' := by
  have D : Hid (Days w sl ds) := hd
  obtain ⟨a, cap, rfl, h20, hcap, hc⟩ := hd
  have W : Hid (Well (rd f e ds c u)) := hw
  clear hc hw
  unfold rv
  go_enter Tryz.func66, Tryz.ntmps66
  go_wp2_with (go_at_call 36; refine (check_ok f e _ c u ds _ (D.out.step (below_alloc _ _)) W.out).mono ?_; rintro r w1 ⟨rfl, hb1⟩; obtain ⟨x0, x1, x2, x3, x4⟩ := box5 hb1)
  go_ret
  exact ⟨rfl, below_then (below_alloc _ _) hb1⟩

/-- the closed event -/
def E0 : EV := ⟨⟨#[97]⟩, ⟨#[65, 32, 98]⟩, 5, 1, ⟨#[111, 110, 99, 101]⟩, 1, [], 0, -1, [], []⟩
theorem E0_rule : Well (rd ⟨#[111, 110, 99, 101]⟩ 1 [] 0 (-1)) := by
  refine ⟨?_, ?_, by decide, by decide, by decide, fun _ => ⟨rfl, rfl, rfl⟩, fun _ => rfl, Or.inl rfl, ?_⟩
  · left; exact ByteArray.toList_eq _
  · intro d hd; cases hd
  · intro i h; exact absurd h (by simp [rd])
theorem E0_well : EW E0 := by
  refine ⟨⟨fun j h => ?_, by decide, by decide⟩, ⟨fun j h => ?_, by decide⟩, ⟨by decide, by decide⟩, E0_rule, by decide⟩
  · have h' : j < 1 := h
    match j, h' with
    | 0, _ => show okc 97; left; decide
  · have h' : j < 3 := h
    match j, h' with
    | 0, _ => show okt 65; exact ⟨by decide, by decide, by decide⟩
    | 1, _ => show okt 32; exact ⟨by decide, by decide, by decide⟩
    | 2, _ => show okt 98; exact ⟨by decide, by decide, by decide⟩
/-- the texts of its fields -/
def P0 : List (List UInt8) := [[65, 32, 98], [50, 48, 48, 48, 45, 48, 49, 45, 48, 54], [49], [111, 110, 99, 101], [], []]

theorem evented_any (s : Nat → Addr) (w : World) (g : GlobK s w) (ht : Tab w) : Calls Tryz.prog 6 #[] w fun r w' => r = .returned (.bool true) ∧ Below w.heap.size w w' := by
  have hA := below_alloc w (.cells #[.string ⟨#[97]⟩, .string ⟨#[65, 32, 98]⟩, .int .i64 5, .int .i64 1, .string ⟨#[111, 110, 99, 101]⟩, .int .i64 1, .slice none 0 0, .int .i64 0, .int .i64 (-1), .slice none 0 0, .slice none 0 0] 27)
  have HA : Hid (_) := hA
  have G := g.step hA
  have TT := ht.step hA
  generalize hw0 : w.alloc (.cells #[.string ⟨#[97]⟩, .string ⟨#[65, 32, 98]⟩, .int .i64 5, .int .i64 1, .string ⟨#[111, 110, 99, 101]⟩, .int .i64 1, .slice none 0 0, .int .i64 0, .int .i64 (-1), .slice none 0 0, .slice none 0 0] 27) = w0 at HA G TT
  have hv : vld 2000 1 6 := by unfold vld; decide
  have hn : num 2000 1 6 = 5 := by decide
  have htx : (⟨(txt 2000 1 6).toArray⟩ : ByteArray) = bs [50, 48, 48, 48, 45, 48, 49, 45, 48, 54] := by decide
  have hit : bs (Lib.itoa 1) = bs [49] := by
    have : Lib.itoa 1 = [49] := by
      show Lib.itoa ((1 : Nat) : Int) = _
      rw [Lib.itoa_nonneg, Lib.decDigits_one (by omega)]; rfl
    rw [this]
  have TX := etext_of E0 (.slice none 0 0) (.slice none 0 0) (.slice none 0 0) P0 s w0 G (Days.nil _ _) (Ints.nil _ _) (Movs.nil _ _) (by decide) (by decide) E0_well rfl (by decide) (fun i hi W hW => ?_)
  · have hj : bs (Lib.join (E0.id.data.toList :: P0) [124]) = ⟨#[97, 124, 65, 32, 98, 124, 50, 48, 48, 48, 45, 48, 49, 45, 48, 54, 124, 49, 124, 111, 110, 99, 101, 124, 124]⟩ := by decide
    rw [hj] at TX
    unfold ev E0 at TX
    dsimp only at TX
    have C : Hid (Calls _ _ _ _ _) := TX
    clear TX hj htx hit hv hn g ht hA G TT
    subst hw0
    go_enter Tryz.func6, Tryz.ntmps6
    go_wp2_with (go_at_call 18; refine Calls.mono C.out ?_; rintro r w1 ⟨rfl, hb1⟩)
    go_ret
    exact ⟨rfl, below_then HA.out hb1⟩
  · match i, hi with
    | 0, _ => exact get_title E0 none 0 0 none 0 0 none 0 0 W
    | 1, _ => exact get_start E0 none 0 0 none 0 0 none 0 0 _ W (fun W' h => by
        have := text_ok 5 2000 1 6 W' hv hn (TT.step (below_then hW h))
        rw [htx] at this
        exact this)
    | 2, _ => exact get_long E0 none 0 0 none 0 0 none 0 0 _ W (fun W' h => by
        have := itoa_any 1 W' (by omega) (by omega) (TT.step (below_then hW h))
        rw [hit] at this
        exact this)
    | 3, _ => exact get_rule E0 none 0 0 none 0 0 none 0 0 _ W (fun W' h => rtext_once0 ⟨#[111, 110, 99, 101]⟩ 1 (.slice none 0 0) 0 (-1) [] W' (Days.nil _ _) E0_rule (by rw [beq_iff_eq]; exact ByteArray.toList_eq _))
    | 4, _ => exact get_skips E0 none 0 0 none 0 0 none 0 0 _ W (fun W' h => listTextI_any [] (.slice none 0 0) (fun _ => []) W' (Ints.nil _ _) (by simp) (fun x hx => by cases hx) (fun x hx => by cases hx))
    | 5, _ => exact get_moves E0 none 0 0 none 0 0 none 0 0 _ W (fun W' h => listTextM_nil none 0 W')

/-- too long for a law? -/
def lngE (E : EV) : Int := if (20 < E.f.size ∨ 20 < E.ds.length) ∨ 30 < E.id.size ∨ 60 < E.ti.size ∨ 25 < E.sk.length ∨ 25 < E.mv.length then 1 else 0
theorem lngE_01 (E : EV) : 0 ≤ lngE E ∧ lngE E ≤ 1 := by unfold lngE; split <;> omega
theorem lngE_0 {E : EV} (h : lngE E = 0) : E.f.size ≤ 20 ∧ E.ds.length ≤ 20 ∧ E.id.size ≤ 30 ∧ E.ti.size ≤ 60 ∧ E.sk.length ≤ 25 ∧ E.mv.length ≤ 25 := by
  unfold lngE at h
  split at h
  · omega
  · omega

set_option maxHeartbeats 1000000 in
theorem longEvent_any (E : EV) (ra : Option Addr) (rc : Nat) (sa : Option Addr) (sc : Nat) (ma : Option Addr) (mc : Nat) (w : World) :
    Calls Tryz.prog 7 #[ev E (.slice ra E.ds.length rc) (.slice sa E.sk.length sc) (.slice ma E.mv.length mc)] w fun r w' => r = .returned (.int .i64 (lngE E)) ∧ Below w.heap.size w w' := by
  have HK : Hid (lngE E = if (20 < E.f.size ∨ 20 < E.ds.length) ∨ 30 < E.id.size ∨ 60 < E.ti.size ∨ 25 < E.sk.length ∨ 25 < E.mv.length then 1 else 0) := rfl
  generalize lngE E = k at HK ⊢
  have hB := EB.new w E (.slice ra E.ds.length rc) (.slice sa E.sk.length sc) (.slice ma E.mv.length mc)
  obtain ⟨idn, ti, st, lg, f, e, ds, c, u, sk, mv⟩ := E
  unfold ev EB at *
  dsimp only at *
  have LR : Hid (∀ W, Calls Tryz.prog 19 #[.agg #[.string f, .int .i64 e, .slice ra ds.length rc, .int .i64 c, .int .i64 u]] W fun r w' => r = .returned (.int .i64 (if 20 < f.size ∨ 20 < ds.length then 1 else 0)) ∧ Below W.heap.size W w') := fun W => longRule_any f e ra ds.length rc c u W _ rfl
  have HA : Hid (_) := below_alloc w (.cells #[.string idn, .string ti, .int .i64 st, .int .i64 lg, .string f, .int .i64 e, .slice ra ds.length rc, .int .i64 c, .int .i64 u, .slice sa sk.length sc, .slice ma mv.length mc] 27)
  generalize hw0 : w.alloc (.cells #[.string idn, .string ti, .int .i64 st, .int .i64 lg, .string f, .int .i64 e, .slice ra ds.length rc, .int .i64 c, .int .i64 u, .slice sa sk.length sc, .slice ma mv.length mc] 27) = w0 at HA hB
  obtain ⟨x0, x1, x2, x3, x4, x5, x6, x7, x8, x9, x10⟩ := blk11 hB
  have BX : Hid (∀ W, Below w0.heap.size w0 W → _) := fun W h => blk11 ((h.block _ (Array.getElem?_eq_some_iff.1 hB).1).trans hB)
  clear hB
  have h1 : (20 < f.size ∨ 20 < ds.length) ∨ (¬ (20 < f.size ∨ 20 < ds.length) ∧ 30 < idn.size) ∨ (¬ (20 < f.size ∨ 20 < ds.length) ∧ idn.size ≤ 30 ∧ 60 < ti.size) ∨ (¬ (20 < f.size ∨ 20 < ds.length) ∧ idn.size ≤ 30 ∧ ti.size ≤ 60 ∧ 25 < sk.length) ∨ (¬ (20 < f.size ∨ 20 < ds.length) ∧ idn.size ≤ 30 ∧ ti.size ≤ 60 ∧ sk.length ≤ 25 ∧ 25 < mv.length) ∨ (¬ (20 < f.size ∨ 20 < ds.length) ∧ idn.size ≤ 30 ∧ ti.size ≤ 60 ∧ sk.length ≤ 25 ∧ mv.length ≤ 25) := by omega
  have HK2 : Hid (k = if (20 < f.size ∨ 20 < ds.length) ∨ 30 < idn.size ∨ 60 < ti.size ∨ 25 < sk.length ∨ 25 < mv.length then 1 else 0) := HK.out
  clear HK
  rcases h1 with h1 | ⟨h1, h2⟩ | ⟨h1, h2, h3⟩ | ⟨h1, h2, h3, h4⟩ | ⟨h1, h2, h3, h4, h5⟩ | ⟨h1, h2, h3, h4, h5⟩
  all_goals
    first
    | rw [if_pos h1] at LR
    | rw [if_neg h1] at LR
    first
    | rw [if_pos (by omega)] at HK2
    | rw [if_neg (by omega)] at HK2
    clear h1
    go_enter Tryz.func7, Tryz.ntmps7
    go_wp2_with (go_at_call 19; refine (LR.out _).mono ?_; rintro r w1 ⟨rfl, hb1⟩; obtain ⟨y0, y1, y2, y3, y4, y5, y6, y7, y8, y9, y10⟩ := BX.out _ hb1)
    go_ret
    exact ⟨ret_int HK2.out.symm, below_then HA.out hb1⟩

/-- moves as they were handed over -/
def GotM (w : World) (sl : Value) (ms : List (Int × Int)) : Prop :=
  ∃ (a : Option Addr) (cap : Nat), sl = .slice a ms.length cap ∧ (a = none → ms.length = 0 ∧ cap = 0) ∧ ∀ ad, a = some ad → ∀ (j : Nat) (h : j < ms.length), ad.block < w.heap.size ∧ w.cell? (ad.add (j * 2)) = some (.int .i64 ms[j].1) ∧ w.cell? (ad.add (j * 2 + 1)) = some (.int .i64 ms[j].2)
theorem GotM.step {w w' : World} {sl : Value} {ms : List (Int × Int)} (h : GotM w sl ms) (hb : Below w.heap.size w w') : GotM w' sl ms := by
  obtain ⟨a, cap, h1, h2, h3⟩ := h
  refine ⟨a, cap, h1, h2, fun ad e j hj => ?_⟩
  obtain ⟨h4, h5, h6⟩ := h3 ad e j hj
  exact ⟨Nat.lt_of_lt_of_le h4 hb.size, (World.cell?_of_block (a := ad.add (j * 2)) (hb.block _ (by rw [addr_add_block]; exact h4))).trans h5, (World.cell?_of_block (a := ad.add (j * 2 + 1)) (hb.block _ (by rw [addr_add_block]; exact h4))).trans h6⟩
/-- the cells of moves -/
def mcells : List (Int × Int) → List Value
  | [] => []
  | m :: r => .int .i64 m.1 :: .int .i64 m.2 :: mcells r
theorem mcells_len : ∀ ms : List (Int × Int), (mcells ms).length = ms.length * 2
  | [] => rfl
  | m :: r => by simp [mcells, mcells_len r]; omega
theorem mcells_at : ∀ (ms : List (Int × Int)) (j : Nat) (h : j < ms.length), (mcells ms)[j * 2]? = some (.int .i64 ms[j].1) ∧ (mcells ms)[j * 2 + 1]? = some (.int .i64 ms[j].2)
  | m :: r, 0, _ => ⟨rfl, rfl⟩
  | m :: r, j + 1, h => by
    have := mcells_at r j (by simpa using h)
    rw [show (j + 1) * 2 = j * 2 + 1 + 1 by omega]
    exact this
theorem mcells_one (ms : List (Int × Int)) : ∀ u ∈ mcells ms, u.oneCell' = true := by
  induction ms with
  | nil => intro u hu; cases hu
  | cons m r ih =>
    intro u hu
    rcases List.mem_cons.1 hu with rfl | hu
    · rfl
    · rcases List.mem_cons.1 hu with rfl | hu
      · rfl
      · exact ih u hu
theorem mcells_of (ms : List (Int × Int)) (P : Nat → Value → Prop) (h : ∀ (j : Nat) (h : j < ms.length), P (j * 2) (.int .i64 ms[j].1) ∧ P (j * 2 + 1) (.int .i64 ms[j].2)) : ∀ (i : Nat) (u : Value), (mcells ms)[i]? = some u → P i u := fun i u hu => by
  have hi : i < ms.length * 2 := by rw [← mcells_len]; exact (List.getElem?_eq_some_iff.1 hu).1
  have hj : i / 2 < ms.length := by omega
  obtain ⟨a1, a2⟩ := mcells_at ms (i / 2) hj
  obtain ⟨b1, b2⟩ := h (i / 2) hj
  rcases Nat.mod_two_eq_zero_or_one i with q | q
  · have e : i / 2 * 2 = i := by omega
    rw [e] at a1 b1
    rw [hu] at a1
    cases a1; exact b1
  · have e : i / 2 * 2 + 1 = i := by omega
    rw [e] at a2 b2
    rw [hu] at a2
    cases a2; exact b2
theorem info_move : (Tryz.prog.info? 44).map (fun i => (i.zero, i.size, i.bytes)) = some (some (.agg #[.int .i64 0, .int .i64 0]), 2, 16) := by kernel_rfl
/-- a row of moves of one's own -/
def OwM (base : Nat) (W : World) (sl : Value) (ms : List (Int × Int)) : Prop := W.ownsRow base 44 2 sl ms.length (mcells ms)
theorem OwM.grown {base B : Nat} {W W' : World} {sl : Value} {ds : List (Int × Int)} (h : OwM base W sl ds) (hg : W.grownBy W' (some B)) (hB : B < base) : OwM base W' sl ds :=
  World.ownsRow.kept h hg (.inr (fun he => by have := (World.ownsRow.lt h _ he).1; omega))
theorem owm_cell {W : World} {g : Nat} {cur : Array Value} {ms : List (Int × Int)} (hg : W.heap[g]? = some (.cells cur 44 (0, 0))) (htake : cur.toList.take (ms.length * 2) = mcells ms) (j : Nat) (hj : j < ms.length) :
    W.cell? ⟨g, j * 2, none⟩ = some (.int .i64 ms[j].1) ∧ W.cell? ⟨g, j * 2 + 1, none⟩ = some (.int .i64 ms[j].2) := by
  obtain ⟨a1, a2⟩ := mcells_at ms j hj
  rw [← htake, List.getElem?_take_of_lt (by omega), Array.getElem?_toList] at a1 a2
  constructor
  · simp only [World.cell?, hg]; simpa using a1
  · simp only [World.cell?, hg]; simpa using a2
theorem owm_movs {base : Nat} {W : World} {sl : Value} {ms : List (Int × Int)} (h : OwM base W sl ms) (hl : ms.length ≤ 80000) : Movs W sl ms ∧ GotM W sl ms := by
  rcases h.2 with ⟨rfl, h0⟩ | ⟨g, cap, cur, rfl, hb, hg, hcap, hmax, hsz, htake⟩
  · rw [List.length_eq_zero_iff.1 h0]; exact ⟨Movs.nil W 0, none, 0, rfl, fun _ => ⟨rfl, rfl⟩, fun ad q => by cases q⟩
  · have hlt := (Array.getElem?_eq_some_iff.1 hg).1
    refine ⟨⟨_, cap, rfl, hl, hcap, fun j hj => ?_⟩, ⟨_, cap, rfl, (fun q => by cases q), fun ad q j hj => ?_⟩⟩
    · obtain ⟨c1, c2⟩ := owm_cell hg htake j hj
      exact ⟨g, rfl, hlt, c1, c2⟩
    · cases q
      obtain ⟨c1, c2⟩ := owm_cell hg htake j hj
      rw [Addr.add_lit, Addr.add_lit, Nat.zero_add, Nat.zero_add]
      exact ⟨hlt, c1, c2⟩
end Go.Proofs.YtijdnmkkdofbeaaGreatDoor
