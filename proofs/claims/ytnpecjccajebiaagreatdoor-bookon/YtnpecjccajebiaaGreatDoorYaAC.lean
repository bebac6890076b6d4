/- Contracts of the law's own LongRule and OwnRule. -/
import Derived.Test.YtnpecjccajebiaaGreatDoorYaAB
import Derived.Laws.AppendOwnNone
import Derived.Test.YtnpecjccajebiaaGreatDoorRows
import Derived.WalkKit
import Derived.ProofKit
import Derived.LaidMore
import Derived.ChangeSlices
import Derived.Stop.LaidErr
import Derived.Stop.Joined
import Derived.Lib.SlicesCompact
namespace Go.Proofs.YtnpecjccajebiaaGreatDoor
open Go.RowKit Cal

theorem ow_days {base : Nat} {W : World} {sl : Value} {ds : List Int} (h : Ow base W sl ds) (h20 : ds.length ≤ 20) : Days W sl ds := by
  rcases h.2 with ⟨rfl, h0⟩ | ⟨g, cap, cur, rfl, hb, hg, hcap, hmax, hsz, htake⟩
  · rw [List.length_eq_zero_iff.1 h0]; exact Days.nil W 0
  · refine ⟨_, cap, rfl, h20, hcap, fun j hj => ⟨g, rfl, (Array.getElem?_eq_some_iff.1 hg).1, ?_⟩⟩
    have := World.ownsRow.cellAt h j (by omega)
    rw [this, List.getElem?_map, List.getElem?_eq_getElem hj]; rfl
theorem Ow.step {base : Nat} {W W' : World} {v : Value} {o : List Int} (h : Ow base W v o) (hb : Below W.heap.size W W') : Ow base W' v o :=
  World.ownsRow.kept h (grown_below hb (some W.heap.size)) (.inr (fun he => by have := (World.ownsRow.lt h _ he).2; omega))
theorem ow_form {base : Nat} {W : World} {v : Value} {o : List Int} (h : Ow base W v o) : ∃ a cap, v = .slice a o.length cap := by
  rcases h.2 with ⟨rfl, h0⟩ | ⟨g, cap, cur, rfl, _⟩
  · rw [h0]; exact ⟨none, 0, rfl⟩
  · exact ⟨_, cap, rfl⟩
theorem Ow.steps {base : Nat} {W W' : World} {v : Value} {o : List Int} (h : Ow base W v o) (hk : ∀ k, base ≤ k → k < W.heap.size → W'.heap[k]? = W.heap[k]?) : Ow base W' v o := by
  refine ⟨h.1, ?_⟩
  rcases h.2 with h2 | ⟨g, cap, cur, hv, hb, hg, r⟩
  · exact .inl h2
  · exact .inr ⟨g, cap, cur, hv, hb, (hk g hb (Array.getElem?_eq_some_iff.1 hg).1).trans hg, r⟩
/-- a rule's list of days as it was handed over -/
def Got (w : World) (sl : Value) (ds : List Int) : Prop :=
  ∃ (a : Option Addr) (cap : Nat), sl = .slice a ds.length cap ∧ (a = none → ds.length = 0 ∧ cap = 0) ∧ ∀ ad, a = some ad → ∀ (j : Nat) (h : j < ds.length), ad.block < w.heap.size ∧ w.cell? (ad.add j) = some (.int .i64 ds[j])
theorem addr_add_block (ad : Addr) (j : Nat) : (ad.add j).block = ad.block := by
  unfold Addr.add
  split <;> rfl
theorem Got.step {w w' : World} {sl : Value} {ds : List Int} (h : Got w sl ds) (hb : Below w.heap.size w w') : Got w' sl ds := by
  obtain ⟨a, cap, h1, h2, h3⟩ := h
  refine ⟨a, cap, h1, h2, fun ad e j hj => ?_⟩
  obtain ⟨h4, h5⟩ := h3 ad e j hj
  exact ⟨Nat.lt_of_lt_of_le h4 hb.size, (World.cell?_of_block (a := ad.add j) (hb.block _ (by rw [addr_add_block]; exact h4))).trans h5⟩

theorem ow_got {base : Nat} {W : World} {sl : Value} {ds : List Int} (h : Ow base W sl ds) : Got W sl ds := by
  rcases h.2 with ⟨rfl, h0⟩ | ⟨g, cap, cur, rfl, hb, hg, hcap, hmax, hsz, htake⟩
  · rw [List.length_eq_zero_iff.1 h0]; exact ⟨none, 0, rfl, fun _ => ⟨rfl, rfl⟩, fun ad q => by cases q⟩
  · refine ⟨_, cap, rfl, (fun q => by cases q), fun ad q j hj => ?_⟩
    cases q
    refine ⟨(Array.getElem?_eq_some_iff.1 hg).1, ?_⟩
    have := World.ownsRow.cellAt h j (by omega)
    have e : (⟨g, 0, none⟩ : Addr).add j = ⟨g, j, none⟩ := by
      simp [Addr.add]
      intro hq
      exact hq.symm
    rw [e, this, List.getElem?_map, List.getElem?_eq_getElem hj]; rfl

theorem longRule_any (f : ByteArray) (e : Int) (a : Option Addr) (n cap : Nat) (c u : Int) (w : World) (k : Int) (hk : k = if 20 < f.size ∨ 20 < n then 1 else 0) :
    Calls Tryz.prog 58 #[rv f e (.slice a n cap) c u] w fun r w' => r = .returned (.int .i64 k) ∧ Below w.heap.size w w' := by
  unfold rv
  by_cases h1 : 20 < f.size
  · have HK : Hid (k = 1) := by rw [hk, if_pos (Or.inl h1)]; trivial
    clear hk
    go_enter Tryz.func58, Tryz.ntmps58
    go_wp2
    go_ret
    exact ⟨ret_int HK.out.symm, below_alloc _ _⟩
  · by_cases h2 : 20 < n
    · have HK : Hid (k = 1) := by rw [hk, if_pos (Or.inr h2)]; trivial
      clear hk
      go_enter Tryz.func58, Tryz.ntmps58
      go_wp2
      go_ret
      exact ⟨ret_int HK.out.symm, below_alloc _ _⟩
    · have HK : Hid (k = 0) := by rw [hk, if_neg (by omega)]; trivial
      clear hk
      go_enter Tryz.func58, Tryz.ntmps58
      go_wp2
      go_ret
      exact ⟨ret_int HK.out.symm, below_alloc _ _⟩

set_option maxHeartbeats 1000000 in
set_option maxRecDepth 100000 in
theorem ownRule_any (f : ByteArray) (e : Int) (sl : Value) (c u : Int) (ds : List Int) (w : World) (hd : Got w sl ds) (h20 : ds.length ≤ 20) :
    Calls Tryz.prog 51 #[rv f e sl c u] w fun r w' => ∃ sl', r = .returned (rv f e sl' c u) ∧ Days w' sl' ds ∧ Got w' sl' ds ∧ Below w.heap.size w w' := by
  obtain ⟨a, cap, rfl, hn, hs⟩ := hd
  obtain ⟨i0, hi, hz0, hz1, hz2⟩ := info_parts info_int
  unfold rv
  cases a with
  | none =>
    obtain ⟨h0, rfl⟩ := hn rfl
    have hds : ds = [] := List.length_eq_zero_iff.1 h0
    subst hds
    clear hn hs h0
    simp only [List.length_nil]
    go_enter Tryz.func51, Tryz.ntmps51
    go_wp2
    exact bodyPost_ret (v := .agg #[.string f, .int .i64 e, .slice none 0 0, .int .i64 c, .int .i64 u]) (by simp [results, Tryz.f51, go_sem]) rfl ⟨_, rfl, Days.nil _ 0, ⟨none, 0, rfl, fun _ => ⟨rfl, rfl⟩, fun ad h => by cases h⟩, below_box2 _ _ _⟩
  | some ad =>
    have hc := hs ad rfl
    have HC : Hid (_) := hc
    clear hn hs hc
    go_enter Tryz.func51, Tryz.ntmps51
    go_wp2_with (first
      | (at_builtin; refine wpList_append_own _ rfl _ _ 39 rfl (w.heap.size + 2) 3 i0 (.int .i64 0) 1 8 Tryz.underlying39 hi hz0 hz1 hz2 rfl (by decide) _ _ _ rfl (World.ownsRow_nil _ _ _ _) ad ds.length cap (ds.map (Value.int .i64)) rfl (by simp) ?c1 ?c2 ?c3 ?c4 ?c5 ?_)
      | go_in)
    case c1 =>
      intro j v hv
      rw [List.getElem?_map] at hv
      obtain ⟨d, hd, rfl⟩ := Option.map_eq_some_iff.1 hv
      obtain ⟨hj, rfl⟩ := List.getElem?_eq_some_iff.1 hd
      exact (World.cell?_of_block (a := ad.add j) ((below_box2 w _ _).block _ (by rw [addr_add_block]; exact (HC.out j hj).1))).trans (HC.out j hj).2
    case c2 =>
      intro v hv
      obtain ⟨d, _, rfl⟩ := List.mem_map.1 hv
      rfl
    case c3 => unfold maxLen; omega
    case c4 => omega
    case c5 => simp
    · intro v' w1 hown hgrow _
      have hb1 : Below _ _ w1 := ⟨hgrow.os, hgrow.tape, hgrow.output, hgrow.size, fun k hk => hgrow.block k hk (by simp [Value.ownBlock])⟩
      have OW : Hid (Ow (w.heap.size + 2) w1 v' ds) := hown
      obtain ⟨a', c', rfl, _, _, _⟩ := ow_days OW.out h20
      have k0 := (hb1.block w.heap.size (by simp; omega)).trans (block_alloc _ (block_at _ rfl))
      have k1 := (hb1.block (w.heap.size + 1) (by simp)).trans (block_at _ (by simp))
      have K1 : Hid (_) := k1
      have HB : Hid (Below w.heap.size w w1) := (below_box2 w _ _).trans (hb1.mono (by simp; omega))
      obtain ⟨x0, x1, x2, x3, x4⟩ := blk5 k0
      obtain ⟨y0, y1, y2, y3, y4⟩ := blk5 k1
      have z2 := blk5_frozen k0 2
      have t0 := blk5_frozen k1 0
      have t1 := blk5_frozen k1 1
      have t2 := blk5_frozen k1 2
      have t3 := blk5_frozen k1 3
      have t4 := blk5_frozen k1 4
      clear hown hgrow hb1 HC
      go_wp2
      have g0 := grown_set w1 ⟨w.heap.size, 2, none⟩ (.slice a' ds.length c')
      have q1 := (Below.heap_setCell w1 ⟨w.heap.size, 2, none⟩ (.slice a' ds.length c') (w.heap.size + 1) (fun e => by have e' : w.heap.size + 1 = w.heap.size := e; omega)).trans K1.out
      have o1 := Ow.grown OW.out g0 (show w.heap.size < _ by omega)
      have b1 : Below w.heap.size w (w1.setCell ⟨w.heap.size, 2, none⟩ (.slice a' ds.length c')) := HB.out.grown g0 HB.out.size (fun k e => by cases e; exact Nat.le_refl _)
      generalize w1.setCell ⟨w.heap.size, 2, none⟩ (.slice a' ds.length c') = w2 at q1 o1 b1
      have m0 := set_block (i := 0) (.string f) q1
      have m1 := set_block (i := 1) (.int .i64 e) m0
      have m2 := set_block (i := 2) (.slice a' ds.length c') m1
      have m3 := set_block (i := 3) (.int .i64 c) m2
      have m4 := set_block (i := 4) (.int .i64 u) m3
      have g4 : w2.grownBy (((((w2.setCell ⟨w.heap.size + 1, 0, none⟩ (.string f)).setCell ⟨w.heap.size + 1, 1, none⟩ (.int .i64 e)).setCell ⟨w.heap.size + 1, 2, none⟩ (.slice a' ds.length c')).setCell ⟨w.heap.size + 1, 3, none⟩ (.int .i64 c)).setCell ⟨w.heap.size + 1, 4, none⟩ (.int .i64 u)) (some (w.heap.size + 1)) :=
        grown_then (grown_then (grown_then (grown_then (grown_set _ ⟨w.heap.size + 1, 0, none⟩ _) (grown_set _ ⟨w.heap.size + 1, 1, none⟩ _)) (grown_set _ ⟨w.heap.size + 1, 2, none⟩ _)) (grown_set _ ⟨w.heap.size + 1, 3, none⟩ _)) (grown_set _ ⟨w.heap.size + 1, 4, none⟩ _)
      change _ = some (Obj.cells #[.string f, .int .i64 e, .slice a' ds.length c', .int .i64 c, .int .i64 u] 41 (0, 0)) at m4
      clear m0 m1 m2 m3 x0 x1 x2 x3 x4 y0 y1 y2 y3 y4 z2 t0 t1 t2 t3 t4
      generalize ((((w2.setCell ⟨w.heap.size + 1, 0, none⟩ (.string f)).setCell ⟨w.heap.size + 1, 1, none⟩ (.int .i64 e)).setCell ⟨w.heap.size + 1, 2, none⟩ (.slice a' ds.length c')).setCell ⟨w.heap.size + 1, 3, none⟩ (.int .i64 c)).setCell ⟨w.heap.size + 1, 4, none⟩ (.int .i64 u) = w3 at m4 g4
      obtain ⟨c0, c1, c2, c3, c4⟩ := blk5 m4
      exact bodyPost_ret (v := .agg #[.string f, .int .i64 e, .slice a' ds.length c', .int .i64 c, .int .i64 u]) (by simp [results, Tryz.f51, go_sem, c0, c1, c2, c3, c4]) rfl
        ⟨_, rfl, ow_days (Ow.grown o1 g4 (by omega)) h20, ow_got (Ow.grown o1 g4 (by omega)), b1.grown g4 b1.size (fun k e => by cases e; omega)⟩

end Go.Proofs.YtnpecjccajebiaaGreatDoor

/- What the rows' lists of package-level variables give the walks over package expand: the errors' cells; a rule as an argument, opened. -/
namespace Go.Proofs.YtnpecjccajebiaaGreatDoor
open Go.ChangeShapes Go.WideShapes Go.ChangeAt Go.RowKit Cal

theorem own : ownKnob Tryz.prog.godebug = none := by kernel_rfl
theorem gBound : Tryz.prog.globalNamed "lammastide/api.ErrBound" = some 0 := by kernel_rfl
theorem tBound : (Tryz.prog.globals[0]?).map (·.type) = some 32 := by kernel_rfl
theorem gShape : Tryz.prog.globalNamed "lammastide/api.ErrShape" = some 1 := by kernel_rfl
theorem tShape : (Tryz.prog.globals[1]?).map (·.type) = some 32 := by kernel_rfl
theorem gName : Tryz.prog.globalNamed "lammastide/api.ErrName" = some 6 := by kernel_rfl
theorem tName : (Tryz.prog.globals[6]?).map (·.type) = some 32 := by kernel_rfl
theorem gOrder : Tryz.prog.globalNamed "lammastide/api.ErrOrder" = some 5 := by kernel_rfl
theorem tOrder : (Tryz.prog.globals[5]?).map (·.type) = some 32 := by kernel_rfl
theorem cErrStr : Tryz.prog.cellsOf 290 = 1 := by kernel_rfl
theorem cStr : Tryz.prog.cellsOf 9 = 1 := by kernel_rfl
theorem star : "*" ++ "errors.errorString" = "*errors.errorString" := by decide
theorem rowErrStr (u : TypeId) (h : Tryz.prog.typeName? 3 u = some "*errors.errorString") : u = 288 :=
  typeName_ptr_named (nm := "errors.errorString") (by rw [star]; kernel_rfl) (by kernel_rfl) (by decide) u (by rw [star]; exact h)

/-- an error of errors.New's make at the head of the list: its cell -/
theorem sentinel {n : String} {g : Nat} {text : List UInt8} {r : List (String × DataW Unit)} {W : World}
    (h : laidMet Tryz.prog ((n, .iface "*errors.errorString" (.ptr (.agg [.lit (.string text)]))) :: r) W) (hg : Tryz.prog.globalNamed n = some g) (ht : (Tryz.prog.globals[g]?).map (·.type) = some 32) :
    ∃ a : Addr, W.cell? ⟨g, 0, none⟩ = some (.iface 288 (.pointer (some a))) := by
  obtain ⟨a, s, hv, _, _, _⟩ := laid_sentinel h hg ht Tryz.underlying32 rowErrStr Tryz.underlying288 Tryz.underlying290 rfl rfl Tryz.underlying9 cErrStr cStr
  exact ⟨a, by simpa using World.var?_cell hg hv 0⟩
theorem array5 {α : Type} {cs : Array α} (h : cs.size = 5) : ∃ c0 c1 c2 c3 c4, cs = #[c0, c1, c2, c3, c4] := by
  obtain ⟨l⟩ := cs
  match l, h with
  | [a, b, c, d, e], _ => exact ⟨a, b, c, d, e, rfl⟩
theorem cRule : Tryz.prog.cellsOf 41 = 5 := by kernel_rfl
theorem cInt : Tryz.prog.cellsOf 3 = 1 := by kernel_rfl
theorem cInts : Tryz.prog.cellsOf 39 = 1 := by kernel_rfl

set_option maxRecDepth 100000 in
/-- a rule that was handed over: its parts -/
theorem open_rule {H : Type} {enc : TypeId × Value → H} {W : World} {b0 : Nat} {v : Value} {d : DataW H} {p : List MemPlace}
    (hv : Value.okWide Tryz.prog W .any b0 41 v) (h : DataW.Trod enc Tryz.prog W 0 (fun _ => true) true 41 v d p) :
    ∃ (f : ByteArray) (e : Int) (sl : Value) (c u : Int) (ds : List Int), v = rv f e sl c u ∧ Got W sl ds := by
  obtain ⟨cs, rfl, hsz⟩ := okWide_struct Tryz.underlying41 hv
  obtain ⟨c0, c1, c2, c3, c4, rfl⟩ := array5 (hsz.trans cRule)
  obtain ⟨fuel, hf⟩ := h
  obtain ⟨xs, n, _, _, hl, hlen, hfl⟩ := DataW.trod_struct Tryz.underlying41 hf
  have h0 := hfl 0 _ rfl
  have h1 := hfl 1 _ rfl
  have h2 := hfl 2 _ rfl
  have h3 := hfl 3 _ rfl
  have h4 := hfl 4 _ rfl
  match xs, hlen with
  | [y0, y1, y2, y3, y4], _ =>
  simp [Value.cells, cStr, cInt, cInts] at h0 h1 h2 h3 h4
  obtain ⟨s, e0, _, _⟩ := DataW.trod_string Tryz.underlying9 h0
  obtain ⟨e, e1, _, _⟩ := DataW.trod_int Tryz.underlying3 h1
  obtain ⟨c, e3, _, _⟩ := DataW.trod_int Tryz.underlying3 h3
  obtain ⟨u, e4, _, _⟩ := DataW.trod_int Tryz.underlying3 h4
  cases e0
  cases e1
  cases e3
  cases e4
  rcases open_ints Tryz.underlying39 Tryz.underlying3 cInt h2 with ⟨e2, _⟩ | ⟨a, len, cap, zs, e2, _, hlc, _, hz, _, hc, _⟩
  · cases e2
    exact ⟨s, e, _, c, u, [], rfl, none, 0, rfl, fun _ => ⟨rfl, rfl⟩, fun ad ha => by cases ha⟩
  · cases e2
    have hzl : zs.length = cap := by simpa using hz
    have hl' : (zs.take len).length = len := by simp; omega
    refine ⟨s, e, _, c, u, zs.take len, rfl, some a, cap, by rw [hl'], fun ha => (by cases ha), fun ad ha j hj => ?_⟩
    cases ha
    have hj' : j < len := by omega
    have hcell := hc j (by omega)
    have e5 : zs.getD j 0 = (zs.take len)[j] := by simp [List.getD, List.getElem?_eq_getElem (show j < zs.length by omega)]
    rw [e5] at hcell
    refine ⟨?_, hcell⟩
    rcases Nat.lt_or_ge a.block W.heap.size with h | h
    · exact h
    · have hb : W.heap.size ≤ (a.add j).block := by rw [addr_add_block]; exact h
      simp [World.cell?, Array.getElem?_eq_none hb] at hcell
end Go.Proofs.YtnpecjccajebiaaGreatDoor

/- Plain mathematics of events (no program text in it): where a day is now, the days of an event in a span; what sorting and dropping what is twice leaves. -/
namespace Go.Proofs.YtnpecjccajebiaaGreatDoor.Cal

/-- where a day is now: itself, or where the first move from it goes -/
def mvd : List (Int × Int) → Int → Int
  | [], d => d
  | m :: r, d => if m.1 = d then m.2 else mvd r d
/-- is a day one of an event's, whose rule gives xs? -/
def ownB (xs sk : List Int) (ms : List (Int × Int)) (d : Int) : Bool := xs.any fun x => !(sk.contains x) && decide (mvd ms x = d)
/-- the days of an event from a to b -/
def evs (xs sk : List Int) (ms : List (Int × Int)) (a b : Int) : List Int := From (fun d => decide (a ≤ d ∧ d ≤ b) && ownB xs sk ms d) 0
/-- what is given up to a last day: not in order -/
def gvn (xs sk : List Int) (ms : List (Int × Int)) (l : Int) : List Int := ((xs.takeWhile (fun d => decide (d ≤ l))).filter (fun x => !(sk.contains x))).map (mvd ms)
/-- those within a span -/
def spn (a b : Int) (l : List Int) : List Int := l.filter fun d => decide (a ≤ d ∧ d ≤ b)
/-- up to which day one has to go -/
def lastOf (ms : List (Int × Int)) (b : Int) : Int := if h : ms = [] then b else max b (ms.getLast h).1

theorem rise_ext : ∀ {l m : List Int}, l.Pairwise (· < ·) → m.Pairwise (· < ·) → (∀ x, x ∈ l ↔ x ∈ m) → l = m
  | [], [], _, _, _ => rfl
  | [], b :: m, _, _, h => absurd ((h b).2 (List.mem_cons_self ..)) (by simp)
  | a :: l, [], _, _, h => absurd ((h a).1 (List.mem_cons_self ..)) (by simp)
  | a :: l, b :: m, hl, hm, h => by
    rw [List.pairwise_cons] at hl hm
    have hab : a = b := by
      have h1 := (h a).1 (List.mem_cons_self ..)
      have h2 := (h b).2 (List.mem_cons_self ..)
      rw [List.mem_cons] at h1 h2
      rcases h1 with h1 | h1
      · exact h1
      · rcases h2 with h2 | h2
        · exact h2.symm
        · have := hm.1 _ h1; have := hl.1 _ h2; omega
    subst hab
    congr 1
    refine rise_ext hl.2 hm.2 (fun x => ?_)
    have hx := h x
    rw [List.mem_cons, List.mem_cons] at hx
    constructor
    · intro h1
      rcases hx.1 (.inr h1) with h2 | h2
      · subst h2; have := hl.1 _ h1; omega
      · exact h2
    · intro h1
      rcases hx.2 (.inr h1) with h2 | h2
      · subst h2; have := hm.1 _ h1; omega
      · exact h2

open Go.Lib in
theorem compactUpTo_facts (zs : List Int) (hs : zs.Pairwise (· ≤ ·)) : ∀ m, m ≤ zs.length → (compactUpTo zs.toArray m).Pairwise (· < ·) ∧ (∀ x, x ∈ compactUpTo zs.toArray m ↔ ∃ (j : Nat) (h : j < zs.length), j < m ∧ zs[j] = x)
  | 0, _ => ⟨List.Pairwise.nil, fun x => ⟨fun h => absurd h (by simp [compactUpTo]), fun ⟨_, _, h, _⟩ => by omega⟩⟩
  | m + 1, hm => by
    obtain ⟨ih1, ih2⟩ := compactUpTo_facts zs hs m (by omega)
    have hlt : m < zs.length := by omega
    have em : zs.toArray[m]! = zs[m] := by simp [hlt]
    rw [compactUpTo_succ]
    by_cases hk : keeps zs.toArray m = true
    · rw [if_pos hk, em]
      refine ⟨List.pairwise_append.2 ⟨ih1, List.pairwise_singleton _ _, fun x hx y hy => ?_⟩, fun x => ?_⟩
      · rw [List.mem_singleton] at hy
        subst hy
        obtain ⟨j, hj, hjm, rfl⟩ := (ih2 x).1 hx
        unfold keeps at hk
        rw [decide_eq_true_iff] at hk
        have hm0 : m ≠ 0 := by omega
        have e1 : zs.toArray[m - 1]! = zs[m - 1] := by simp [show m - 1 < zs.length by omega]
        have hne : zs[m] ≠ zs[m - 1] := by
          rcases hk with q | q
          · exact absurd q hm0
          · rwa [em, e1] at q
        have p1 : zs[m - 1] ≤ zs[m] := List.pairwise_iff_getElem.1 hs (m - 1) m (by omega) hlt (by omega)
        have p2 : zs[j] ≤ zs[m - 1] := by
          rcases Nat.lt_or_ge j (m - 1) with q | q
          · exact List.pairwise_iff_getElem.1 hs j (m - 1) hj (by omega) q
          · have : j = m - 1 := by omega
            subst this; exact Int.le_refl _
        omega
      · rw [List.mem_append, List.mem_singleton, ih2]
        constructor
        · rintro (⟨j, hj, h1, h2⟩ | rfl)
          · exact ⟨j, hj, by omega, h2⟩
          · exact ⟨m, hlt, by omega, rfl⟩
        · rintro ⟨j, hj, h1, h2⟩
          rcases Nat.lt_or_ge j m with q | q
          · exact .inl ⟨j, hj, q, h2⟩
          · have : j = m := by omega
            subst this; exact .inr h2.symm
    · rw [if_neg hk, List.append_nil]
      refine ⟨ih1, fun x => ?_⟩
      rw [ih2]
      constructor
      · rintro ⟨j, hj, h1, h2⟩; exact ⟨j, hj, by omega, h2⟩
      · rintro ⟨j, hj, h1, h2⟩
        rcases Nat.lt_or_ge j m with q | q
        · exact ⟨j, hj, q, h2⟩
        · have : j = m := by omega
          subst this
          unfold keeps at hk
          rw [decide_eq_true_iff] at hk
          have hm0 : j ≠ 0 := fun q => hk (.inl q)
          have e1 : zs.toArray[j - 1]! = zs[j - 1] := by simp [show j - 1 < zs.length by omega]
          have he : zs[j] = zs[j - 1] := Classical.byContradiction (fun q => hk (.inr (by rw [em, e1]; exact q)))
          exact ⟨j - 1, by omega, by omega, by rw [← he]; exact h2⟩

/-- a list that was sorted, what is twice dropped -/
theorem compact_sort (l m : List Int) (hm : m.Pairwise (· < ·)) (h : ∀ x, x ∈ l ↔ x ∈ m) : Go.Lib.compact (l.mergeSort fun x y => decide (x ≤ y)) = m := by
  have hs : (l.mergeSort fun x y => decide (x ≤ y)).Pairwise (· ≤ ·) := by
    have := List.pairwise_mergeSort (le := fun (x y : Int) => decide (x ≤ y)) (fun a b c h1 h2 => by simp at *; omega) (fun a b => by simp; omega) l
    exact this.imp (fun h => by simpa using h)
  obtain ⟨h1, h2⟩ := compactUpTo_facts _ hs _ (Nat.le_refl _)
  refine rise_ext h1 hm (fun x => ?_)
  have e : x ∈ l ↔ x ∈ l.mergeSort fun x y => decide (x ≤ y) := List.mem_mergeSort.symm
  rw [← h x, e]
  refine (h2 x).trans ?_
  rw [List.mem_iff_getElem]
  constructor
  · rintro ⟨j, hj, _, e⟩; exact ⟨j, hj, e⟩
  · rintro ⟨j, hj, e⟩; exact ⟨j, hj, hj, e⟩

theorem mvd_cases : ∀ (ms : List (Int × Int)) (x : Int), (mvd ms x = x ∧ ∀ m ∈ ms, m.1 ≠ x) ∨ (x, mvd ms x) ∈ ms
  | [], x => .inl ⟨rfl, fun m hm => by cases hm⟩
  | m :: r, x => by
    unfold mvd
    by_cases h : m.1 = x
    · rw [if_pos h]; right; rw [← h]; exact List.mem_cons_self ..
    · rw [if_neg h]
      rcases mvd_cases r x with ⟨h1, h2⟩ | h1
      · refine .inl ⟨h1, fun n hn => ?_⟩
        rcases List.mem_cons.1 hn with rfl | q
        · exact h
        · exact h2 n q
      · exact .inr (List.mem_cons_of_mem _ h1)
theorem mvd_of : ∀ {ms : List (Int × Int)} {x y : Int}, (ms.map Prod.fst).Pairwise (· < ·) → (x, y) ∈ ms → mvd ms x = y
  | [], _, _, _, h => by cases h
  | m :: r, x, y, hp, h => by
    rw [List.map_cons, List.pairwise_cons] at hp
    unfold mvd
    rcases List.mem_cons.1 h with rfl | q
    · rw [if_pos rfl]
    · have : m.1 < x := hp.1 x (List.mem_map.2 ⟨_, q, rfl⟩)
      rw [if_neg (by omega)]
      exact mvd_of hp.2 q
theorem ownB_iff {xs sk : List Int} {ms : List (Int × Int)} {d : Int} : ownB xs sk ms d = true ↔ ∃ x ∈ xs, x ∉ sk ∧ mvd ms x = d := by
  unfold ownB
  rw [List.any_eq_true]
  constructor
  · rintro ⟨x, h1, h2⟩
    simp at h2
    exact ⟨x, h1, h2⟩
  · rintro ⟨x, h1, h2, h3⟩
    exact ⟨x, h1, by simp [h2, h3]⟩
theorem mem_evs {xs sk : List Int} {ms : List (Int × Int)} {a b d : Int} : d ∈ evs xs sk ms a b ↔ 0 ≤ d ∧ d ≤ 73048 ∧ a ≤ d ∧ d ≤ b ∧ ∃ x ∈ xs, x ∉ sk ∧ mvd ms x = d := by
  unfold evs
  rw [mem_From, Bool.and_eq_true, decide_eq_true_iff, ownB_iff]
  constructor
  · rintro ⟨h1, h2, ⟨h3, h4⟩, h5⟩; exact ⟨h1, h2, h3, h4, h5⟩
  · rintro ⟨h1, h2, h3, h4, h5⟩; exact ⟨h1, h2, ⟨h3, h4⟩, h5⟩
theorem evs_rise (xs sk : List Int) (ms : List (Int × Int)) (a b : Int) : (evs xs sk ms a b).Pairwise (· < ·) := From_rise _ _
theorem mem_takeWhile_rise {u : Int} {l : List Int} (h : l.Pairwise (· < ·)) {x : Int} : x ∈ l.takeWhile (fun d => decide (d ≤ u)) ↔ x ∈ l ∧ x ≤ u := by
  rw [take_rise h, List.mem_filter, decide_eq_true_iff]
theorem mem_gvn {xs sk : List Int} {ms : List (Int × Int)} {l d : Int} (h : xs.Pairwise (· < ·)) : d ∈ gvn xs sk ms l ↔ ∃ x ∈ xs, x ≤ l ∧ x ∉ sk ∧ mvd ms x = d := by
  unfold gvn
  rw [List.mem_map]
  constructor
  · rintro ⟨x, h1, h2⟩
    rw [List.mem_filter, mem_takeWhile_rise h] at h1
    exact ⟨x, h1.1.1, h1.1.2, by simpa using h1.2, h2⟩
  · rintro ⟨x, h1, h2, h3, h4⟩
    exact ⟨x, by rw [List.mem_filter, mem_takeWhile_rise h]; exact ⟨⟨h1, h2⟩, by simpa using h3⟩, h4⟩
theorem le_lastOf {ms : List (Int × Int)} (b : Int) (hp : (ms.map Prod.fst).Pairwise (· < ·)) : b ≤ lastOf ms b ∧ ∀ m ∈ ms, m.1 ≤ lastOf ms b := by
  unfold lastOf
  by_cases h : ms = []
  · subst h; simp
  · rw [dif_neg h]
    refine ⟨by omega, fun m hm => ?_⟩
    have : m.1 ≤ (ms.getLast h).1 := by
      obtain ⟨j, hj, rfl⟩ := List.mem_iff_getElem.1 hm
      rw [List.getLast_eq_getElem]
      rcases Nat.lt_or_ge j (ms.length - 1) with q | q
      · have := List.pairwise_iff_getElem.1 hp j (ms.length - 1) (by simpa using hj) (by simp; omega) q
        simp at this
        omega
      · have e : ms.length - 1 = j := by omega
        simp [e]
    omega
/-- the days of an event, as they are collected -/
theorem evs_sorted {xs sk : List Int} {ms : List (Int × Int)} {a b : Int} (hx : xs.Pairwise (· < ·)) (hx0 : ∀ x ∈ xs, 0 ≤ x ∧ x ≤ 73048) (hp : (ms.map Prod.fst).Pairwise (· < ·)) (hm : ∀ m ∈ ms, 0 ≤ m.2 ∧ m.2 ≤ 73048) :
    Go.Lib.compact ((spn a b (gvn xs sk ms (lastOf ms b))).mergeSort fun x y => decide (x ≤ y)) = evs xs sk ms a b := by
  refine compact_sort _ _ (evs_rise ..) (fun d => ?_)
  unfold spn
  rw [List.mem_filter, mem_gvn hx, mem_evs, decide_eq_true_iff]
  obtain ⟨l1, l2⟩ := le_lastOf b hp
  constructor
  · rintro ⟨⟨x, h1, h2, h3, h4⟩, h5, h6⟩
    have : 0 ≤ d ∧ d ≤ 73048 := by
      rcases mvd_cases ms x with ⟨q, _⟩ | q
      · have := hx0 x h1; rw [← h4, q]; exact this
      · have := hm _ q; rw [← h4]; exact this
    exact ⟨this.1, this.2, h5, h6, x, h1, h3, h4⟩
  · rintro ⟨_, _, h5, h6, x, h1, h3, h4⟩
    refine ⟨⟨x, h1, ?_, h3, h4⟩, h5, h6⟩
    rcases mvd_cases ms x with ⟨q, _⟩ | q
    · omega
    · exact l2 _ q
theorem spn_nil (a b : Int) : spn a b [] = [] := rfl
theorem gvn_len {xs sk : List Int} {ms : List (Int × Int)} {l : Int} : (gvn xs sk ms l).length ≤ xs.length := by
  unfold gvn
  rw [List.length_map]
  exact Nat.le_trans (List.length_filter_le _ _) (List.takeWhile_sublist _).length_le
theorem spn_len {a b : Int} {l : List Int} : (spn a b l).length ≤ l.length := List.length_filter_le _ _
end Go.Proofs.YtnpecjccajebiaaGreatDoor.Cal
