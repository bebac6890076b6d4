/- Package event's Covers: is a day within an event? -/
import Derived.Test.YtnpecjccajebiaaGreatDoorYaAP
import Derived.Test.YtnpecjccajebiaaGreatDoorYaAO
import Derived.Stop.Asserts
import Derived.BigQuiet
import Derived.Deep.DeepCutAuto
import Derived.Test.YtnpecjccajebiaaGreatDoorYaAK
namespace Go.Proofs.YtnpecjccajebiaaGreatDoor
open Go Go.RowKit Cal
attribute [local go_sem] Oper.semAt_some

/-- numbers that rise from a to b: at most so many -/
theorem rise_len : ∀ {l : List Int} {a b : Int}, l.Pairwise (· < ·) → (∀ x ∈ l, a ≤ x ∧ x ≤ b) → (l.length : Int) ≤ max 0 (b - a + 1)
  | [], _, _, _, _ => by simp; omega
  | x :: r, a, b, hp, hb => by
    rw [List.pairwise_cons] at hp
    have hx := hb x (List.mem_cons_self ..)
    have ih := rise_len (l := r) (a := x + 1) (b := b) hp.2 (fun y hy => ⟨by have := hp.1 y hy; omega, (hb y (List.mem_cons_of_mem _ hy)).2⟩)
    rw [List.length_cons]
    omega
theorem eds_len (E : EV) (a b : Int) : ((eds E a b).length : Int) ≤ max 0 (b - a + 1) :=
  rise_len (evs_rise ..) (fun x hx => by have := mem_evs.1 hx; exact ⟨this.2.2.1, this.2.2.2.1⟩)
/-- is a day covered? -/
def covers (E : EV) (d : Int) : Prop := (0 ≤ d ∧ d ≤ 73048) ∧ EW E ∧ eds E (d - E.lg + 1) d ≠ []

set_option maxHeartbeats 1000000 in
theorem covers_any (E : EV) (sl skv mvv : Value) (d : Int) (s : Nat → Addr) (w : World) (g : GlobK s w) (hd : Days w sl E.ds) (hs : Ints w skv E.sk) (hm : Movs w mvv E.mv) (h30 : E.id.size ≤ 60) (h60 : E.ti.size ≤ 60) (b : Bool) (hb : b = true ↔ covers E d) :
    Calls Tryz.prog 18 #[ev E sl skv mvv, .int .i64 d] w fun r w' => r = .returned (.bool b) ∧ Below w.heap.size w w' := by
  have HB : Hid (b = true ↔ (0 ≤ d ∧ d ≤ 73048) ∧ EW E ∧ eds E (d - E.lg + 1) d ≠ []) := hb
  clear hb
  have hA := below_alloc w (.cells #[.string E.id, .string E.ti, .int .i64 E.st, .int .i64 E.lg, .string E.f, .int .i64 E.e, sl, .int .i64 E.c, .int .i64 E.u, skv, mvv] 44)
  have hB := EB.new w E sl skv mvv
  have ID : Hid (∀ W, Calls Tryz.prog 46 #[.int .i64 d] W fun r w' => r = .returned (.bool (decide (0 ≤ d ∧ d ≤ 73048))) ∧ w' = W) := fun W => eisDay_any d W _ (by simp)
  obtain ⟨k, hk⟩ := evK_ex E
  have CK : Hid (∀ W, Below w.heap.size w W → Calls Tryz.prog 42 #[ev E sl skv mvv] W fun r w' => r = .returned (errV s k) ∧ Below W.heap.size W w') := fun W h => evCheck_k E sl skv mvv k s W (g.step h) (hd.step h) (hs.step h) (hm.step h) h30 h60 hk
  have DY : Hid (EW E → ∀ W, Below w.heap.size w W → Calls Tryz.prog 47 #[ev E sl skv mvv, .int .i64 (d - E.lg + 1), .int .i64 d] W fun r w' => Below W.heap.size W w' ∧
      (((eds E (d - E.lg + 1) d).length ≤ 1000 ∧ ∃ v, r = .returned (.tuple #[v, .nilIface]) ∧ Ow W.heap.size w' v (eds E (d - E.lg + 1) d)) ∨ (1000 < (eds E (d - E.lg + 1) d).length ∧ r = .returned (.tuple #[.slice none 0 0, .iface 288 (.pointer (some (s 6)))])))) := fun hw W h => edays_ok E sl skv mvv _ _ s W (g.step h) (hd.step h) (hs.step h) (hm.step h) h30 h60 hw
  have KW : Hid (k = 0 ↔ EW E) := evK_0 hk
  have HLN : Hid (EW E → (eds E (d - E.lg + 1) d).length ≤ 60) := fun hw => by
    have := eds_len E (d - E.lg + 1) d
    have := hw.bd.2
    omega
  have LB : Hid (EW E → 1 ≤ E.lg ∧ E.lg ≤ 60) := fun hw => hw.bd.2
  obtain ⟨ra, rc, rfl, _⟩ := hd
  obtain ⟨sa, sc, rfl, _⟩ := hs
  obtain ⟨ma, mc, rfl, _⟩ := hm
  have HA : Hid (_) := hA
  clear hA hk g
  generalize hR : eds E (d - E.lg + 1) d = R at HB DY HLN
  clear hR
  generalize EW E = P at HB DY KW HLN LB
  obtain ⟨idn, ti, st, lg, f, e, ds, c, u, sk, mv⟩ := E
  unfold ev EB at *
  dsimp only at *
  generalize hw0 : w.alloc (.cells #[.string idn, .string ti, .int .i64 st, .int .i64 lg, .string f, .int .i64 e, .slice ra ds.length rc, .int .i64 c, .int .i64 u, .slice sa sk.length sc, .slice ma mv.length mc] 44) = w0 at HA hB
  obtain ⟨x0, x1, x2, x3, x4, x5, x6, x7, x8, x9, x10⟩ := blk11 hB
  have BX : Hid (∀ W, Below w0.heap.size w0 W → _) := fun W h => blk11 ((h.block _ (Array.getElem?_eq_some_iff.1 hB).1).trans hB)
  clear hB
  by_cases hdd : 0 ≤ d ∧ d ≤ 73048
  case neg =>
    have hb : b = false := by
      cases b with
      | false => rfl
      | true => exact absurd (HB.out.1 rfl).1 hdd
    rw [decide_eq_false hdd] at ID
    subst hb
    clear HB DY HLN CK BX KW
    go_enter Tryz.func18, Tryz.ntmps18
    go_wp2_with (go_at_call 46; refine (ID.out _).mono ?_; rintro r w1 ⟨rfl, rfl⟩)
    go_ret
    exact ⟨rfl, HA.out⟩
  case pos =>
  rw [decide_eq_true hdd] at ID
  by_cases hP : P
  case neg =>
    have hb : b = false := by
      cases b with
      | false => rfl
      | true => exact absurd (HB.out.1 rfl).2.1 hP
    have hk0 : k ≠ 0 := fun q => hP (KW.out.1 q)
    obtain ⟨p, hp⟩ := errV_ne (s := s) hk0
    rw [hp] at CK
    subst hb
    clear HB DY HLN BX KW hk0 hp LB
    go_enter Tryz.func18, Tryz.ntmps18
    go_wp2_with (first
      | (go_at_call 46; refine (ID.out _).mono ?_; rintro r w1 ⟨rfl, rfl⟩)
      | (go_at_call 42; refine (CK.out _ HA.out).mono ?_; rintro r w1 ⟨rfl, hb1⟩))
    go_ret
    exact ⟨rfl, below_then HA.out hb1⟩
  case pos =>
    have hk0 : k = 0 := KW.out.2 hP
    rw [hk0, errV_0] at CK
    have HR : Hid (b = decide (0 < R.length)) := by
      show _ = _
      rw [Bool.eq_iff_iff, HB.out, decide_eq_true_iff]
      constructor
      · intro q; exact List.length_pos_iff.2 q.2.2
      · intro q; exact ⟨hdd, hP, List.length_pos_iff.1 q⟩
    have hl60 := HLN.out hP
    obtain ⟨hl1, hl2⟩ := LB.out hP
    have DY2 : Hid (∀ W, Below w.heap.size w W → Calls Tryz.prog 47 #[.agg #[.string idn, .string ti, .int .i64 st, .int .i64 lg, .string f, .int .i64 e, .slice ra ds.length rc, .int .i64 c, .int .i64 u, .slice sa sk.length sc, .slice ma mv.length mc], .int .i64 (d - lg + 1), .int .i64 d] W fun r w' => ∃ va vc, r = .returned (.tuple #[.slice va R.length vc, .nilIface]) ∧ Below W.heap.size W w') := fun W h => by
      refine (DY.out hP W h).mono ?_
      rintro r w' ⟨hbw, (⟨_, v, rfl, ho⟩ | ⟨q, _⟩)⟩
      · obtain ⟨va, vc, rfl⟩ := ow_form ho
        exact ⟨va, vc, rfl, hbw⟩
      · omega
    obtain ⟨hd1, hd2⟩ := hdd
    clear HB DY HLN KW hk0 LB hP
    go_enter Tryz.func18, Tryz.ntmps18
    go_wp2_with (first
      | (go_at_call 46; refine (ID.out _).mono ?_; rintro r w1 ⟨rfl, rfl⟩)
      | (go_at_call 42; refine (CK.out _ HA.out).mono ?_; rintro r w1 ⟨rfl, hb1⟩; obtain ⟨y0, y1, y2, y3, y4, y5, y6, y7, y8, y9, y10⟩ := BX.out _ hb1)
      | (go_at_call 47; refine (DY2.out _ (below_then HA.out hb1)).mono ?_; rintro r w2 ⟨va, vc, rfl, hb2⟩))
    all_goals
      go_ret
      refine ⟨ret_bool ?_, below_then HA.out (below_then hb1 hb2)⟩
      rw [HR.out]
end Go.Proofs.YtnpecjccajebiaaGreatDoor

/- Package book's On. -/
namespace Go.Proofs.YtnpecjccajebiaaGreatDoor
open Go Go.RowKit Go.Maps Cal
attribute [local go_sem] Oper.semAt_some

theorem look1_eq {bb n : Nat} {mo : Option Nat} {D : DataW Value} {W : World} (h : Bok W bb mo n D) {id : ByteArray} (hid : id.size ≤ 1000) {u : Value} (hat : D.atKey (key id) (.held zV) = .held u) :
    (Instr.lookup 70 (.map mo) (.string id) false).run Tryz.prog W = .ok u W := by
  cases mo with
  | none =>
    have hD : D = .map [] := h.2
    subst hD
    have hu : zV = u := by
      have : (DataW.held zV : DataW Value) = .held u := hat
      cases this; rfl
    rw [← hu]
    exact Maps.look_nil false law Tryz.underlying70 (zeroE W) (key_of hid)
  | some mb =>
    obtain ⟨es, clock, hb, F, _, rfl⟩ := h.2.2
    rcases Maps.fit_look false law Tryz.underlying70 (zeroE W) hb F (key_of hid) with ⟨hrun, _, hq⟩ | ⟨e0, y, _, _, hrun, hRv, hq, _⟩
    · rw [hq] at hat
      have hu : zV = u := by cases hat; rfl
      rw [← hu]
      exact hrun
    · rw [hq] at hat
      have h1 := hld_inv hRv
      rw [hat] at h1
      have hu : e0.val = u := by cases h1; rfl
      rw [← hu]
      exact hrun

set_option maxHeartbeats 2000000 in
set_option maxRecDepth 100000 in
theorem on1_any (bb n be bd : Nat) (mo : Option Nat) (D : DataW Value) (id : ByteArray) (E : EV) (sl skv mvv : Value) (d : Int) (b : Bool) (s : Nat → Addr) (w : World) (g : GlobK s w) (h : Bok w bb mo n D) (hid : id.size ≤ 1000)
    (hat : D.atKey (key id) (.held zV) = .held (ev E sl skv mvv)) (hL : Ls w E sl skv mvv) (h30 : E.id.size ≤ 60) (h60 : E.ti.size ≤ 60) (hb : b = true ↔ covers E d) (ce : w.cell? ⟨be, 0, none⟩ = some (.map mo)) (cd : w.cell? ⟨bd, 0, none⟩ = some (.int .i64 d)) :
    Calls Tryz.prog 45 #[.string id, .pointer (some ⟨be, 0, none⟩), .pointer (some ⟨bd, 0, none⟩)] w fun r w' => r = .returned (.bool (!b)) ∧ Below w.heap.size w w' := by
  have CV : Hid (Calls Tryz.prog 18 #[ev E sl skv mvv, .int .i64 d] w fun r w' => r = .returned (.bool b) ∧ Below w.heap.size w w') := covers_any E sl skv mvv d s w g hL.d hL.s hL.m h30 h60 b hb
  obtain ⟨ra, rc, rfl, _⟩ := hL.d
  obtain ⟨sa, sc, rfl, _⟩ := hL.s
  obtain ⟨ma, mc, rfl, _⟩ := hL.m
  unfold ev at CV hat
  have LK := look1_eq h hid hat
  clear hb hL h g hat
  go_enter Tryz.func45, Tryz.ntmps45
  go_wp2_with (go_at_call 18; refine Calls.mono CV.out ?_; rintro r w5 ⟨rfl, hb5⟩)
  go_ret
  exact ⟨rfl, hb5⟩

/-- a list of texts that a call gave -/
def RowV (base : Nat) (W : World) (v : Value) (l : List ByteArray) : Prop :=
  (v = .slice none 0 0 ∧ l = []) ∨ ∃ B cap, v = .slice (some ⟨B, 0, none⟩) l.length cap ∧ base ≤ B ∧ RowS W B cap l
theorem rowV_own {base : Nat} {W : World} {v : Value} {n : Nat} {xs : List (List UInt8)} (h : W.ownsRow base 9 1 v n (xs.map encStr)) : RowV base W v (xs.map bs) := by
  have hn : xs.length = n := by have := h.1; simpa using this
  rcases h.2 with ⟨rfl, h0⟩ | ⟨B, cap, cur, rfl, hb, hg, hcap, hmax, hsz, htake⟩
  · refine .inl ⟨rfl, ?_⟩
    rw [List.length_eq_zero_iff.1 (hn.trans h0)]; rfl
  · refine .inr ⟨B, cap, by rw [List.length_map, hn], hb, ⟨cur, hg, by omega, fun j hj => ?_⟩, by rw [List.length_map]; omega⟩
    rw [List.length_map] at hj
    have e := congrArg (fun z : List Value => z[j]?) htake
    simp only [List.getElem?_take, List.getElem?_map, Array.getElem?_toList] at e
    rw [if_pos (by omega), List.getElem?_eq_getElem hj] at e
    rw [e, List.getElem_map]; rfl
end Go.Proofs.YtnpecjccajebiaaGreatDoor

/- Package book's On. -/
namespace Go.Proofs.YtnpecjccajebiaaGreatDoor
open Go Go.RowKit Go.Maps Go.Sort Cal
attribute [local go_sem] Oper.semAt_some

/-- what a book holds: an event for each of its IDs; c: does it cover day d? -/
def Holds60 (w : World) (D : DataW Value) (d : Int) (c : ByteArray → Bool) : Prop :=
  ∀ k ∈ strKeys D, ∃ E sl skv mvv, D.atKey (key (bs k)) (.held zV) = .held (ev E sl skv mvv) ∧ Ls w E sl skv mvv ∧ E.id.size ≤ 60 ∧ E.ti.size ≤ 60 ∧ (bs k).size ≤ 1000 ∧ (c (bs k) = true ↔ covers E d)

theorem grown_to {w A C : World} {B : Nat} (h : Below w.heap.size w A) (k : A.grownBy C (some B)) (hB : w.heap.size ≤ B) : Below w.heap.size w C :=
  ⟨k.os.trans h.os, k.tape.trans h.tape, k.output.trans h.output, Nat.le_trans h.size k.size, fun i hi => (k.block i (Nat.lt_of_lt_of_le hi h.size) (fun q => by have := Option.some.inj q; omega)).trans (h.block i hi)⟩

theorem cell_of {W : World} {n : Nat} {v : Value} {t : TypeId} (h : W.heap[n]? = some (.cells #[v] t (0, 0))) : W.cell? ⟨n, 0, none⟩ = some v := by simp [World.cell?, h]

theorem deleteV (g : Nat) (lb : Array Value) (p : ByteArray → Bool) (l : List ByteArray) (base : Nat) (v : Value) (w : World) (hR : RowV base w v l) (h8 : l.length ≤ 80000) (eg : ∀ args W, (callFunc g args).run Tryz.prog W = .ok (.enter g args) W)
    (hp : ∀ x ∈ l, ∀ (B : Nat) (W : World), base ≤ B → w.grownBy W (some B) → Calls Tryz.prog g (#[.string x] ++ lb) W fun r w' => r = .returned (.bool (p x)) ∧ Below W.heap.size W w') :
    Calls Tryz.prog 44 #[v, .func (.func g) #[] lb] w fun r w' => ∃ v', r = .returned v' ∧ RowV base w' v' (l.filter fun x => !p x) ∧ ∃ B, base ≤ B ∧ w.grownBy w' (some B) := by
  rcases hR with ⟨rfl, rfl⟩ | ⟨B, cap, rfl, hB, hrow⟩
  · refine Calls.mono (deleteFuncS_nil g lb w) ?_
    rintro r w' ⟨rfl, rfl⟩
    exact ⟨_, rfl, .inl ⟨rfl, rfl⟩, base, Nat.le_refl _, grown_below (Below.refl _ _) _⟩
  · refine Calls.mono (deleteFuncS_any g lb p l B cap w hrow h8 eg (fun x hx W hW => hp x hx B W hB hW)) ?_
    rintro r w' ⟨rfl, h1, h2⟩
    exact ⟨_, rfl, .inr ⟨B, cap, rfl, hB, h1⟩, B, hB, h2⟩
theorem RowV.base {a b : Nat} {W : World} {v : Value} {l : List ByteArray} (h : RowV b W v l) (hab : a ≤ b) : RowV a W v l := by
  rcases h with h | ⟨B, cap, h1, h2, h3⟩
  · exact .inl h
  · exact .inr ⟨B, cap, h1, Nat.le_trans hab h2, h3⟩

set_option maxHeartbeats 2000000 in
set_option maxRecDepth 100000 in
theorem on_any (bb n : Nat) (mo : Option Nat) (D : DataW Value) (d : Int) (c : ByteArray → Bool) (s : Nat → Addr) (w : World) (g : GlobK s w) (h : Bok w bb mo n D) (hn : n ≤ 80000) (hA : Holds60 w D d c) :
    Calls Tryz.prog 17 #[.pointer (some ⟨bb, 0, none⟩), .int .i64 d] w fun r w' => ∃ (v : Value) (ss : List (List UInt8)), r = .returned v ∧ ss.Perm (strKeys D) ∧ RowV w.heap.size w' v (((ss.mergeSort (fun x y => decide (x ≤ y))).map bs).filter c) ∧ Below w.heap.size w w' := by
  have hszD : Maps.size D ≤ 80000 := by
    cases mo with
    | none => have hD : D = .map [] := h.2; subst hD; simp [Maps.size]
    | some mb => have := h.2.2.size_le; omega
  have HSZ : Hid (Maps.size D ≤ 80000) := hszD
  have h1 := below_alloc w (.cells #[.int .i64 d] 3)
  have h2 := below_then h1 (below_alloc (w.alloc (.cells #[.int .i64 d] 3)) (.cells #[.map mo] 70))
  have AL : Hid (Calls _ _ _ _ _) := all_any bb mo n D _ (h.step h1)
  have ID : Hid (Calls _ _ _ _ _) := ids_any bb mo n D _ (h.step h2) (Nat.le_trans hn (by decide))
  have eg : ∀ args W, (callFunc 45 args).run Tryz.prog W = .ok (.enter 45 args) W := enters_of Tryz.func45 (by kernel_rfl) rfl
  have cd : ((w.alloc (.cells #[.int .i64 d] 3)).alloc (.cells #[.map mo] 70)).cell? ⟨w.heap.size, 0, none⟩ = some (.int .i64 d) := cell_alloc _ (cell_of (block_at (W := w) (.cells #[.int .i64 d] 3) rfl))
  have ce : ((w.alloc (.cells #[.int .i64 d] 3)).alloc (.cells #[.map mo] 70)).cell? ⟨w.heap.size + 1, 0, none⟩ = some (.map mo) := cell_of (block_at (W := w.alloc (.cells #[.int .i64 d] 3)) (.cells #[.map mo] 70) (World.size_alloc _ _))
  have hs2 : ((w.alloc (.cells #[.int .i64 d] 3)).alloc (.cells #[.map mo] 70)).heap.size = w.heap.size + 2 := by rw [World.size_alloc, World.size_alloc]
  have HD1 : Hid (_) := cd
  have HE1 : Hid (_) := ce
  have H2 : Hid (_) := h2
  have HS2 : Hid (_) := hs2
  have HB : Hid (Bok w bb mo n D) := h
  have HG : Hid (GlobK s w) := g
  have HA : Hid (Holds60 w D d c) := hA
  have hz1 : (w.alloc (.cells #[.int .i64 d] 3)).heap.size = w.heap.size + 1 := World.size_alloc _ _
  clear h1 h2 cd ce hs2 h g hA hszD
  have DL : Hid (∀ (v : Value) (ss : List (List UInt8)) (w3 : World), ss.Perm (strKeys D) → RowV ((w.alloc (.cells #[.int .i64 d] 3)).alloc (.cells #[.map mo] 70)).heap.size w3 v ((ss.mergeSort (fun x y => decide (x ≤ y))).map bs) → Below ((w.alloc (.cells #[.int .i64 d] 3)).alloc (.cells #[.map mo] 70)).heap.size ((w.alloc (.cells #[.int .i64 d] 3)).alloc (.cells #[.map mo] 70)) w3 →
      Calls Tryz.prog 44 #[v, .func (.func 45) #[] #[.pointer (some ⟨w.heap.size + 1, 0, none⟩), .pointer (some ⟨w.heap.size, 0, none⟩)]] w3 fun r w' => ∃ v', r = .returned v' ∧ RowV w.heap.size w' v' (((ss.mergeSort (fun x y => decide (x ≤ y))).map bs).filter c) ∧ Below w.heap.size w w') := by
    intro v ss w3 hpm hrv hb3
    rw [HS2.out] at hrv
    have hBw := below_then H2.out hb3
    have hlen : ((ss.mergeSort (fun x y => decide (x ≤ y))).map bs).length ≤ 80000 := by
      rw [List.length_map, List.length_mergeSort, hpm.length_eq, size_keys]
      have := HSZ.out
      omega
    refine Calls.mono (deleteV 45 _ (fun x => !c x) _ _ v w3 hrv hlen eg (fun x hx B W hB hW => ?_)) ?_
    · obtain ⟨k, hk, rfl⟩ := List.mem_map.1 hx
      have hk' : k ∈ strKeys D := hpm.subset (List.mem_mergeSort.1 hk)
      obtain ⟨E, sl, skv, mvv, q1, q2, q3, q4, q5, q6⟩ := HA.out k hk'
      have hBW : Below w.heap.size w W := grown_to hBw hW (by omega)
      exact on1_any bb n (w.heap.size + 1) w.heap.size mo D (bs k) E sl skv mvv d (c (bs k)) s W (HG.out.step hBW) (HB.out.step hBW) q5 q1 (q2.step hBW) q3 q4 q6 (grown_cell hW (cell_step HE1.out hb3) (by omega)) (grown_cell hW (cell_step HD1.out hb3) (by omega))
    · rintro r w' ⟨v', rfl, h1, B, hB, h2⟩
      simp only [Bool.not_not] at h1
      exact ⟨v', rfl, h1.base (by omega), grown_to hBw h2 (by omega)⟩
  go_enter Tryz.func17, Tryz.ntmps17
  go_wp2_with (first
    | (go_at_call 33; refine Calls.mono AL.out ?_; rintro r w' ⟨rfl, hq⟩; have hq := hq.symm; subst hq)
    | (go_at_call 12; refine Calls.mono ID.out ?_; rintro r w3 ⟨v, ss, rfl, hperm, hrow, hb3⟩; have HRV : Hid (RowV _ w3 v ((ss.mergeSort (fun x y => decide (x ≤ y))).map bs)) := rowV_own hrow; have HPM : Hid (ss.Perm (strKeys D)) := hperm; have DF : Hid (Calls _ _ _ _ _) := DL.out v ss w3 HPM.out HRV.out hb3; clear hrow hperm)
    | (go_at_call 44; refine Calls.mono DF.out ?_; rintro r w5 ⟨v5, rfl, hrow5, hb5⟩))
  go_ret
  exact ⟨v5, ss, rfl, HPM.out, hrow5, hb5⟩
end Go.Proofs.YtnpecjccajebiaaGreatDoor

/- The document's IsInTexts and SameTexts. -/
namespace Go.Proofs.YtnpecjccajebiaaGreatDoor
open Go Go.RowKit Go.Maps Go.Sort Cal
attribute [local go_sem] Oper.semAt_some

/-- a list of texts, to be read -/
def Txs (W : World) (v : Value) (l : List ByteArray) : Prop :=
  ∃ (a : Option Addr) (c : Nat), v = .slice a l.length c ∧ l.length ≤ 80000 ∧ l.length ≤ c ∧
    ∀ (j : Nat) (h : j < l.length), ∃ b : Nat, a = some ⟨b, 0, none⟩ ∧ b < W.heap.size ∧ W.cell? ⟨b, j, none⟩ = some (.string l[j])
theorem Txs.step {w w' : World} {sl : Value} {xs : List ByteArray} (h : Txs w sl xs) (hb : Below w.heap.size w w') : Txs w' sl xs := by
  obtain ⟨a, c, h1, h2, h3, h4⟩ := h
  refine ⟨a, c, h1, h2, h3, fun j hj => ?_⟩
  obtain ⟨b, e, hl, hc⟩ := h4 j hj
  exact ⟨b, e, Nat.lt_of_lt_of_le hl hb.size, (hb.cell (p := ⟨b, j, none⟩) hl).trans hc⟩
theorem RowV.txs {base : Nat} {W : World} {v : Value} {l : List ByteArray} (h : RowV base W v l) (h8 : l.length ≤ 80000) : Txs W v l := by
  rcases h with ⟨rfl, rfl⟩ | ⟨B, cap, rfl, _, h3⟩
  · exact ⟨none, 0, rfl, by simp, by simp, fun j h => absurd h (by simp)⟩
  · exact ⟨_, cap, rfl, h8, h3.le, fun j hj => ⟨B, rfl, h3.lt, h3.cell j hj⟩⟩

theorem txt_ne {x y : ByteArray} (h : y ≠ x) : (y.toList == x.toList) = false := by
  rw [beq_eq_false_iff_ne, ByteArray.toList_eq, ByteArray.toList_eq]
  intro e
  apply h
  cases x; cases y
  simpa [Array.toList_inj] using e

set_option maxHeartbeats 1000000 in
theorem isInTexts_any (x : ByteArray) (l : List ByteArray) (v : Value) (w : World) (hd : Txs w v l) (bt : Bool) (hbt : bt = true ↔ x ∈ l) :
    Calls Tryz.prog 19 #[.string x, v] w fun r w' => r = .returned (.bool bt) ∧ Below w.heap.size w w' := by
  obtain ⟨a, cap, rfl, h20, hcap, hc⟩ := hd
  have HC : Hid (_) := hc
  have HT : Hid (bt = true ↔ x ∈ l) := hbt
  clear hc hbt
  go_enter Tryz.func19, Tryz.ntmps19
  go_wp2
  go_loopw [5] (fun i wr => ∃ m : Nat, m ≤ l.length ∧ i = .int .i64 m ∧ Hid (Below w.heap.size w wr) ∧ Hid (∀ (j : Nat) (h : j < l.length), j < m → l[j] ≠ x)) (fun i _ => l.length - (intOf i).toNat)
  case atStart => exact ⟨0, Nat.zero_le _, rfl, Below.refl _ _, fun j _ h => absurd h (Nat.not_lt_zero _)⟩
  case round =>
    obtain ⟨m, hm, rfl, hB, HA⟩ := hrel
    by_cases hlt : m < l.length
    · obtain ⟨blk, rfl, hblk, hcell⟩ := HC.out m hlt
      have hcell2 := cell_step hcell hB.out
      by_cases hx : l[m] = x
      · have HB' : Hid (bt = true) := HT.out.2 (hx ▸ List.getElem_mem hlt)
        rw [hx] at hcell2
        clear HA HC hcell hx
        go_wp2
        go_ret
        exact ⟨by rw [HB'.out]; rfl, hB.out⟩
      · have HN : Hid (∀ (j : Nat) (h : j < l.length), j < m + 1 → l[j] ≠ x) := fun j hj hjk => by
          by_cases ej : j = m
          · subst ej; exact hx
          · exact HA.out j hj (by omega)
        clear HA HC hcell
        generalize l[m] = y at hcell2 hx
        have hq := txt_ne hx
        clear hx
        go_wp2
        go_roundw
        case rel => exact ⟨m + 1, by omega, by go_num, hB.out, HN.out⟩
        case measure => simp [intOf]; omega
    · have HB' : Hid (bt = false) := by
        show bt = false
        cases bt with
        | false => rfl
        | true =>
          obtain ⟨j, hj, e⟩ := List.mem_iff_getElem.1 (HT.out.1 rfl)
          exact absurd e (HA.out j hj (by omega))
      clear HA HC HT
      go_wp2
      go_ret
      exact ⟨by rw [HB'.out]; rfl, hB.out⟩

theorem sameTexts_0 (a b : Option Addr) (ca cb : Nat) (w : World) :
    Calls Tryz.prog 29 #[.slice a 0 ca, .slice b 0 cb] w fun e w' => e = .returned (.bool true) ∧ Below w.heap.size w w' := by
  go_enter Tryz.func29, Tryz.ntmps29
  go_wp2
  go_loop [5] (fun i => i = .int .i64 0) (fun _ => 0)
  case atStart => rfl
  case round =>
    subst hrel
    go_wp2
    go_ret
    exact ⟨rfl, Below.refl _ _⟩
theorem sameTexts_1 (ba bb n ca cb : Nat) (z : Nat → ByteArray) (w : World) (hn : n ≤ 100000) (ha : ∀ i, i < n → w.cell? ⟨ba, i, none⟩ = some (.string (z i))) (hb : ∀ i, i < n → w.cell? ⟨bb, i, none⟩ = some (.string (z i))) :
    Calls Tryz.prog 29 #[.slice (some ⟨ba, 0, none⟩) n ca, .slice (some ⟨bb, 0, none⟩) n cb] w fun e w' => e = .returned (.bool true) ∧ Below w.heap.size w w' := by
  have HA : Hid (∀ i, i < n → w.cell? ⟨ba, i, none⟩ = some (.string (z i))) := ha
  have HB : Hid (∀ i, i < n → w.cell? ⟨bb, i, none⟩ = some (.string (z i))) := hb
  clear ha hb
  go_enter Tryz.func29, Tryz.ntmps29
  go_wp2
  go_loopw [5] (fun i wr => ∃ k q : Nat, k ≤ n ∧ i = .int .i64 k ∧ wr = w.drewN q) (fun i _ => n - (intOf i).toNat)
  case atStart => exact ⟨0, 0, Nat.zero_le _, rfl, rfl⟩
  case round =>
    obtain ⟨k, q, hk, rfl, rfl⟩ := hrel
    by_cases hlt : k < n
    · have h1 := HA.out k hlt
      have h2 := HB.out k hlt
      go_wp2
      go_quiet (fail)
      go_wp2
      go_roundw
      case rel => exact ⟨k + 1, _, by omega, by go_num, rfl⟩
      case measure => simp [intOf]; omega
    · go_wp2
      go_ret
      exact ⟨rfl, drewN_below _ _⟩
theorem sameTexts_eq {W : World} {v1 v2 : Value} {l : List ByteArray} (h1 : Txs W v1 l) (h2 : Txs W v2 l) : Calls Tryz.prog 29 #[v1, v2] W fun e w' => e = .returned (.bool true) ∧ Below W.heap.size W w' := by
  obtain ⟨a1, c1, rfl, h8, _, hc1⟩ := h1
  obtain ⟨a2, c2, rfl, _, _, hc2⟩ := h2
  by_cases h0 : l.length = 0
  · rw [h0]; exact sameTexts_0 a1 a2 c1 c2 W
  · obtain ⟨b1, rfl, _⟩ := hc1 0 (by omega)
    obtain ⟨b2, rfl, _⟩ := hc2 0 (by omega)
    refine sameTexts_1 b1 b2 l.length c1 c2 (fun i => l.getD i ⟨#[]⟩) W (by omega) (fun i hi => ?_) (fun i hi => ?_)
    · obtain ⟨b, e, _, hc⟩ := hc1 i hi
      cases e
      rw [hc, List.getD_eq_getElem?_getD, List.getElem?_eq_getElem hi]; rfl
    · obtain ⟨b, e, _, hc⟩ := hc2 i hi
      cases e
      rw [hc, List.getD_eq_getElem?_getD, List.getElem?_eq_getElem hi]; rfl

set_option maxHeartbeats 1000000 in
/-- the law's small: an event that is once -/
theorem small_any (x : ByteArray) (d : Int) (w : World) : Calls Tryz.prog 31 #[.string x, .int .i64 d] w fun r w' => r = .returned (ev ⟨x, ⟨#[]⟩, d, 1, ⟨#[111, 110, 99, 101]⟩, 1, [], 0, -1, [], []⟩ (.slice none 0 0) (.slice none 0 0) (.slice none 0 0)) ∧ Below w.heap.size w w' := by
  unfold ev
  go_enter Tryz.func31, Tryz.ntmps31
  go_wp2
  have n10 := block_at (W := w) (.cells #[.string x, .string ⟨#[]⟩, .int .i64 d, .int .i64 1, .string ⟨#[111, 110, 99, 101]⟩, .int .i64 1, .slice none 0 0, .int .i64 0, .int .i64 (-1), .slice none 0 0, .slice none 0 0] 44) rfl
  obtain ⟨c0, c1, c2, c3, c4, c5, c6, c7, c8, c9, c10⟩ := blk11 n10
  refine bodyPost_ret (v := .agg #[.string x, .string ⟨#[]⟩, .int .i64 d, .int .i64 1, .string ⟨#[111, 110, 99, 101]⟩, .int .i64 1, .slice none 0 0, .int .i64 0, .int .i64 (-1), .slice none 0 0, .slice none 0 0]) (by simp [results, Tryz.f31, go_sem, c0, c1, c2, c3, c4, c5, c6, c7, c8, c9, c10]) rfl ⟨rfl, below_alloc _ _⟩
end Go.Proofs.YtnpecjccajebiaaGreatDoor

/- The law's booked: the closed calendar. -/
namespace Go.Proofs.YtnpecjccajebiaaGreatDoor
open Go Go.RowKit Go.Maps Go.Sort Cal
attribute [local go_sem] Oper.semAt_some

def E7 : EV := ⟨⟨#[97]⟩, ⟨#[]⟩, 7, 1, ⟨#[111, 110, 99, 101]⟩, 1, [], 0, -1, [], []⟩
theorem E7_well : EW E7 := by
  refine ⟨⟨fun j h => ?_, by decide, by decide⟩, ⟨fun j h => ?_, by decide⟩, ⟨by decide, by decide⟩, E0_rule, by decide⟩
  · have h' : j < 1 := h
    match j, h' with
    | 0, _ => show okc 97; left; decide
  · exact absurd h (Nat.not_lt_zero _)
theorem E7_days (x : Int) : x ∈ dys E7 ↔ x = 7 := by
  unfold dys
  show x ∈ cut 0 (-1) (cds (⟨#[111, 110, 99, 101]⟩ : ByteArray).toList 7 1 []) ↔ _
  rw [cut_none, ByteArray.toList_eq]
  unfold cds
  rw [mem_From]
  have : cnd [111, 110, 99, 101] 7 1 [] = fun d => decide (d = 7) := by
    unfold cnd
    rw [if_neg (by decide), if_neg (by decide), if_neg (by decide), if_neg (by decide)]
  show _ ∧ _ ∧ cnd [111, 110, 99, 101] 7 1 [] x = true ↔ _
  rw [this, decide_eq_true_iff]
  omega
theorem E7_on : covers E7 7 := by
  refine ⟨by decide, E7_well, ?_⟩
  have : (7 : Int) ∈ eds E7 (7 - E7.lg + 1) 7 := mem_evs.2 ⟨by decide, by decide, by decide, by decide, 7, (E7_days 7).2 rfl, by simp [E7], rfl⟩
  exact List.ne_nil_of_mem this
theorem E7_off : ¬ covers E7 8 := by
  rintro ⟨_, _, h⟩
  obtain ⟨x, hx⟩ := List.exists_mem_of_ne_nil _ h
  obtain ⟨_, _, h1, h2, y, hy, _, e⟩ := mem_evs.1 hx
  have hy' := (E7_days y).1 hy
  have e' : y = x := e
  have h1' : (8 : Int) - 1 + 1 ≤ x := h1
  omega
def Z0 : EV := ⟨⟨#[]⟩, ⟨#[]⟩, 0, 0, ⟨#[]⟩, 0, [], 0, 0, [], []⟩
theorem E7_k : EvK E7 0 := by
  obtain ⟨k, hk⟩ := evK_ex E7
  have := (evK_0 hk).2 E7_well
  rwa [this] at hk
theorem kept_from {w W w' : World} {bb : Nat} {mo : Option Nat} (hb : Below w.heap.size w W) (h : Kept W w' bb mo) : Kept w w' bb mo :=
  ⟨h.os.trans hb.os, h.tape.trans hb.tape, h.output.trans hb.output, Nat.le_trans hb.size h.size, fun k hk h1 h2 => (h.block k (Nat.lt_of_lt_of_le hk hb.size) h1 h2).trans (hb.block k hk)⟩
theorem nilLs (w : World) : Ls w E7 (.slice none 0 0) (.slice none 0 0) (.slice none 0 0) := ⟨Days.nil _ _, Ints.nil _ _, Movs.nil _ _⟩
/-- what Put leaves of the closed event -/
def Put7 (w : World) (bb : Nat) (w' : World) : Prop :=
  ∃ mb, w.heap.size < mb ∧ ∃ sl' skv' mvv', Bok w' bb (some mb) 1 (DataW.put (.map []) (key ⟨#[97]⟩) (.held (ev E7 sl' skv' mvv'))) ∧ Off (fun k => k < w.heap.size ∨ k = mb) w' E7 sl' skv' mvv' ∧ Kept w w' bb none
theorem put7 (bb : Nat) (s : Nat → Addr) (w : World) (g : GlobK s w) (h : Bok w bb none 0 (.map [])) :
    Calls Tryz.prog 15 #[.pointer (some ⟨bb, 0, none⟩), ev E7 (.slice none 0 0) (.slice none 0 0) (.slice none 0 0)] w fun r w' => r = .returned .nilIface ∧ Put7 w bb w' := by
  refine Calls.mono (put_of bb 0 none (.map []) E7 Z0 (.slice none 0 0) (.slice none 0 0) (.slice none 0 0) none 0 0 none 0 0 none 0 0 0 s w g h (by decide) (by decide) (by decide) (nilLs w) E7_k rfl (Put7 w bb) (fun _ W hW => ?_)) ?_
  · refine Calls.mono (keep_none bb E7 _ _ _ 0 W (h.step hW) (by decide) (nilLs W) (by decide) (by decide)) ?_
    rintro r w' ⟨hr, mb, hm, sl', skv', mvv', h1, h2, h3⟩
    exact ⟨hr, mb, Nat.lt_of_le_of_lt hW.size hm, sl', skv', mvv', h1, h2.mono (fun k q => q.imp (fun q => Nat.lt_of_lt_of_le q hW.size) id), kept_from hW h3⟩
  · rintro r w' (⟨h1, _⟩ | ⟨_, ⟨_, h2⟩, _⟩ | ⟨_, _, rfl, hr⟩)
    · exact absurd rfl h1
    · exact absurd h2 (by simp [Maps.size])
    · exact ⟨rfl, hr⟩
end Go.Proofs.YtnpecjccajebiaaGreatDoor
