/- slices.IndexFunc and DeleteFunc at numbers, with a function that leaves what lay (written by wip/gen/mkMgC.py out of BoS, BoT). -/
import Derived.Test.YtekminpoiokgfaaGreatDoorYaJ
import Derived.Test.YtekminpoiokgfaaGreatDoorMgAW
import Derived.Lib.QuietBelow
import Derived.Maps.OwnSet
import Derived.Maps.OwnOps
namespace Go.Proofs.YtekminpoiokgfaaGreatDoor
open Go Go.RowKit Go.Maps Cal
attribute [local go_sem] Oper.semAt_some

/-- block B is a row of texts -/
structure RowN (W : World) (B cap : Nat) (l : List Int) : Prop where
  ex : ∃ cur, W.heap[B]? = some (.cells cur 3 (0, 0)) ∧ cur.size = cap ∧ ∀ (j : Nat) (h : j < l.length), cur[j]? = some (.int .i64 l[j])
  le : l.length ≤ cap
theorem RowN.lt {W : World} {B cap : Nat} {l : List Int} (h : RowN W B cap l) : B < W.heap.size := by
  obtain ⟨cur, h1, _⟩ := h.ex
  exact (Array.getElem?_eq_some_iff.1 h1).1
theorem RowN.cell {W : World} {B cap : Nat} {l : List Int} (h : RowN W B cap l) (j : Nat) (hj : j < l.length) : W.cell? ⟨B, j, none⟩ = some (.int .i64 l[j]) := by
  obtain ⟨cur, h1, _, h3⟩ := h.ex
  simp [World.cell?, h1, h3 j hj]
theorem RowN.cold {W : World} {B cap : Nat} {l : List Int} (h : RowN W B cap l) (j : Nat) : W.frozen? ⟨B, j, none⟩ = false := by
  obtain ⟨cur, h1, _⟩ := h.ex
  exact blk11_frozen h1 j
theorem RowN.step {W W' : World} {B cap : Nat} {l : List Int} (h : RowN W B cap l) (hb : Below W.heap.size W W') : RowN W' B cap l := by
  have hlt := h.lt
  obtain ⟨⟨cur, h1, h2, h3⟩, h4⟩ := h
  exact ⟨⟨cur, (hb.block _ hlt).trans h1, h2, h3⟩, h4⟩
theorem RowN.set {W : World} {B cap : Nat} {l : List Int} (h : RowN W B cap l) (i : Nat) (x : Int) : RowN (W.setCell ⟨B, i, none⟩ (.int .i64 x)) B cap (l.set i x) := by
  obtain ⟨⟨cur, h1, h2, h3⟩, h4⟩ := h
  refine ⟨⟨_, set_block (i := i) _ h1, by simp [h2], fun j hj => ?_⟩, by simpa using h4⟩
  have hj' : j < l.length := by simpa using hj
  rw [Array.getElem?_setIfInBounds, List.getElem_set]
  by_cases e : i = j
  · subst e
    have : i < cur.size := by omega
    simp [this]
  · simp [e, h3 j hj']
theorem RowN.far {W : World} {B cap : Nat} {l : List Int} (h : RowN W B cap l) (i : Nat) (hi : l.length ≤ i) (v : Value) : RowN (W.setCell ⟨B, i, none⟩ v) B cap l := by
  obtain ⟨⟨cur, h1, h2, h3⟩, h4⟩ := h
  refine ⟨⟨_, set_block (i := i) _ h1, by simp [h2], fun j hj => ?_⟩, h4⟩
  rw [Array.getElem?_setIfInBounds]
  have : i ≠ j := by omega
  simp [this, h3 j hj]
theorem RowN.fars {B cap : Nat} {l : List Int} : ∀ (vs : List Value) (i : Nat) {W : World}, RowN W B cap l → l.length ≤ i → RowN (W.setCells B i vs) B cap l
  | [], _, _, h, _ => h
  | v :: r, i, _, h, hi => RowN.fars r (i + 1) (h.far i hi v) (by omega)
theorem RowN.take {W : World} {B cap : Nat} {l : List Int} (h : RowN W B cap l) (i : Nat) : RowN W B cap (l.take i) := by
  obtain ⟨⟨cur, h1, h2, h3⟩, h4⟩ := h
  refine ⟨⟨cur, h1, h2, fun j hj => ?_⟩, by rw [List.length_take]; omega⟩
  have hj' : j < l.length := by rw [List.length_take] at hj; omega
  rw [h3 j hj', List.getElem_take]

set_option maxHeartbeats 1000000 in
theorem indexFuncN_any (g : Nat) (lb : Array Value) (p : Int → Bool) (l : List Int) (B cap : Nat) (w : World) (hR : RowN w B cap l) (h8 : l.length ≤ 80000) (eg : ∀ args W, (callFunc g args).run Tryz.prog W = .ok (.enter g args) W)
    (hp : ∀ x ∈ l, ∀ (W : World), Below w.heap.size w W → Calls Tryz.prog g (#[.int .i64 x] ++ lb) W fun r w' => r = .returned (.bool (p x)) ∧ Below W.heap.size W w') :
    Calls Tryz.prog 116 #[.slice (some ⟨B, 0, none⟩) l.length cap, .func (.func g) #[] lb] w fun r w' => Below w.heap.size w w' ∧ ((r = .returned (.int .i64 (-1)) ∧ ∀ x ∈ l, p x = false) ∨ ∃ (k : Nat) (h : k < l.length), r = .returned (.int .i64 k) ∧ p l[k] = true ∧ ∀ (j : Nat) (hj : j < l.length), j < k → p l[j] = false) := by
  have HC : Hid (_) := hR
  have HP : Hid (_) := hp
  have hcap := hR.le
  clear hR hp
  go_enter Tryz.func116, Tryz.ntmps116
  go_wp2
  go_loopw [5, 8] (fun _ i wr => ∃ m : Nat, m ≤ l.length ∧ i = .int .i64 m ∧ Hid (Below w.heap.size w wr) ∧ Hid (∀ (j : Nat) (h : j < l.length), j < m → p l[j] = false)) (fun _ i _ => l.length - (intOf i).toNat)
  case atStart => exact ⟨0, Nat.zero_le _, rfl, Below.refl _ _, fun j _ h => absurd h (Nat.not_lt_zero _)⟩
  case round =>
    obtain ⟨m, hm, rfl, hB, HA⟩ := hrel
    by_cases hlt : m < l.length
    · have hcell2 := (HC.out.step hB.out).cell m hlt
      have hx := HP.out l[m] (List.getElem_mem hlt) wr hB.out
      have HN : Hid (p l[m] = false → ∀ (j : Nat) (h : j < l.length), j < m + 1 → p l[j] = false) := fun q j hj hjk => by
        by_cases ej : j = m
        · subst ej; exact q
        · exact HA.out j hj (by omega)
      have HT : Hid (p l[m] = true → ∃ (k : Nat) (h : k < l.length), (m : Int) = (k : Int) ∧ p l[k] = true ∧ ∀ (j : Nat) (hj : j < l.length), j < k → p l[j] = false) := fun q => ⟨m, hlt, rfl, q, HA.out⟩
      clear HA HC HP
      generalize l[m] = x at hcell2 hx HN HT
      have HX : Hid (_) := hx
      clear hx
      cases hpx : p x with
      | true =>
        have HT' : Hid (_) := HT.out hpx
        have HX' := HX.out
        rw [hpx] at HX'
        have HX2 : Hid (_) := HX'
        clear HT HN HX HX'
        go_wp2_with (go_at_fn g; refine Calls.mono HX2.out ?_; rintro r w1 ⟨rfl, hb1⟩)
        go_ret
        obtain ⟨k, hk, e, q1, q2⟩ := HT'.out
        exact ⟨below_then hB.out hb1, .inr ⟨k, hk, by rw [← e]; rfl, q1, q2⟩⟩
      | false =>
        have HN' : Hid (_) := HN.out hpx
        have HX' := HX.out
        rw [hpx] at HX'
        have HX2 : Hid (_) := HX'
        clear HT HN HX HX'
        go_wp2_with (go_at_fn g; refine Calls.mono HX2.out ?_; rintro r w1 ⟨rfl, hb1⟩)
        go_roundw
        case rel => exact ⟨m + 1, by omega, by go_num, below_then hB.out hb1, HN'.out⟩
        case measure => simp [intOf]; omega
    · have HR : Hid (∀ x ∈ l, p x = false) := fun x hx => by
        obtain ⟨j, hj, rfl⟩ := List.mem_iff_getElem.1 hx
        exact HA.out j hj (by omega)
      clear HA HC HP
      go_wp2
      go_ret
      exact ⟨hB.out, .inl ⟨rfl, HR.out⟩⟩

/-- the row while texts are dropped: what is kept of the first b lies ahead, the rest is as it was -/
structure InvN (l : List Int) (p : Int → Bool) (a b : Nat) (L : List Int) : Prop where
  len : L.length = l.length
  ahead : L.take a = (l.take b).filter fun x => !p x
  rest : L.drop b = l.drop b
  fst : a < b
theorem InvN.get {l : List Int} {p : Int → Bool} {a b : Nat} {L : List Int} (h : InvN l p a b L) (hb : b < l.length) : L[b]'(by rw [h.len]; exact hb) = l[b] := by
  have e := congrArg (fun z : List Int => z[0]?) h.rest
  simp only [List.getElem?_drop, Nat.add_zero] at e
  rw [List.getElem?_eq_getElem hb, List.getElem?_eq_getElem (by rw [h.len]; exact hb)] at e
  exact Option.some.inj e
theorem drop_moreN {L l : List Int} {b : Nat} (h : L.drop b = l.drop b) : L.drop (b + 1) = l.drop (b + 1) := by
  rw [← List.drop_drop, ← List.drop_drop, h]
theorem InvN.skip {l : List Int} {p : Int → Bool} {a b : Nat} {L : List Int} (h : InvN l p a b L) (hb : b < l.length) (q : p l[b] = true) : InvN l p a (b + 1) L :=
  ⟨h.len, by rw [h.ahead, List.take_succ_eq_append_getElem hb, List.filter_append]; simp [q], drop_moreN h.rest, by have := h.fst; omega⟩
theorem InvN.keep {l : List Int} {p : Int → Bool} {a b : Nat} {L : List Int} (h : InvN l p a b L) (hb : b < l.length) (q : p l[b] = false) : InvN l p (a + 1) (b + 1) (L.set a l[b]) := by
  have hf := h.fst
  have hl := h.len
  refine ⟨by simpa using hl, ?_, ?_, by omega⟩
  · rw [List.take_succ_eq_append_getElem (by rw [List.length_set]; omega), List.take_set_of_le (Nat.le_refl _), List.getElem_set_self, h.ahead, List.take_succ_eq_append_getElem hb, List.filter_append]
    simp [q]
  · rw [List.drop_set_of_lt (by omega)]
    exact drop_moreN h.rest

theorem InvN.start {l : List Int} {p : Int → Bool} {k : Nat} (hk : k < l.length) (q : p l[k] = true) (h : ∀ (j : Nat) (hj : j < l.length), j < k → p l[j] = false) : InvN l p k (k + 1) l := by
  refine ⟨rfl, ?_, rfl, Nat.lt_succ_self _⟩
  rw [List.take_succ_eq_append_getElem hk, List.filter_append]
  have : (l.take k).filter (fun x => !p x) = l.take k := by
    rw [List.filter_eq_self]
    intro x hx
    obtain ⟨j, hj, rfl⟩ := List.mem_iff_getElem.1 hx
    rw [List.length_take] at hj
    rw [List.getElem_take, h j (by omega) (by omega)]; rfl
  rw [this]
  simp [q]
theorem InvN.done {l : List Int} {p : Int → Bool} {a b : Nat} {L : List Int} (h : InvN l p a b L) (hb : l.length ≤ b) : L.take a = l.filter fun x => !p x := by
  rw [h.ahead, List.take_of_length_le hb]

theorem zero_int : ∀ w : World, (zeroValue 3).run Tryz.prog w = .ok (.int .i64 0) w := fun w => by kernel_rfl

set_option maxHeartbeats 2000000 in
set_option maxRecDepth 100000 in
theorem deleteFuncN_any (g : Nat) (lb : Array Value) (p : Int → Bool) (l : List Int) (B cap : Nat) (w : World) (hR : RowN w B cap l) (h8 : l.length ≤ 80000) (eg : ∀ args W, (callFunc g args).run Tryz.prog W = .ok (.enter g args) W)
    (hp : ∀ x ∈ l, ∀ (W : World), w.grownBy W (some B) → Calls Tryz.prog g (#[.int .i64 x] ++ lb) W fun r w' => r = .returned (.bool (p x)) ∧ Below W.heap.size W w') :
    Calls Tryz.prog 130 #[.slice (some ⟨B, 0, none⟩) l.length cap, .func (.func g) #[] lb] w fun r w' => r = .returned (.slice (some ⟨B, 0, none⟩) (l.filter fun x => !p x).length cap) ∧ RowN w' B cap (l.filter fun x => !p x) ∧ w.grownBy w' (some B) := by
  have IX : Hid (Calls _ _ _ _ _) := indexFuncN_any g lb p l B cap w hR h8 eg (fun x hx W hW => hp x hx W (grown_below hW _))
  have HC : Hid (_) := hR
  have HP : Hid (∀ x ∈ l, ∀ (W : World), w.grownBy W (some B) → Calls Tryz.prog g (#[.int .i64 x] ++ lb) W fun r w' => r = .returned (.bool (p x)) ∧ Below W.heap.size W w') := hp
  have hcap := hR.le
  clear hR hp
  go_enter Tryz.func130, Tryz.ntmps130
  go_upto_region 2 with (go_at_call 116; refine Calls.mono IX.out ?_; rintro r w1 ⟨hb1, ⟨rfl, hall⟩ | ⟨k, hk, rfl, hpk, hpj⟩⟩)
  · have HALL : Hid (∀ x ∈ l, p x = false) := hall
    clear hall
    go_wp2
    go_ret
    have e : (l.filter fun x => !p x) = l := by
      rw [List.filter_eq_self]
      intro x hx
      rw [HALL.out x hx]; rfl
    rw [e]
    exact ⟨rfl, HC.out.step hb1, grown_below hb1 _⟩
  · have HI : Hid (InvN l p k (k + 1) l) := InvN.start hk hpk hpj
    have HC1 : Hid (RowN w1 B cap l) := HC.out.step hb1
    have HG1 : Hid (w.grownBy w1 (some B)) := grown_below hb1 _
    obtain ⟨ki, hki⟩ : ∃ ki : Int, ki = (k : Int) := ⟨_, rfl⟩
    rw [← hki]
    have hk0 : 0 ≤ ki := by omega
    have hk1 : ki < 80000 := by omega
    have HKI : Hid (ki = (k : Int)) := hki
    clear hpk hpj IX HC hb1 hki
    have hq : (ki == -1) = false := by rw [beq_eq_false_iff_ne]; omega
    go_upto_region 4 with fail
    clear hq
    go_wp2
    go_loopw [5, 6, 7] (fun i j _ wr => ∃ (a b : Nat) (L : List Int), i = .int .i64 a ∧ j = .int .i64 b ∧ a < b ∧ b ≤ l.length ∧ Hid (InvN l p a b L) ∧ Hid (RowN wr B cap L) ∧ Hid (w.grownBy wr (some B))) (fun _ j _ _ => l.length - (intOf j).toNat)
    case atStart => exact ⟨k, k + 1, l, by rw [HKI.out], by rw [HKI.out]; go_num, by omega, by omega, HI.out, HC1.out, HG1.out⟩
    case round =>
      obtain ⟨a, b, L, rfl, rfl, hab, hbl, HI, HRr, HGr⟩ := hrel
      clear HC1 HG1
      by_cases hlt : b < l.length
      · have cb := HRr.out.cell b (by rw [HI.out.len]; exact hlt)
        rw [HI.out.get hlt] at cb
        have hx := HP.out l[b] (List.getElem_mem hlt) wr HGr.out
        have HSK : Hid (p l[b] = true → InvN l p a (b + 1) L) := fun q => HI.out.skip hlt q
        have HKE : Hid (p l[b] = false → InvN l p (a + 1) (b + 1) (L.set a l[b])) := fun q => HI.out.keep hlt q
        have ha : a < L.length := by rw [HI.out.len]; omega
        clear HP HI
        generalize l[b] = x at cb hx HSK HKE
        have HX : Hid (_) := hx
        clear hx
        cases hpx : p x with
        | true =>
          have HI' : Hid (_) := HSK.out hpx
          have HX' := HX.out
          rw [hpx] at HX'
          have HX2 : Hid (Calls _ _ _ _ _) := HX'
          clear HX HX' HSK HKE
          go_wp2_with (go_at_fn g; refine Calls.mono HX2.out ?_; rintro r w2 ⟨rfl, hb2⟩)
          go_roundw
          case rel => exact ⟨a, b + 1, L, rfl, by go_num, by omega, by omega, HI'.out, HRr.out.step hb2, grown_then HGr.out (grown_below hb2 _)⟩
          case measure => simp [intOf]; omega
        | false =>
          have HI' : Hid (_) := HKE.out hpx
          have HX' := HX.out
          rw [hpx] at HX'
          have HX2 : Hid (Calls _ _ _ _ _) := HX'
          clear HX HX' HSK HKE
          go_wp2_with (go_at_fn g; refine Calls.mono HX2.out ?_; rintro r w2 ⟨rfl, hb2⟩; have HR2 : Hid (RowN w2 B cap L) := HRr.out.step hb2; have ca := HR2.out.cell a ha; have fa := HR2.out.cold a)
          go_roundw
          case rel => exact ⟨a + 1, b + 1, L.set a x, by go_num, by go_num, by omega, by omega, HI'.out, HR2.out.set a x, grown_then (grown_then HGr.out (grown_below hb2 _)) (grown_set w2 ⟨B, a, none⟩ _)⟩
          case measure => simp [intOf]; omega
      · have hcl : ∀ ty, (Builtin.clear_ #[39] ty #[.slice (some ⟨B, a, none⟩) (l.length - a) (cap - a)]).run Tryz.prog wr = .ok (.tuple #[]) (wr.setCells B a (List.replicate (l.length - a) (.int .i64 0))) :=
          fun ty => Lib.run_clear_slice wr _ _ ty _ Tryz.underlying39 zero_int rfl rfl B a _ _ (by omega) (fun j hj => by rw [HRr.out.cell (a + j) (by rw [HI.out.len]; omega)]; rfl) (fun j hj => HRr.out.cold (a + j))
        have HDN : Hid (L.take a = l.filter fun x => !p x) := HI.out.done (by omega)
        have hla : (l.filter fun x => !p x).length = a := by
          rw [← HDN.out, List.length_take, HI.out.len]; omega
        have HLA : Hid ((l.filter fun x => !p x).length = a) := hla
        clear hla
        clear HP HI
        go_wp2
        go_ret
        refine ⟨by rw [HLA.out]; rfl, ?_, grown_then HGr.out (grown_sets B _ _ _)⟩
        have := (HRr.out.take a).fars (List.replicate (l.length - a) (.int .i64 0)) a (by rw [List.length_take]; omega)
        rwa [HDN.out] at this

set_option maxHeartbeats 1000000 in
/-- nothing to drop -/
theorem deleteFuncN_nil (g : Nat) (lb : Array Value) (w : World) :
    Calls Tryz.prog 130 #[.slice none 0 0, .func (.func g) #[] lb] w fun r w' => r = .returned (.slice none 0 0) ∧ w' = w := by
  have IX : Hid (Calls Tryz.prog 116 #[.slice none 0 0, .func (.func g) #[] lb] w fun r w' => r = .returned (.int .i64 (-1)) ∧ w' = w) := by
    show Calls _ _ _ _ _
    go_enter Tryz.func116, Tryz.ntmps116
    go_wp2
    go_loopw [5, 8] (fun _ i wr => i = .int .i64 0 ∧ wr = w) (fun _ _ _ => 0)
    case atStart => exact ⟨rfl, rfl⟩
    case round =>
      obtain ⟨rfl, rfl⟩ := hrel
      go_wp2
      go_ret
      exact ⟨rfl, rfl⟩
  go_enter Tryz.func130, Tryz.ntmps130
  go_wp2_with (go_at_call 116; refine Calls.mono IX.out ?_; rintro r w1 ⟨rfl, rfl⟩)
  go_ret
  exact ⟨rfl, rfl⟩
end Go.Proofs.YtekminpoiokgfaaGreatDoor

/- Package merge's joinSkips: the days that are skipped, day by day. -/
namespace Go.Proofs.YtekminpoiokgfaaGreatDoor
open Go Go.RowKit Go.Maps Go.Sort Cal
attribute [local go_sem] Oper.semAt_some

/-- is a day that one way skips skipped by neither in the end? -/
def gone (bl al cl : List Int) (d : Int) : Bool := !(one3 (decide (d ∈ bl)) (decide (d ∈ al)) (decide (d ∈ cl))).getD false
def jSk (bl al cl : List Int) : List Int := (ris al cl).filter fun d => !gone bl al cl d

set_option maxHeartbeats 1000000 in
set_option maxRecDepth 100000 in
theorem joinSkips1_any (d : Int) (B1 B2 B3 : Nat) (v1 v2 v3 : Value) (l1 l2 l3 : List Int) (w : World) (b1 : Boxed w B1 39 v1) (b2 : Boxed w B2 39 v2) (b3 : Boxed w B3 39 v3) (h1 : Ints w v1 l1) (h2 : Ints w v2 l2) (h3 : Ints w v3 l3) :
    Calls Tryz.prog 132 #[.int .i64 d, .pointer (some ⟨B1, 0, none⟩), .pointer (some ⟨B2, 0, none⟩), .pointer (some ⟨B3, 0, none⟩)] w fun r w' => r = .returned (.bool (gone l1 l2 l3 d)) ∧ Below w.heap.size w w' := by
  have C1 : Hid (∀ k os, Calls Tryz.prog 85 #[v1, .int .i64 d] (grow (redrawn w k) os) fun r w'' => r = .returned (.bool (decide (d ∈ l1))) ∧ ∃ p : Regrown, w'' = grow (redrawn w p.d) p.os) := fun k os => Calls.regrown_of (containsI_any d l1 v1 _ (h1.step (below_regrown _ _ _)) _ (by simp))
  have C2 : Hid (∀ k os, Calls Tryz.prog 85 #[v2, .int .i64 d] (grow (redrawn w k) os) fun r w'' => r = .returned (.bool (decide (d ∈ l2))) ∧ ∃ p : Regrown, w'' = grow (redrawn w p.d) p.os) := fun k os => Calls.regrown_of (containsI_any d l2 v2 _ (h2.step (below_regrown _ _ _)) _ (by simp))
  have C3 : Hid (∀ k os, Calls Tryz.prog 85 #[v3, .int .i64 d] (grow (redrawn w k) os) fun r w'' => r = .returned (.bool (decide (d ∈ l3))) ∧ ∃ p : Regrown, w'' = grow (redrawn w p.d) p.os) := fun k os => Calls.regrown_of (containsI_any d l3 v3 _ (h3.step (below_regrown _ _ _)) _ (by simp))
  have G : Hid (gone l1 l2 l3 d = !(one3 (decide (d ∈ l1)) (decide (d ∈ l2)) (decide (d ∈ l3))).getD false) := rfl
  generalize decide (d ∈ l1) = q1 at C1 G
  generalize decide (d ∈ l2) = q2 at C2 G
  generalize decide (d ∈ l3) = q3 at C3 G
  generalize gone l1 l2 l3 d = R at G ⊢
  have O : Hid (∀ k os, Calls Tryz.prog 133 #[.bool q1, .bool q2, .bool q3] (grow (redrawn w k) os) fun r w'' => r = .returned (.tuple #[.bool ((one3 q1 q2 q3).getD false), .bool (one3 q1 q2 q3).isSome]) ∧ ∃ p : Regrown, w'' = grow (redrawn w p.d) p.os) := fun k os => Calls.regrown_of ((oneOfB_any q1 q2 q3 _).mono (by rintro r w' ⟨rfl, rfl⟩; exact ⟨rfl, Below.refl _ _⟩))
  have X1 := cell_regrown b1.cell
  have X2 := cell_regrown b2.cell
  have X3 := cell_regrown b3.cell
  obtain ⟨a1, c1, rfl, _⟩ := h1
  obtain ⟨a2, c2, rfl, _⟩ := h2
  obtain ⟨a3, c3, rfl, _⟩ := h3
  have x1 := b1.cell
  have x2 := b2.cell
  have x3 := b3.cell
  generalize (one3 q1 q2 q3).getD false = g1 at O G
  generalize (one3 q1 q2 q3).isSome = g2 at O
  clear b1 b2 b3
  go_enter Tryz.func132, Tryz.ntmps132
  go_upto_region 1 with (fail)
  refine wp_region_quiet_below (by kernel_rfl) (by kernel_rfl) ?_
  repeat (quiet_step (first | (go_at_call 85; first | exact C1.out _ _ | exact C2.out _ _ | exact C3.out _ _) | (go_at_call 133; exact O.out _ _)))
  refine wpQuiet_nil ?_
  intro w3 hw'
  have hb3 : Below w.heap.size w w3 := by
    obtain ⟨⟨dq, osq⟩, hw''⟩ := hw'
    subst hw''
    exact below_regrown _ _ _
  clear hw' X1 X2 X3 x1 x2 x3
  go_wp2
  go_ret
  exact ⟨by rw [G.out]; rfl, hb3⟩

theorem ow_rowN {base B cap : Nat} {W : World} {l : List Int} (h : Ow base W (.slice (some ⟨B, 0, none⟩) l.length cap) l) : RowN W B cap l := by
  rcases h.2 with ⟨h0, _⟩ | ⟨g, c, cur, hv, hb, hg, hcap, hmax, hsz, htake⟩
  · cases h0
  · cases hv
    refine ⟨⟨cur, hg, by simpa using hsz, fun j hj => ?_⟩, hcap⟩
    have := World.ownsRow.cellAt h j (by omega)
    rw [List.getElem?_map, List.getElem?_eq_getElem hj] at this
    simpa [World.cell?, hg] using this
theorem rowN_ow {base B cap : Nat} {W : World} {l : List Int} (h : RowN W B cap l) (hb : base ≤ B) (hmax : cap ≤ maxLen) : Ow base W (.slice (some ⟨B, 0, none⟩) l.length cap) l := by
  obtain ⟨⟨cur, h1, h2, h3⟩, h4⟩ := h
  refine ⟨by simp, .inr ⟨B, cap, cur, rfl, hb, h1, h4, hmax, by simpa using h2, ?_⟩⟩
  rw [Nat.mul_one]
  refine List.ext_getElem (by simp; omega) (fun j hj1 hj2 => ?_)
  have hj : j < l.length := by simpa using hj2
  have e := h3 j hj
  have hc : j < cur.size := by omega
  rw [Array.getElem?_eq_getElem hc] at e
  simp [Option.some.inj e]
set_option maxHeartbeats 1000000 in
set_option maxRecDepth 100000 in
theorem joinSkips_any (v1 v2 v3 : Value) (l1 l2 l3 : List Int) (w : World) (h1 : Ints w v1 l1) (h2 : Ints w v2 l2) (h3 : Ints w v3 l3) (g2 : Got w v2 l2) (g3 : Got w v3 l3) (hl2 : l2.length ≤ 1000) (hl3 : l3.length ≤ 1000) :
    Calls Tryz.prog 105 #[v1, v2, v3] w fun r w' => ∃ v', r = .returned v' ∧ Ow w.heap.size w' v' (jSk l1 l2 l3) ∧ Below w.heap.size w w' := by
  have a1 : Below w.heap.size w (w.alloc (.cells #[v1] 39)) := below_alloc _ _
  have a2 : Below w.heap.size w ((w.alloc (.cells #[v1] 39)).alloc (.cells #[v2] 39)) := below_then a1 (below_alloc _ _)
  have a3 : Below w.heap.size w (((w.alloc (.cells #[v1] 39)).alloc (.cells #[v2] 39)).alloc (.cells #[v3] 39)) := below_then a2 (below_alloc _ _)
  have b1 : Boxed (((w.alloc (.cells #[v1] 39)).alloc (.cells #[v2] 39)).alloc (.cells #[v3] 39)) w.heap.size 39 v1 := ((Boxed.new w 39 v1).alloc _).alloc _
  have b2 : Boxed (((w.alloc (.cells #[v1] 39)).alloc (.cells #[v2] 39)).alloc (.cells #[v3] 39)) (w.heap.size + 1) 39 v2 := by
    have := (Boxed.new (w.alloc (.cells #[v1] 39)) 39 v2).alloc (.cells #[v3] 39)
    rwa [World.size_alloc] at this
  have b3 : Boxed (((w.alloc (.cells #[v1] 39)).alloc (.cells #[v2] 39)).alloc (.cells #[v3] 39)) (w.heap.size + 1 + 1) 39 v3 := by
    have := Boxed.new ((w.alloc (.cells #[v1] 39)).alloc (.cells #[v2] 39)) 39 v3
    rwa [World.size_alloc, World.size_alloc] at this
  have RI : Hid (Calls _ _ _ _ _) := risingI_any v2 v3 l2 l3 _ (g2.step a3) (g3.step a3) hl2 hl3
  have HI : Hid (Ints w v1 l1 ∧ Ints w v2 l2 ∧ Ints w v3 l3) := ⟨h1, h2, h3⟩
  have HRL : Hid ((ris l2 l3).length ≤ 80000) := by show _ ≤ _; have := ris_len l2 l3; omega
  have c1 := b1.cell
  have c2 := b2.cell
  have c3 := b3.cell
  have HA : Hid (_) := a3
  have HBX : Hid (_ ∧ _ ∧ _) := ⟨b1, b2, b3⟩
  obtain ⟨x1, k1, rfl, z1⟩ := h1
  clear z1
  obtain ⟨x2, k2, rfl, z2⟩ := h2
  clear z2
  obtain ⟨x3, k3, rfl, z3⟩ := h3
  clear z3
  have HJ : Hid (jSk l1 l2 l3 = (ris l2 l3).filter fun d => !gone l1 l2 l3 d) := rfl
  have HG : Hid (∀ d B1 B2 B3 v1 v2 v3 W, Boxed W B1 39 v1 → Boxed W B2 39 v2 → Boxed W B3 39 v3 → Ints W v1 l1 → Ints W v2 l2 → Ints W v3 l3 → Calls Tryz.prog 132 #[.int .i64 d, .pointer (some ⟨B1, 0, none⟩), .pointer (some ⟨B2, 0, none⟩), .pointer (some ⟨B3, 0, none⟩)] W fun r w' => r = .returned (.bool (gone l1 l2 l3 d)) ∧ Below W.heap.size W w') := fun d B1 B2 B3 v1 v2 v3 W => joinSkips1_any d B1 B2 B3 v1 v2 v3 l1 l2 l3 W
  generalize jSk l1 l2 l3 = J at HJ ⊢
  generalize gone l1 l2 l3 = p at HJ HG
  clear a1 a2 a3 b1 b2 b3 g2 g3
  go_enter Tryz.func105, Tryz.ntmps105
  go_upto_region 1 with fail
  generalize ((w.alloc (.cells #[.slice x1 l1.length k1] 39)).alloc (.cells #[.slice x2 l2.length k2] 39)).alloc (.cells #[.slice x3 l3.length k3] 39) = W3 at RI c1 c2 c3 HA HBX ⊢
  have HI3 : Hid (Ints W3 (.slice x1 l1.length k1) l1 ∧ Ints W3 (.slice x2 l2.length k2) l2 ∧ Ints W3 (.slice x3 l3.length k3) l3) := ⟨HI.out.1.step HA.out, HI.out.2.1.step HA.out, HI.out.2.2.step HA.out⟩
  clear HI
  generalize l1.length = n1 at *
  generalize l2.length = n2 at *
  generalize l3.length = n3 at *
  generalize ris l2 l3 = L at RI HRL HJ
  generalize w.heap.size + 1 + 1 = B3 at *
  generalize w.heap.size + 1 = B2 at *
  go_wp2_with fail
  go_at_call 131
  refine Calls.mono RI.out ?_
  rintro r w4 ⟨v4, rfl, ho4, hb4⟩
  have HP : Hid (∀ x (W : World), Below W3.heap.size W3 W → Calls Tryz.prog 132 (#[.int .i64 x] ++ #[.pointer (some ⟨w.heap.size, 0, none⟩), .pointer (some ⟨B2, 0, none⟩), .pointer (some ⟨B3, 0, none⟩)]) W fun r w' => r = .returned (.bool (p x)) ∧ Below W.heap.size W w') := fun x W hW => HG.out x w.heap.size B2 B3 _ _ _ W ((hW.block _ HBX.out.1.lt).trans HBX.out.1) ((hW.block _ HBX.out.2.1.lt).trans HBX.out.2.1) ((hW.block _ HBX.out.2.2.lt).trans HBX.out.2.2) (HI3.out.1.step hW) (HI3.out.2.1.step hW) (HI3.out.2.2.step hW)
  have HB4 : Hid (Below W3.heap.size W3 w4) := hb4
  have DF : Hid (Calls Tryz.prog 130 #[v4, .func (.func 132) #[] #[.pointer (some ⟨w.heap.size, 0, none⟩), .pointer (some ⟨B2, 0, none⟩), .pointer (some ⟨B3, 0, none⟩)]] w4 fun r w' => ∃ v', r = .returned v' ∧ Ow W3.heap.size w' v' (L.filter fun d => !p d) ∧ Below W3.heap.size W3 w') := by
    show Calls _ _ _ _ _
    rcases ho4.2 with ⟨rfl, h0⟩ | ⟨g, cap, cur, rfl, hb, hg, hcap, hmax, hsz, htake⟩
    · have hL : L = [] := List.length_eq_zero_iff.1 h0
      subst hL
      refine (deleteFuncN_nil _ _ w4).mono ?_
      rintro r w' ⟨rfl, rfl⟩
      exact ⟨_, rfl, Ow.nil _ _, HB4.out⟩
    · refine (deleteFuncN_any 132 _ p L g cap w4 (ow_rowN ho4) HRL.out (fun args W => by kernel_rfl) (fun x _ W hW => HP.out x W (HB4.out.grown hW HB4.out.size (fun k q => by cases q; exact hb)))).mono ?_
      rintro r w' ⟨rfl, hr, hg'⟩
      exact ⟨_, rfl, rowN_ow hr hb hmax, HB4.out.grown hg' HB4.out.size (fun k q => by cases q; exact hb)⟩
  obtain ⟨a4, k4, rfl⟩ := ow_form ho4
  clear ho4 hb4 HP HG RI c1 c2 c3
  generalize L.length = n4 at DF HRL ⊢
  go_wp2_with (go_at_call 130; refine Calls.mono DF.out ?_; rintro r w5 ⟨v5, rfl, ho5, hb5⟩)
  go_ret
  refine ⟨v5, rfl, ?_, below_then HA.out hb5⟩
  rw [HJ.out]
  exact ow_lower ho5 HA.out.size
end Go.Proofs.YtekminpoiokgfaaGreatDoor

/- Package merge's goals: where days are moved to. -/
namespace Go.Proofs.YtekminpoiokgfaaGreatDoor
open Go Go.RowKit Go.Maps Go.Sort Cal
attribute [local go_sem] Oper.semAt_some

/-- a goal -/
def gV (o : Int × Bool) : Value := .agg #[.int .i64 o.1, .bool o.2]
theorem zeroG (w : World) : (zeroValue 176).run Tryz.prog w = .ok (.agg #[.int .i64 0, .bool false]) w := by kernel_rfl

set_option maxHeartbeats 1000000 in
set_option maxRecDepth 100000 in
theorem goal_leaf {w W : World} {b x y : Int × Bool} {a : Act} {B : Nat} (o : Int × Bool) (k : Bool) (h : one3 b x y = (if k then some o else none)) (ho : k = false → o = (0, false)) (h6 : a.tmps[6]? = some (.pointer (some ⟨B, 0, none⟩))) (h7 : a.tmps[7]? = some (.bool k))
    (c0 : W.cell? ⟨B, 0, none⟩ = some (.int .i64 o.1)) (c1 : W.cell? ⟨B, 1, none⟩ = some (.bool o.2)) (hb : Below w.heap.size w W) (hd : a.defers = []) :
    bodyPost Tryz.prog Tryz.f136 (fun r w' => r = .returned (.tuple #[gV ((one3 b x y).getD (0, false)), .bool (one3 b x y).isSome]) ∧ Below w.heap.size w w') Exit.ret a W := by
  refine bodyPost_ret (v := .tuple #[.agg #[.int .i64 o.1, .bool o.2], .bool k]) ?_ hd ⟨?_, hb⟩
  · simp [results, Tryz.f136, go_sem, h6, h7, c0, c1]
  · rw [h]
    cases k
    · rw [ho rfl]; rfl
    · rfl
theorem two_cells {W : World} {B : Nat} {u v : Value} {t : TypeId} (h : W.heap[B]? = some (.cells #[u, v] t (0, 0))) : W.cell? ⟨B, 0, none⟩ = some u ∧ W.cell? ⟨B, 1, none⟩ = some v := ⟨by simp [World.cell?, h], by simp [World.cell?, h]⟩
theorem goal_leaf4 {w : World} {b x y : Int × Bool} {a : Act} (o1 o2 o3 : Obj) (o : Int × Bool) (h : one3 b x y = some o) (h6 : a.tmps[6]? = some (.pointer (some ⟨w.heap.size + 1 + 1 + 1, 0, none⟩))) (h7 : a.tmps[7]? = some (.bool true)) (hd : a.defers = []) :
    bodyPost Tryz.prog Tryz.f136 (fun r w' => r = .returned (.tuple #[gV ((one3 b x y).getD (0, false)), .bool (one3 b x y).isSome]) ∧ Below w.heap.size w w') Exit.ret a ((((w.alloc o1).alloc o2).alloc o3).alloc (.cells #[.int .i64 o.1, .bool o.2] 176)) := by
  have hB : ((((w.alloc o1).alloc o2).alloc o3).alloc (.cells #[.int .i64 o.1, .bool o.2] 176)).heap[w.heap.size + 1 + 1 + 1]? = some (.cells #[.int .i64 o.1, .bool o.2] 176 (0, 0)) := block_at _ (by simp [World.size_alloc])
  exact goal_leaf o true (by rw [h]; rfl) (fun q => by cases q) h6 h7 (two_cells hB).1 (two_cells hB).2 (below_then (below_then (below_then (below_alloc _ _) (below_alloc _ _)) (below_alloc _ _)) (below_alloc _ _)) hd
theorem goal_leaf5 {w : World} {b x y : Int × Bool} {a : Act} (o1 o2 o3 o5 : Obj) (h : one3 b x y = none) (h6 : a.tmps[6]? = some (.pointer (some ⟨w.heap.size + 1 + 1 + 1, 0, none⟩))) (h7 : a.tmps[7]? = some (.bool false)) (hd : a.defers = []) :
    bodyPost Tryz.prog Tryz.f136 (fun r w' => r = .returned (.tuple #[gV ((one3 b x y).getD (0, false)), .bool (one3 b x y).isSome]) ∧ Below w.heap.size w w') Exit.ret a (((((w.alloc o1).alloc o2).alloc o3).alloc (.cells #[.int .i64 0, .bool false] 176)).alloc o5) := by
  have hB : ((((w.alloc o1).alloc o2).alloc o3).alloc (.cells #[.int .i64 0, .bool false] 176)).heap[w.heap.size + 1 + 1 + 1]? = some (.cells #[.int .i64 0, .bool false] 176 (0, 0)) := block_at _ (by simp [World.size_alloc])
  have hB5 := block_alloc o5 hB
  exact goal_leaf (0, false) false (by rw [h]; rfl) (fun _ => rfl) h6 h7 (two_cells hB5).1 (two_cells hB5).2 (below_then (below_then (below_then (below_then (below_alloc _ _) (below_alloc _ _)) (below_alloc _ _)) (below_alloc _ _)) (below_alloc _ _)) hd

set_option maxHeartbeats 4000000 in
set_option maxRecDepth 100000 in
theorem oneOfG_any (b1 x1 y1 : Int) (b2 x2 y2 : Bool) (w : World) : Calls Tryz.prog 136 #[gV (b1, b2), gV (x1, x2), gV (y1, y2)] w fun r w' => r = .returned (.tuple #[gV ((one3 (b1, b2) (x1, x2) (y1, y2)).getD (0, false)), .bool (one3 (b1, b2) (x1, x2) (y1, y2)).isSome]) ∧ Below w.heap.size w w' := by
  change Calls Tryz.prog 136 #[.agg #[.int .i64 b1, .bool b2], .agg #[.int .i64 x1, .bool x2], .agg #[.int .i64 y1, .bool y2]] w _
  have hzz := zeroG
  by_cases h1 : x1 = y1
  · subst h1
    by_cases h2 : x1 = b1
    · subst h2
      cases x2 <;> cases y2 <;> cases b2
      all_goals
        go_enter Tryz.func136, Tryz.ntmps136
        go_wp2
        first
          | exact goal_leaf4 _ _ _ (x1, true) (by simp [one3]) rfl rfl rfl
          | exact goal_leaf4 _ _ _ (x1, false) (by simp [one3]) rfl rfl rfl
    · cases x2 <;> cases y2 <;> cases b2
      all_goals
        go_enter Tryz.func136, Tryz.ntmps136
        go_wp2
        first
          | exact goal_leaf4 _ _ _ (x1, true) (by simp [one3]) rfl rfl rfl
          | exact goal_leaf4 _ _ _ (x1, false) (by simp [one3]) rfl rfl rfl
          | exact goal_leaf5 _ _ _ _ (by simp [one3, h2]) rfl rfl rfl
  · by_cases h2 : y1 = b1
    · subst h2
      cases x2 <;> cases y2 <;> cases b2
      all_goals
        go_enter Tryz.func136, Tryz.ntmps136
        go_wp2
        first
          | exact goal_leaf4 _ _ _ (x1, true) (by simp [one3]) rfl rfl rfl
          | exact goal_leaf4 _ _ _ (x1, false) (by simp [one3]) rfl rfl rfl
          | exact goal_leaf5 _ _ _ _ (by simp [one3, h1]) rfl rfl rfl
    · by_cases h3 : x1 = b1
      · subst h3
        cases x2 <;> cases y2 <;> cases b2
        all_goals
          go_enter Tryz.func136, Tryz.ntmps136
          go_wp2
          first
            | exact goal_leaf4 _ _ _ (y1, true) (by simp [one3, h1, h2]) rfl rfl rfl
            | exact goal_leaf4 _ _ _ (y1, false) (by simp [one3, h1, h2]) rfl rfl rfl
            | exact goal_leaf5 _ _ _ _ (by simp [one3, h1, h2]) rfl rfl rfl
      · go_enter Tryz.func136, Tryz.ntmps136
        go_wp2
        exact goal_leaf5 _ _ _ _ (by simp [one3, h1, h2, h3]) rfl rfl rfl
end Go.Proofs.YtekminpoiokgfaaGreatDoor
