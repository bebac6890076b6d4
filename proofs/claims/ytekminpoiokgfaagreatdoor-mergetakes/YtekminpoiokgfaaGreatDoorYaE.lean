/- Package event's Check: which error an event has. -/
import Derived.Test.YtekminpoiokgfaaGreatDoorYaD
import Derived.Test.YtekminpoiokgfaaGreatDoorMathW
import Derived.Lib.ItoaNum
import Derived.Lib.ItoaMem
import Derived.Shelf.LaysM
import Derived.Shelf.Strconv.Itoa3
import Derived.Test.YtekminpoiokgfaaGreatDoorProg
import Derived.Test.YtekminpoiokgfaaGreatDoorYaA
import Derived.Lib.SmallJoins
namespace Go.Proofs.YtekminpoiokgfaaGreatDoor
open Go Go.RowKit Cal
attribute [local go_sem] Oper.semAt_some

/-- an event's plain data -/
structure EV where
  id : ByteArray
  ti : ByteArray
  st : Int
  lg : Int
  f : ByteArray
  e : Int
  ds : List Int
  c : Int
  u : Int
  sk : List Int
  mv : List (Int × Int)
/-- an event as a value -/
def ev (E : EV) (sl sk mv : Value) : Value := .agg #[.string E.id, .string E.ti, .int .i64 E.st, .int .i64 E.lg, .string E.f, .int .i64 E.e, sl, .int .i64 E.c, .int .i64 E.u, sk, mv]
/-- the box of an event -/
def EB (W : World) (B : Nat) (E : EV) (sl sk mv : Value) : Prop := W.heap[B]? = some (.cells #[.string E.id, .string E.ti, .int .i64 E.st, .int .i64 E.lg, .string E.f, .int .i64 E.e, sl, .int .i64 E.c, .int .i64 E.u, sk, mv] 44 (0, 0))
theorem EB.lt {W : World} {B : Nat} {E : EV} {sl sk mv : Value} (h : EB W B E sl sk mv) : B < W.heap.size := (Array.getElem?_eq_some_iff.1 h).1
theorem EB.step {W W' : World} {B : Nat} {E : EV} {sl sk mv : Value} (h : EB W B E sl sk mv) (hb : Below W.heap.size W W') : EB W' B E sl sk mv := (hb.block _ h.lt).trans h
theorem EB.new (w : World) (E : EV) (sl sk mv : Value) : EB (w.alloc (.cells #[.string E.id, .string E.ti, .int .i64 E.st, .int .i64 E.lg, .string E.f, .int .i64 E.e, sl, .int .i64 E.c, .int .i64 E.u, sk, mv] 44)) w.heap.size E sl sk mv := block_at _ rfl
theorem blk11 {W : World} {n : Nat} {v0 v1 v2 v3 v4 v5 v6 v7 v8 v9 v10 : Value} {t : TypeId} (h : W.heap[n]? = some (.cells #[v0, v1, v2, v3, v4, v5, v6, v7, v8, v9, v10] t (0, 0))) :
    W.cell? ⟨n, 0, none⟩ = some v0 ∧ W.cell? ⟨n, 1, none⟩ = some v1 ∧ W.cell? ⟨n, 2, none⟩ = some v2 ∧ W.cell? ⟨n, 3, none⟩ = some v3 ∧ W.cell? ⟨n, 4, none⟩ = some v4 ∧ W.cell? ⟨n, 5, none⟩ = some v5 ∧
      W.cell? ⟨n, 6, none⟩ = some v6 ∧ W.cell? ⟨n, 7, none⟩ = some v7 ∧ W.cell? ⟨n, 8, none⟩ = some v8 ∧ W.cell? ⟨n, 9, none⟩ = some v9 ∧ W.cell? ⟨n, 10, none⟩ = some v10 := by
  refine ⟨?_, ?_, ?_, ?_, ?_, ?_, ?_, ?_, ?_, ?_, ?_⟩ <;> simp [World.cell?, h]

/-- the bounds of a start and of a length -/
def bE (st lg : Int) : Prop := (0 ≤ st ∧ st ≤ 73048) ∧ 1 ≤ lg ∧ lg ≤ 60
/-- the number of an event's error -/
def EvK (E : EV) (k : Int) : Prop :=
  (¬ okID E.id ∧ k = 4) ∨ (okID E.id ∧ ¬ okTi E.ti ∧ k = 1) ∨ (okID E.id ∧ okTi E.ti ∧ ¬ bE E.st E.lg ∧ k = 2) ∨
    (okID E.id ∧ okTi E.ti ∧ bE E.st E.lg ∧ ∃ kr, ErrK E.f E.e E.ds E.c E.u kr ∧ ((kr ≠ 0 ∧ k = kr) ∨ (kr = 0 ∧ k = lk E.sk E.mv)))
/-- an event that is well -/
structure EW (E : EV) : Prop where
  id : okID E.id
  ti : okTi E.ti
  bd : bE E.st E.lg
  rl : Well (rd E.f E.e E.ds E.c E.u)
  ls : lk E.sk E.mv = 0
theorem evK_ex (E : EV) : ∃ k, EvK E k := by
  by_cases h1 : okID E.id
  · by_cases h2 : okTi E.ti
    · by_cases h3 : bE E.st E.lg
      · obtain ⟨kr, hk⟩ := errK_ex E.f E.e E.ds E.c E.u
        by_cases h4 : kr = 0
        · exact ⟨_, .inr (.inr (.inr ⟨h1, h2, h3, kr, hk, .inr ⟨h4, rfl⟩⟩))⟩
        · exact ⟨_, .inr (.inr (.inr ⟨h1, h2, h3, kr, hk, .inl ⟨h4, rfl⟩⟩))⟩
      · exact ⟨_, .inr (.inr (.inl ⟨h1, h2, h3, rfl⟩))⟩
    · exact ⟨_, .inr (.inl ⟨h1, h2, rfl⟩)⟩
  · exact ⟨_, .inl ⟨h1, rfl⟩⟩
theorem evK_0 {E : EV} {k : Int} (h : EvK E k) : k = 0 ↔ EW E := by
  rcases h with ⟨h1, rfl⟩ | ⟨h1, h2, rfl⟩ | ⟨h1, h2, h3, rfl⟩ | ⟨h1, h2, h3, kr, hk, (⟨h4, rfl⟩ | ⟨rfl, rfl⟩)⟩
  · exact ⟨fun q => absurd q (by decide), fun q => absurd q.id h1⟩
  · exact ⟨fun q => absurd q (by decide), fun q => absurd q.ti h2⟩
  · exact ⟨fun q => absurd q (by decide), fun q => absurd q.bd h3⟩
  · exact ⟨fun q => absurd q h4, fun q => absurd ((errK_0 hk).2 q.rl) h4⟩
  · exact ⟨fun q => ⟨h1, h2, h3, (errK_0 hk).1 rfl, q⟩, fun q => q.ls⟩
theorem evK_bd {E : EV} {k : Int} (h : EvK E k) : k = 0 ∨ (1 ≤ k ∧ k ≤ 8) := by
  rcases h with ⟨h1, rfl⟩ | ⟨h1, h2, rfl⟩ | ⟨h1, h2, h3, rfl⟩ | ⟨h1, h2, h3, kr, hk, (⟨h4, rfl⟩ | ⟨rfl, rfl⟩)⟩
  · omega
  · omega
  · omega
  · have := errK_bd hk; omega
  · have := lk_bd E.sk E.mv; omega
theorem errV_ne {s : Nat → Addr} {k : Int} (h : k ≠ 0) : ∃ p, errV s k = .iface 250 (.pointer (some p)) := by
  unfold errV; rw [if_neg h]; exact ⟨_, rfl⟩

set_option maxHeartbeats 2000000 in
theorem evCheck_k (E : EV) (sl skv mvv : Value) (k : Int) (s : Nat → Addr) (w : World) (g : GlobK s w) (hd : Days w sl E.ds) (hs : Ints w skv E.sk) (hm : Movs w mvv E.mv) (h30 : E.id.size ≤ 60) (h60 : E.ti.size ≤ 60) (hk : EvK E k) :
    Calls Tryz.prog 30 #[ev E sl skv mvv] w fun r w' => r = .returned (errV s k) ∧ Below w.heap.size w w' := by
  have hA := below_alloc w (.cells #[.string E.id, .string E.ti, .int .i64 E.st, .int .i64 E.lg, .string E.f, .int .i64 E.e, sl, .int .i64 E.c, .int .i64 E.u, skv, mvv] 44)
  have hB := EB.new w E sl skv mvv
  obtain ⟨id, ti, st, lg, f, e, ds, c, u, sk, mv⟩ := E
  dsimp only at *
  unfold ev EB at *
  dsimp only at *
  have HG : Hid (GlobK s _) := g.step hA
  have HD : Hid (Days _ sl ds) := hd.step hA
  have HS : Hid (Ints _ skv sk) := hs.step hA
  have HM : Hid (Movs _ mvv mv) := hm.step hA
  obtain ⟨ra, rc, rfl, _⟩ := hd
  obtain ⟨sa, sc, rfl, _⟩ := hs
  obtain ⟨ma, mc, rfl, _⟩ := hm
  have HA : Hid (_) := hA
  clear hA g
  generalize hw0 : w.alloc (.cells #[.string id, .string ti, .int .i64 st, .int .i64 lg, .string f, .int .i64 e, .slice ra ds.length rc, .int .i64 c, .int .i64 u, .slice sa sk.length sc, .slice ma mv.length mc] 44) = w0 at HG HD HS HM HA hB
  obtain ⟨x0, x1, x2, x3, x4, x5, x6, x7, x8, x9, x10⟩ := blk11 hB
  have BX : Hid (∀ W, Below w0.heap.size w0 W → _) := fun W h => blk11 ((h.block _ (Array.getElem?_eq_some_iff.1 hB).1).trans hB)
  have HK : Hid (EvK _ k) := hk
  clear hk hB
  by_cases h1 : okID id
  case neg =>
    have EK : Hid (errV s k = .iface 250 (.pointer (some (s 3)))) := by
      refine errV_of (m := 4) ?_ (by decide)
      rcases HK.out with q | q | q | q
      · exact q.2
      · exact absurd q.1 h1
      · exact absurd q.1 h1
      · exact absurd q.1 h1
    have r3 := HG.out.c3
    have I : Hid (∀ W, _) := fun W => isID_any id W h30 false ⟨fun q => absurd q (by decide), fun q => absurd q h1⟩
    clear HK HD HS HM BX h1 HG
    go_enter Tryz.func30, Tryz.ntmps30
    go_wp2_with (go_at_call 50; refine (I.out _).mono ?_; rintro r w1 ⟨rfl, rfl⟩)
    go_ret
    exact ⟨(by rw [EK.out]; rfl), HA.out⟩
  case pos =>
  have I : Hid (∀ W, _) := fun W => isID_any id W h30 true ⟨fun _ => h1, fun _ => rfl⟩
  by_cases h2 : okTi ti
  case neg =>
    have EK : Hid (errV s k = .iface 250 (.pointer (some (s 0)))) := by
      refine errV_of (m := 1) ?_ (by decide)
      rcases HK.out with q | q | q | q
      · exact absurd h1 q.1
      · exact q.2.2
      · exact absurd q.2.1 h2
      · exact absurd q.2.1 h2
    have T : Hid (∀ W, _) := fun W => isTitle_any ti W h60 false ⟨fun q => absurd q (by decide), fun q => absurd q h2⟩
    clear HK HD HS HM BX h1 h2
    go_enter Tryz.func30, Tryz.ntmps30
    go_wp2_with (first
      | (go_at_call 50; refine (I.out _).mono ?_; rintro r w1 ⟨rfl, rfl⟩)
      | (go_at_call 51; refine (T.out _).mono ?_; rintro r w1 ⟨rfl, hb1⟩; have r0 := (HG.out.step hb1).c0))
    go_ret
    exact ⟨(by rw [EK.out]; rfl), below_then HA.out hb1⟩
  case pos =>
  have T : Hid (∀ W, _) := fun W => isTitle_any ti W h60 true ⟨fun _ => h2, fun _ => rfl⟩
  have D : Hid (∀ W, Calls Tryz.prog 52 #[.int .i64 st] W fun r w' => r = .returned (.bool (decide (0 ≤ st ∧ st ≤ 73048))) ∧ w' = W) := fun W => eisDay_any st W _ (by simp)
  by_cases h3 : bE st lg
  case neg =>
    have EK : Hid (errV s k = .iface 250 (.pointer (some (s 1)))) := by
      refine errV_of (m := 2) ?_ (by decide)
      rcases HK.out with q | q | q | q
      · exact absurd h1 q.1
      · exact absurd h2 q.2.1
      · exact q.2.2.2
      · exact absurd q.2.2.1 h3
    have h4 : decide (0 ≤ st ∧ st ≤ 73048) = false ∨ (decide (0 ≤ st ∧ st ≤ 73048) = true ∧ lg < 1) ∨ (decide (0 ≤ st ∧ st ≤ 73048) = true ∧ 1 ≤ lg ∧ 60 < lg) := by
      unfold bE at h3
      rw [decide_eq_false_iff_not, decide_eq_true_iff]
      omega
    clear HK HD HS HM h1 h2 h3
    generalize decide (0 ≤ st ∧ st ≤ 73048) = b at D h4
    rcases h4 with rfl | ⟨rfl, h4⟩ | ⟨rfl, h4, h5⟩
    all_goals
      go_enter Tryz.func30, Tryz.ntmps30
      go_wp2_with (first
        | (go_at_call 50; refine (I.out _).mono ?_; rintro r w1 ⟨rfl, rfl⟩)
        | (go_at_call 51; refine (T.out _).mono ?_; rintro r w1 ⟨rfl, hb1⟩; have r1 := (HG.out.step hb1).c1; obtain ⟨y0, y1, y2, y3, y4, y5, y6, y7, y8, y9, y10⟩ := BX.out _ hb1)
        | (go_at_call 52; refine (D.out _).mono ?_; rintro r w2 ⟨rfl, rfl⟩))
      go_ret
      exact ⟨(by rw [EK.out]; rfl), below_then HA.out hb1⟩
  case pos =>
  have hd1 : decide (0 ≤ st ∧ st ≤ 73048) = true := decide_eq_true h3.1
  rw [hd1] at D
  obtain ⟨hl1, hl2⟩ : 1 ≤ lg ∧ lg ≤ 60 := h3.2
  have EX : Hid (∃ kr, ErrK f e ds c u kr ∧ ((kr ≠ 0 ∧ k = kr) ∨ (kr = 0 ∧ k = lk sk mv))) := by
    rcases HK.out with q | q | q | q
    · exact absurd h1 q.1
    · exact absurd h2 q.2.1
    · exact absurd h3 q.2.2.1
    · exact q.2.2.2
  obtain ⟨kr, hkr, hcase⟩ := EX.out
  have RC : Hid (∀ W, Below w0.heap.size w0 W → Calls Tryz.prog 53 #[.agg #[.string f, .int .i64 e, .slice ra ds.length rc, .int .i64 c, .int .i64 u]] W fun r w' => r = .returned (errV s kr) ∧ Below W.heap.size W w') := fun W h => rcheck_k f e _ c u ds kr s W (HG.out.step h) (HD.out.step h) hkr
  have LC : Hid (∀ W, Below w0.heap.size w0 W → Calls Tryz.prog 54 #[.slice sa sk.length sc, .slice ma mv.length mc] W fun r w' => r = .returned (errV s (lk sk mv)) ∧ Below W.heap.size W w') := fun W h => checkLists_k sk mv _ _ s W (HG.out.step h) (HS.out.step h) (HM.out.step h)
  clear HK h1 h2 h3 hd1 hkr HD HS HM EX
  rcases hcase with ⟨q1, q2⟩ | ⟨q1, q2⟩
  · obtain ⟨p, hp⟩ := errV_ne (s := s) q1
    have EK : Hid (errV s k = .iface 250 (.pointer (some p))) := by show _ = _; rw [q2]; exact hp
    rw [hp] at RC
    clear q1 q2 LC hp
    go_enter Tryz.func30, Tryz.ntmps30
    go_wp2_with (first
      | (go_at_call 50; refine (I.out _).mono ?_; rintro r w1 ⟨rfl, rfl⟩)
      | (go_at_call 51; refine (T.out _).mono ?_; rintro r w1 ⟨rfl, hb1⟩; obtain ⟨y0, y1, y2, y3, y4, y5, y6, y7, y8, y9, y10⟩ := BX.out _ hb1)
      | (go_at_call 52; refine (D.out _).mono ?_; rintro r w2 ⟨rfl, rfl⟩)
      | (go_at_call 53; refine (RC.out _ hb1).mono ?_; rintro r w2 ⟨rfl, hb2⟩))
    go_ret
    exact ⟨(by rw [EK.out]; rfl), below_then HA.out (below_then hb1 hb2)⟩
  · rw [q1, errV_0] at RC
    rw [← q2] at LC
    clear q1 q2
    generalize errV s k = er at LC ⊢
    go_enter Tryz.func30, Tryz.ntmps30
    go_wp2_with (first
      | (go_at_call 50; refine (I.out _).mono ?_; rintro r w1 ⟨rfl, rfl⟩)
      | (go_at_call 51; refine (T.out _).mono ?_; rintro r w1 ⟨rfl, hb1⟩; obtain ⟨y0, y1, y2, y3, y4, y5, y6, y7, y8, y9, y10⟩ := BX.out _ hb1)
      | (go_at_call 52; refine (D.out _).mono ?_; rintro r w2 ⟨rfl, rfl⟩)
      | (go_at_call 53; refine (RC.out _ hb1).mono ?_; rintro r w2 ⟨rfl, hb2⟩; have h2 := below_then hb1 hb2; obtain ⟨z0, z1, z2, z3, z4, z5, z6, z7, z8, z9, z10⟩ := BX.out _ h2)
      | (go_at_call 54; refine (LC.out _ h2).mono ?_; rintro r w3 ⟨rfl, hb3⟩))
    go_ret
    exact ⟨rfl, below_then HA.out (below_then h2 hb3)⟩
theorem lk_of {sk : List Int} {mv : List (Int × Int)} (h : lk sk mv = 0) : sk.length ≤ 20 ∧ mv.length ≤ 20 ∧ Rise sk ∧ (mv.map Prod.fst).Pairwise (· < ·) ∧ (∀ x ∈ sk, 0 ≤ x ∧ x ≤ 73048) ∧ (∀ m ∈ mv, (0 ≤ m.1 ∧ m.1 ≤ 73048) ∧ 0 ≤ m.2 ∧ m.2 ≤ 73048) ∧ ∀ m ∈ mv, m.1 ∉ sk := by
  unfold lk at h
  split at h
  · omega
  · split at h
    · omega
    · split at h
      · omega
      · split at h
        · omega
        · split at h
          · omega
          · rename_i q1 q2 q3 q4 q5
            rw [Bool.not_eq_false, Bool.and_eq_true, riseB_iff, riseB_iff] at q2
            refine ⟨by omega, by omega, q2.1, rise_pair q2.2, fun x hx => ?_, fun m hm => ?_, fun m hm q => q5 ?_⟩
            · have : ¬ noDay x = true := fun q => q3 (List.any_eq_true.2 ⟨x, hx, q⟩)
              unfold noDay at this
              simpa using this
            · have : ¬ (noDay m.1 || noDay m.2) = true := fun q => q4 (List.any_eq_true.2 ⟨m, hm, q⟩)
              unfold noDay at this
              simp at this
              omega
            · exact List.any_eq_true.2 ⟨m, hm, by simpa using q⟩
end Go.Proofs.YtekminpoiokgfaaGreatDoor

/- Plain mathematics of a day's text: ten signs, four digits, two and two, a line between; and how these signs are read. -/
namespace Go.Proofs.YtekminpoiokgfaaGreatDoor.Cal
open Go

/-- a digit's sign -/
def dgt (k : Int) : UInt8 := UInt8.ofNat (48 + k.toNat)
/-- two digits -/
def two (k : Int) : List UInt8 := [dgt (k / 10), dgt (k % 10)]
/-- four digits -/
def four (k : Int) : List UInt8 := [dgt (k / 1000), dgt (k / 100 % 10), dgt (k / 10 % 10), dgt (k % 10)]
/-- a date's text -/
def txt (y m d : Int) : List UInt8 := four y ++ [45] ++ two m ++ [45] ++ two d

theorem itoa_four (y : Int) (h0 : 1000 ≤ y) (h1 : y ≤ 9999) : Lib.itoa y = four y := by
  obtain ⟨u, rfl⟩ : ∃ u : Nat, y = u := ⟨y.toNat, by omega⟩
  rw [Lib.itoa_nonneg, Lib.decDigits, dif_neg (by omega), Lib.decDigits, dif_neg (by omega), Lib.decDigits_two (by omega) (by omega)]
  unfold four dgt
  have e1 : u / 10 / 10 / 10 = ((u : Int) / 1000).toNat := by omega
  have e2 : u / 10 / 10 % 10 = ((u : Int) / 100 % 10).toNat := by omega
  have e3 : u / 10 % 10 = ((u : Int) / 10 % 10).toNat := by omega
  have e4 : u % 10 = ((u : Int) % 10).toNat := by omega
  rw [e1, e2, e3, e4]; rfl
theorem dec_low (k : Nat) (h : k < 10) : [48] ++ Lib.decDigits k = two k := by
  rw [Lib.decDigits_one h]; unfold two dgt
  have e1 : ((k : Int) / 10).toNat = 0 := by omega
  have e2 : ((k : Int) % 10).toNat = k := by omega
  rw [e1, e2]; rfl
theorem dec_two (k : Nat) (h0 : ¬ k < 10) (h1 : k < 100) : Lib.decDigits k = two k := by
  rw [Lib.decDigits_two h0 h1]; unfold two dgt
  have e1 : ((k : Int) / 10).toNat = k / 10 := by omega
  have e2 : ((k : Int) % 10).toNat = k % 10 := by omega
  rw [e1, e2]
theorem two_length (k : Int) : (two k).length = 2 := rfl
theorem four_length (k : Int) : (four k).length = 4 := rfl
theorem txt_length (y m d : Int) : (txt y m d).length = 10 := rfl
theorem dgt_nat (k : Int) (h0 : 0 ≤ k) (h1 : k ≤ 9) : (dgt k).toNat = 48 + k.toNat := by
  unfold dgt; rw [UInt8.toNat_ofNat']; omega
end Go.Proofs.YtekminpoiokgfaaGreatDoor.Cal

/- The library's own contracts of strconv.Itoa, laid at this program: a number's decimal digits, for every int; and, below a hundred, without a table. -/
namespace Go.Proofs
open Go.Shelf
def Tryz.laysM171_ren : Go.Shelf.Ren := ⟨fun | 171 => 99 | 243 => 127 | 246 => 153 | 283 => 171 | 284 => 172 | 285 => 173 | 286 => 174 | 129 => 97 | 317 => 191 | 318 => 192 | 319 => 193 | 320 => 194 | 337 => 212 | 338 => 213 | n => n, fun | 3 => 3 | 9 => 9 | 2 => 2 | 4 => 4 | 171 => 207 | 0 => 0 | 53 => 136 | 37 => 90 | 5 => 5 | 173 => 209 | 212 => 223 | 51 => 134 | 20 => 20 | 213 => 224 | 46 => 108 | 232 => 264 | 233 => 265 | n => n, fun | 17 => 9 | 18 => 14 | 19 => 15 | n => n⟩
theorem Tryz.laysM171 : Go.Proofs.LaysM.n171 Tryz.prog Tryz.laysM171_ren := {
  mixed := by kernel_rfl
  f129 := Tryz.func97.trans (congrArg some (by kernel_rfl))
  f171 := Tryz.func99.trans (congrArg some (by kernel_rfl))
  f243 := Tryz.func127.trans (congrArg some (by kernel_rfl))
  f246 := Tryz.func153.trans (congrArg some (by kernel_rfl))
  f283 := Tryz.func171.trans (congrArg some (by kernel_rfl))
  f284 := Tryz.func172.trans (congrArg some (by kernel_rfl))
  f285 := Tryz.func173.trans (congrArg some (by kernel_rfl))
  f286 := Tryz.func174.trans (congrArg some (by kernel_rfl))
  f317 := Tryz.func191.trans (congrArg some (by kernel_rfl))
  f318 := Tryz.func192.trans (congrArg some (by kernel_rfl))
  f319 := Tryz.func193.trans (congrArg some (by kernel_rfl))
  f320 := Tryz.func194.trans (congrArg some (by kernel_rfl))
  f337 := Tryz.func212.trans (congrArg some (by kernel_rfl))
  f338 := Tryz.func213.trans (congrArg some (by kernel_rfl))
  t0 := Tryz.underlying0
  a0 := Tryz.isAgg0
  z0 := Tryz.sizeOf0
  v0 := Tryz.zeroValue0
  t2 := Tryz.underlying2
  a2 := Tryz.isAgg2
  z2 := Tryz.sizeOf2
  v2 := Tryz.zeroValue2
  t3 := Tryz.underlying3
  a3 := Tryz.isAgg3
  z3 := Tryz.sizeOf3
  v3 := Tryz.zeroValue3
  t4 := Tryz.underlying4
  a4 := Tryz.isAgg4
  z4 := Tryz.sizeOf4
  v4 := Tryz.zeroValue4
  t5 := Tryz.underlying5
  a5 := Tryz.isAgg5
  z5 := Tryz.sizeOf5
  v5 := Tryz.zeroValue5
  t9 := Tryz.underlying9
  a9 := Tryz.isAgg9
  z9 := Tryz.sizeOf9
  v9 := Tryz.zeroValue9
  t20 := Tryz.underlying20
  a20 := Tryz.isAgg20
  z20 := Tryz.sizeOf20
  v20 := Tryz.zeroValue20
  t37 := Tryz.underlying90
  a37 := Tryz.isAgg90
  z37 := Tryz.sizeOf90
  v37 := Tryz.zeroValue90
  t46 := Tryz.underlying108
  a46 := Tryz.isAgg108
  z46 := Tryz.sizeOf108
  v46 := Tryz.zeroValue108
  t51 := Tryz.underlying134
  a51 := Tryz.isAgg134
  z51 := Tryz.sizeOf134
  v51 := Tryz.zeroValue134
  t53 := Tryz.underlying136
  a53 := Tryz.isAgg136
  z53 := Tryz.sizeOf136
  v53 := Tryz.zeroValue136
  t171 := Tryz.underlying207
  a171 := Tryz.isAgg207
  z171 := Tryz.sizeOf207
  v171 := Tryz.zeroValue207
  t173 := Tryz.underlying209
  a173 := Tryz.isAgg209
  z173 := Tryz.sizeOf209
  v173 := Tryz.zeroValue209
  t212 := Tryz.underlying223
  a212 := Tryz.isAgg223
  z212 := Tryz.sizeOf223
  v212 := Tryz.zeroValue223
  t213 := Tryz.underlying224
  a213 := Tryz.isAgg224
  z213 := Tryz.sizeOf224
  t232 := Tryz.underlying264
  a232 := Tryz.isAgg264
  z232 := Tryz.sizeOf264
  v232 := Tryz.zeroValue264
  t233 := Tryz.underlying265
  a233 := Tryz.isAgg265
  z233 := Tryz.sizeOf265
  v233 := Tryz.zeroValue265
  g17 := by kernel_rfl
  g18 := by kernel_rfl
  g19 := by kernel_rfl
  i0 := by kernel_rfl
  i2 := by kernel_rfl
  i3 := by kernel_rfl
  i4 := by kernel_rfl
  i5 := by kernel_rfl
  i9 := by kernel_rfl
  i20 := by kernel_rfl
  i37 := by kernel_rfl
  i46 := by kernel_rfl
  i51 := by kernel_rfl
  i53 := by kernel_rfl
  i171 := by kernel_rfl
  i173 := by kernel_rfl
  i212 := by kernel_rfl
  i232 := by kernel_rfl
  i233 := by kernel_rfl
  m17 := by kernel_rfl
  m18 := by kernel_rfl
  m19 := by kernel_rfl }
open Go.RowKit Go.Sort Go.Lib in
theorem Tryz.strconv_Itoa (n : Int) (h0 : -9223372036854775808 ≤ n) (h1 : n ≤ 9223372036854775807) (w : World) (htab : Lib.TabIs Tryz.prog w "internal/strconv.uint64pow10" .u64 Lib.pow10Tab) :
    Calls Tryz.prog 99 #[.int .i64 n] w fun e w' => e = .returned (.string ⟨(Lib.itoa n).toArray⟩) ∧ ∃ k os, w' = grow (w.drewN k) os := Any.strconv_Itoa Tryz.laysM171 n h0 h1 w htab
def Tryz.lays171_ren : Go.Shelf.Ren := ⟨fun | 171 => 99 | 243 => 127 | 246 => 153 | 283 => 171 | 284 => 172 | 285 => 173 | 286 => 174 | 129 => 97 | 317 => 191 | 318 => 192 | 319 => 193 | 320 => 194 | 337 => 212 | 338 => 213 | n => n, fun | 3 => 3 | 9 => 9 | 2 => 2 | 4 => 4 | 171 => 207 | 0 => 0 | 53 => 136 | 37 => 90 | 5 => 5 | 173 => 209 | 212 => 223 | 51 => 134 | 20 => 20 | 213 => 224 | 46 => 108 | 232 => 264 | 233 => 265 | n => n, fun | 17 => 9 | 18 => 14 | 19 => 15 | n => n⟩
theorem Tryz.lays171 : Go.Proofs.Lays.n171 Tryz.prog Tryz.lays171_ren := {
  mixed := by kernel_rfl
  f129 := Tryz.func97.trans (congrArg some (by kernel_rfl))
  f171 := Tryz.func99.trans (congrArg some (by kernel_rfl))
  f243 := Tryz.func127.trans (congrArg some (by kernel_rfl))
  f246 := Tryz.func153.trans (congrArg some (by kernel_rfl))
  f283 := Tryz.func171.trans (congrArg some (by kernel_rfl))
  f284 := Tryz.func172.trans (congrArg some (by kernel_rfl))
  f285 := Tryz.func173.trans (congrArg some (by kernel_rfl))
  f286 := Tryz.func174.trans (congrArg some (by kernel_rfl))
  f317 := Tryz.func191.trans (congrArg some (by kernel_rfl))
  f318 := Tryz.func192.trans (congrArg some (by kernel_rfl))
  f319 := Tryz.func193.trans (congrArg some (by kernel_rfl))
  f320 := Tryz.func194.trans (congrArg some (by kernel_rfl))
  f337 := Tryz.func212.trans (congrArg some (by kernel_rfl))
  f338 := Tryz.func213.trans (congrArg some (by kernel_rfl))
  t0 := Tryz.underlying0
  a0 := Tryz.isAgg0
  z0 := Tryz.sizeOf0
  v0 := Tryz.zeroValue0
  t2 := Tryz.underlying2
  a2 := Tryz.isAgg2
  z2 := Tryz.sizeOf2
  v2 := Tryz.zeroValue2
  t3 := Tryz.underlying3
  a3 := Tryz.isAgg3
  z3 := Tryz.sizeOf3
  v3 := Tryz.zeroValue3
  t4 := Tryz.underlying4
  a4 := Tryz.isAgg4
  z4 := Tryz.sizeOf4
  v4 := Tryz.zeroValue4
  t5 := Tryz.underlying5
  a5 := Tryz.isAgg5
  z5 := Tryz.sizeOf5
  v5 := Tryz.zeroValue5
  t9 := Tryz.underlying9
  a9 := Tryz.isAgg9
  z9 := Tryz.sizeOf9
  v9 := Tryz.zeroValue9
  t20 := Tryz.underlying20
  a20 := Tryz.isAgg20
  z20 := Tryz.sizeOf20
  v20 := Tryz.zeroValue20
  t37 := Tryz.underlying90
  a37 := Tryz.isAgg90
  z37 := Tryz.sizeOf90
  v37 := Tryz.zeroValue90
  t46 := Tryz.underlying108
  a46 := Tryz.isAgg108
  z46 := Tryz.sizeOf108
  v46 := Tryz.zeroValue108
  t51 := Tryz.underlying134
  a51 := Tryz.isAgg134
  z51 := Tryz.sizeOf134
  v51 := Tryz.zeroValue134
  t53 := Tryz.underlying136
  a53 := Tryz.isAgg136
  z53 := Tryz.sizeOf136
  v53 := Tryz.zeroValue136
  t171 := Tryz.underlying207
  a171 := Tryz.isAgg207
  z171 := Tryz.sizeOf207
  v171 := Tryz.zeroValue207
  t173 := Tryz.underlying209
  a173 := Tryz.isAgg209
  z173 := Tryz.sizeOf209
  v173 := Tryz.zeroValue209
  t212 := Tryz.underlying223
  a212 := Tryz.isAgg223
  z212 := Tryz.sizeOf223
  v212 := Tryz.zeroValue223
  t213 := Tryz.underlying224
  a213 := Tryz.isAgg224
  z213 := Tryz.sizeOf224
  t232 := Tryz.underlying264
  a232 := Tryz.isAgg264
  z232 := Tryz.sizeOf264
  v232 := Tryz.zeroValue264
  t233 := Tryz.underlying265
  a233 := Tryz.isAgg265
  z233 := Tryz.sizeOf265
  v233 := Tryz.zeroValue265
  g17 := by kernel_rfl
  g18 := by kernel_rfl
  g19 := by kernel_rfl }
open Go.RowKit Go.Sort Go.Lib in
theorem Tryz.strconv_Itoa_small (i : Nat) (hi : i < 100) (w : World) :
    Calls Tryz.prog 99 #[.int .i64 i] w fun e w' => e = .returned (.string ⟨(Lib.decDigits i).toArray⟩) ∧ w' = w := Any.strconv_Itoa_small Tryz.lays171 i hi w
end Go.Proofs

/- Contracts of package day's twoDigits and Text: a day's text is the date's ten signs; no day has the empty one. -/
namespace Go.Proofs.YtekminpoiokgfaaGreatDoor
open Go.RowKit Cal

theorem grow_below (w : World) (q : Nat) (os : Array Obj) : Below w.heap.size w (Sort.grow (w.drewN q) os) :=
  ⟨rfl, rfl, rfl, by simp [Sort.grow], fun k hk => by
    show (w.heap ++ os)[k]? = w.heap[k]?
    rw [Array.getElem?_append_left hk]⟩
theorem ret_str {a b : ByteArray} (h : a = b) : Ending.returned (.string a) = .returned (.string b) := by rw [h]
theorem gPow : Tryz.prog.globalNamed "internal/strconv.uint64pow10" = some 9 := by kernel_rfl
/-- the library's table of powers of ten -/
def Tab (w : World) : Prop := Lib.TabIs Tryz.prog w "internal/strconv.uint64pow10" .u64 Lib.pow10Tab
theorem Tab.step {w w' : World} (h : Tab w) (hb : Below w.heap.size w w') : Tab w' := Joins.tab_stays gPow h hb (Nat.le_refl _)

theorem itoa_year (y : Int) (w : World) (h0 : 1000 ≤ y) (h1 : y ≤ 9999) (ht : Tab w) :
    Calls Tryz.prog 99 #[.int .i64 y] w fun e w' => e = .returned (.string ⟨(four y).toArray⟩) ∧ Below w.heap.size w w' := by
  refine (Tryz.strconv_Itoa y (by omega) (by omega) w ht).mono ?_
  rintro e w' ⟨rfl, k, os, rfl⟩
  exact ⟨by rw [itoa_four y h0 h1], grow_below _ _ _⟩

theorem twoDigits_any (k : Int) (w : World) (h0 : 0 ≤ k) (h1 : k < 100) :
    Calls Tryz.prog 126 #[.int .i64 k] w fun e w' => e = .returned (.string ⟨(two k).toArray⟩) ∧ w' = w := by
  obtain ⟨u, rfl⟩ : ∃ u : Nat, k = u := ⟨k.toNat, by omega⟩
  by_cases hu : u < 10
  · have ht := dec_low u hu
    have hl : (Lib.decDigits u).length = 1 := by rw [Lib.decDigits_one hu]; rfl
    have HT : Hid (_) := ht
    clear ht
    go_enter Tryz.func126, Tryz.ntmps126
    go_wp2_with (go_at_call 99; refine (Tryz.strconv_Itoa_small u (by omega) _).mono ?_; rintro e w' ⟨rfl, rfl⟩)
    go_ret
    exact ⟨ret_str (by rw [← HT.out]; exact ByteArray.mk_append_mk [48] _), rfl⟩
  · have ht := dec_two u hu (by omega)
    have HT : Hid (_) := ht
    clear ht
    go_enter Tryz.func126, Tryz.ntmps126
    go_wp2_with (go_at_call 99; refine (Tryz.strconv_Itoa_small u (by omega) _).mono ?_; rintro e w' ⟨rfl, rfl⟩)
    go_ret
    exact ⟨ret_str (by rw [← HT.out]), rfl⟩

theorem text_ok (n y m d : Int) (w : World) (h : vld y m d) (hn : num y m d = n) (ht : Tab w) :
    Calls Tryz.prog 98 #[.int .i64 n] w fun e w' => e = .returned (.string ⟨(txt y m d).toArray⟩) ∧ Below w.heap.size w w' := by
  have hh := h
  obtain ⟨hy0, hy1, hm0, hm1, hd0, hd1⟩ := hh
  have hd31 := (dim_bd y m).2
  have hl4 := four_length y
  have hl2 := two_length m
  have hl3 := two_length d
  go_enter Tryz.func98, Tryz.ntmps98
  go_wp2_with (first
    | (go_at_call 125; refine (date_ok n y m d _ h hn).mono ?_; rintro e w' ⟨rfl, rfl⟩)
    | (go_at_call 99; refine (itoa_year y _ (by omega) (by omega) ht).mono ?_; rintro e w' ⟨rfl, hb⟩)
    | (go_at_call_of 126 (Value.int .i64 m); refine (twoDigits_any m _ (by omega) (by omega)).mono ?_; rintro e w' ⟨rfl, rfl⟩)
    | (go_at_call_of 126 (Value.int .i64 d); refine (twoDigits_any d _ (by omega) (by omega)).mono ?_; rintro e w' ⟨rfl, rfl⟩))
  go_ret
  exact ⟨ret_str (by unfold txt; simp [ByteArray.mk_append_mk]), hb⟩
end Go.Proofs.YtekminpoiokgfaaGreatDoor
