/- Package event's Check: which error an event has. -/
import Derived.Test.YtijdnmkkdofbeaaGreatDoorEvK
namespace Go.Proofs.YtijdnmkkdofbeaaGreatDoor
open Go Go.RowKit Cal
attribute [local go_sem] Oper.semAt_some

/-- an event's plain data -/
structure EV where
  id : ByteArray
  ti : ByteArray
  st : Int
  lg : Int
  f : ByteArray
  e : Int
  ds : List Int
  c : Int
  u : Int
  sk : List Int
  mv : List (Int × Int)
/-- an event as a value -/
def ev (E : EV) (sl sk mv : Value) : Value := .agg #[.string E.id, .string E.ti, .int .i64 E.st, .int .i64 E.lg, .string E.f, .int .i64 E.e, sl, .int .i64 E.c, .int .i64 E.u, sk, mv]
/-- the box of an event -/
def EB (W : World) (B : Nat) (E : EV) (sl sk mv : Value) : Prop := W.heap[B]? = some (.cells #[.string E.id, .string E.ti, .int .i64 E.st, .int .i64 E.lg, .string E.f, .int .i64 E.e, sl, .int .i64 E.c, .int .i64 E.u, sk, mv] 27 (0, 0))
theorem EB.lt {W : World} {B : Nat} {E : EV} {sl sk mv : Value} (h : EB W B E sl sk mv) : B < W.heap.size := (Array.getElem?_eq_some_iff.1 h).1
theorem EB.step {W W' : World} {B : Nat} {E : EV} {sl sk mv : Value} (h : EB W B E sl sk mv) (hb : Below W.heap.size W W') : EB W' B E sl sk mv := (hb.block _ h.lt).trans h
theorem EB.new (w : World) (E : EV) (sl sk mv : Value) : EB (w.alloc (.cells #[.string E.id, .string E.ti, .int .i64 E.st, .int .i64 E.lg, .string E.f, .int .i64 E.e, sl, .int .i64 E.c, .int .i64 E.u, sk, mv] 27)) w.heap.size E sl sk mv := block_at _ rfl
theorem blk11 {W : World} {n : Nat} {v0 v1 v2 v3 v4 v5 v6 v7 v8 v9 v10 : Value} {t : TypeId} (h : W.heap[n]? = some (.cells #[v0, v1, v2, v3, v4, v5, v6, v7, v8, v9, v10] t (0, 0))) :
    W.cell? ⟨n, 0, none⟩ = some v0 ∧ W.cell? ⟨n, 1, none⟩ = some v1 ∧ W.cell? ⟨n, 2, none⟩ = some v2 ∧ W.cell? ⟨n, 3, none⟩ = some v3 ∧ W.cell? ⟨n, 4, none⟩ = some v4 ∧ W.cell? ⟨n, 5, none⟩ = some v5 ∧
      W.cell? ⟨n, 6, none⟩ = some v6 ∧ W.cell? ⟨n, 7, none⟩ = some v7 ∧ W.cell? ⟨n, 8, none⟩ = some v8 ∧ W.cell? ⟨n, 9, none⟩ = some v9 ∧ W.cell? ⟨n, 10, none⟩ = some v10 := by
  refine ⟨?_, ?_, ?_, ?_, ?_, ?_, ?_, ?_, ?_, ?_, ?_⟩ <;> simp [World.cell?, h]

/-- the bounds of a start and of a length -/
def bE (st lg : Int) : Prop := (0 ≤ st ∧ st ≤ 73048) ∧ 1 ≤ lg ∧ lg ≤ 60
/-- the number of an event's error -/
def EvK (E : EV) (k : Int) : Prop :=
  (¬ okID E.id ∧ k = 4) ∨ (okID E.id ∧ ¬ okTi E.ti ∧ k = 1) ∨ (okID E.id ∧ okTi E.ti ∧ ¬ bE E.st E.lg ∧ k = 2) ∨
    (okID E.id ∧ okTi E.ti ∧ bE E.st E.lg ∧ ∃ kr, ErrK E.f E.e E.ds E.c E.u kr ∧ ((kr ≠ 0 ∧ k = kr) ∨ (kr = 0 ∧ k = lk E.sk E.mv)))
/-- an event that is well -/
structure EW (E : EV) : Prop where
  id : okID E.id
  ti : okTi E.ti
  bd : bE E.st E.lg
  rl : Well (rd E.f E.e E.ds E.c E.u)
  ls : lk E.sk E.mv = 0
theorem evK_ex (E : EV) : ∃ k, EvK E k := by
  by_cases h1 : okID E.id
  · by_cases h2 : okTi E.ti
    · by_cases h3 : bE E.st E.lg
      · obtain ⟨kr, hk⟩ := errK_ex E.f E.e E.ds E.c E.u
        by_cases h4 : kr = 0
        · exact ⟨_, .inr (.inr (.inr ⟨h1, h2, h3, kr, hk, .inr ⟨h4, rfl⟩⟩))⟩
        · exact ⟨_, .inr (.inr (.inr ⟨h1, h2, h3, kr, hk, .inl ⟨h4, rfl⟩⟩))⟩
      · exact ⟨_, .inr (.inr (.inl ⟨h1, h2, h3, rfl⟩))⟩
    · exact ⟨_, .inr (.inl ⟨h1, h2, rfl⟩)⟩
  · exact ⟨_, .inl ⟨h1, rfl⟩⟩
theorem evK_0 {E : EV} {k : Int} (h : EvK E k) : k = 0 ↔ EW E := by
  rcases h with ⟨h1, rfl⟩ | ⟨h1, h2, rfl⟩ | ⟨h1, h2, h3, rfl⟩ | ⟨h1, h2, h3, kr, hk, (⟨h4, rfl⟩ | ⟨rfl, rfl⟩)⟩
  · exact ⟨fun q => absurd q (by decide), fun q => absurd q.id h1⟩
  · exact ⟨fun q => absurd q (by decide), fun q => absurd q.ti h2⟩
  · exact ⟨fun q => absurd q (by decide), fun q => absurd q.bd h3⟩
  · exact ⟨fun q => absurd q h4, fun q => absurd ((errK_0 hk).2 q.rl) h4⟩
  · exact ⟨fun q => ⟨h1, h2, h3, (errK_0 hk).1 rfl, q⟩, fun q => q.ls⟩
theorem evK_bd {E : EV} {k : Int} (h : EvK E k) : k = 0 ∨ (1 ≤ k ∧ k ≤ 8) := by
  rcases h with ⟨h1, rfl⟩ | ⟨h1, h2, rfl⟩ | ⟨h1, h2, h3, rfl⟩ | ⟨h1, h2, h3, kr, hk, (⟨h4, rfl⟩ | ⟨rfl, rfl⟩)⟩
  · omega
  · omega
  · omega
  · have := errK_bd hk; omega
  · have := lk_bd E.sk E.mv; omega
theorem errV_ne {s : Nat → Addr} {k : Int} (h : k ≠ 0) : ∃ p, errV s k = .iface 181 (.pointer (some p)) := by
  unfold errV; rw [if_neg h]; exact ⟨_, rfl⟩

set_option maxHeartbeats 2000000 in
theorem evCheck_k (E : EV) (sl skv mvv : Value) (k : Int) (s : Nat → Addr) (w : World) (g : GlobK s w) (hd : Days w sl E.ds) (hs : Ints w skv E.sk) (hm : Movs w mvv E.mv) (h30 : E.id.size ≤ 60) (h60 : E.ti.size ≤ 60) (hk : EvK E k) :
    Calls Tryz.prog 17 #[ev E sl skv mvv] w fun r w' => r = .returned (errV s k) ∧ Below w.heap.size w w' := by
  have hA := below_alloc w (.cells #[.string E.id, .string E.ti, .int .i64 E.st, .int .i64 E.lg, .string E.f, .int .i64 E.e, sl, .int .i64 E.c, .int .i64 E.u, skv, mvv] 27)
  have hB := EB.new w E sl skv mvv
  obtain ⟨id, ti, st, lg, f, e, ds, c, u, sk, mv⟩ := E
  dsimp only at *
  unfold ev EB at *
  dsimp only at *
  have HG : Hid (GlobK s _) := g.step hA
  have HD : Hid (Days _ sl ds) := hd.step hA
  have HS : Hid (Ints _ skv sk) := hs.step hA
  have HM : Hid (Movs _ mvv mv) := hm.step hA
  obtain ⟨ra, rc, rfl, _⟩ := hd
  obtain ⟨sa, sc, rfl, _⟩ := hs
  obtain ⟨ma, mc, rfl, _⟩ := hm
  have HA : Hid (_) := hA
  clear hA g
  generalize hw0 : w.alloc (.cells #[.string id, .string ti, .int .i64 st, .int .i64 lg, .string f, .int .i64 e, .slice ra ds.length rc, .int .i64 c, .int .i64 u, .slice sa sk.length sc, .slice ma mv.length mc] 27) = w0 at HG HD HS HM HA hB
  obtain ⟨x0, x1, x2, x3, x4, x5, x6, x7, x8, x9, x10⟩ := blk11 hB
  have BX : Hid (∀ W, Below w0.heap.size w0 W → _) := fun W h => blk11 ((h.block _ (Array.getElem?_eq_some_iff.1 hB).1).trans hB)
  have HK : Hid (EvK _ k) := hk
  clear hk hB
  by_cases h1 : okID id
  case neg =>
    have EK : Hid (errV s k = .iface 181 (.pointer (some (s 3)))) := by
      refine errV_of (m := 4) ?_ (by decide)
      rcases HK.out with q | q | q | q
      · exact q.2
      · exact absurd q.1 h1
      · exact absurd q.1 h1
      · exact absurd q.1 h1
    have r3 := HG.out.c3
    have I : Hid (∀ W, _) := fun W => isID_any id W h30 false ⟨fun q => absurd q (by decide), fun q => absurd q h1⟩
    clear HK HD HS HM BX h1 HG
    go_enter Tryz.func17, Tryz.ntmps17
    go_wp2_with (go_at_call 34; refine (I.out _).mono ?_; rintro r w1 ⟨rfl, rfl⟩)
    go_ret
    exact ⟨(by rw [EK.out]; rfl), HA.out⟩
  case pos =>
  have I : Hid (∀ W, _) := fun W => isID_any id W h30 true ⟨fun _ => h1, fun _ => rfl⟩
  by_cases h2 : okTi ti
  case neg =>
    have EK : Hid (errV s k = .iface 181 (.pointer (some (s 0)))) := by
      refine errV_of (m := 1) ?_ (by decide)
      rcases HK.out with q | q | q | q
      · exact absurd h1 q.1
      · exact q.2.2
      · exact absurd q.2.1 h2
      · exact absurd q.2.1 h2
    have T : Hid (∀ W, _) := fun W => isTitle_any ti W h60 false ⟨fun q => absurd q (by decide), fun q => absurd q h2⟩
    clear HK HD HS HM BX h1 h2
    go_enter Tryz.func17, Tryz.ntmps17
    go_wp2_with (first
      | (go_at_call 34; refine (I.out _).mono ?_; rintro r w1 ⟨rfl, rfl⟩)
      | (go_at_call 35; refine (T.out _).mono ?_; rintro r w1 ⟨rfl, hb1⟩; have r0 := (HG.out.step hb1).c0))
    go_ret
    exact ⟨(by rw [EK.out]; rfl), below_then HA.out hb1⟩
  case pos =>
  have T : Hid (∀ W, _) := fun W => isTitle_any ti W h60 true ⟨fun _ => h2, fun _ => rfl⟩
  have D : Hid (∀ W, Calls Tryz.prog 24 #[.int .i64 st] W fun r w' => r = .returned (.bool (decide (0 ≤ st ∧ st ≤ 73048))) ∧ w' = W) := fun W => eisDay_any st W _ (by simp)
  by_cases h3 : bE st lg
  case neg =>
    have EK : Hid (errV s k = .iface 181 (.pointer (some (s 1)))) := by
      refine errV_of (m := 2) ?_ (by decide)
      rcases HK.out with q | q | q | q
      · exact absurd h1 q.1
      · exact absurd h2 q.2.1
      · exact q.2.2.2
      · exact absurd q.2.2.1 h3
    have h4 : decide (0 ≤ st ∧ st ≤ 73048) = false ∨ (decide (0 ≤ st ∧ st ≤ 73048) = true ∧ lg < 1) ∨ (decide (0 ≤ st ∧ st ≤ 73048) = true ∧ 1 ≤ lg ∧ 60 < lg) := by
      unfold bE at h3
      rw [decide_eq_false_iff_not, decide_eq_true_iff]
      omega
    clear HK HD HS HM h1 h2 h3
    generalize decide (0 ≤ st ∧ st ≤ 73048) = b at D h4
    rcases h4 with rfl | ⟨rfl, h4⟩ | ⟨rfl, h4, h5⟩
    all_goals
      go_enter Tryz.func17, Tryz.ntmps17
      go_wp2_with (first
        | (go_at_call 34; refine (I.out _).mono ?_; rintro r w1 ⟨rfl, rfl⟩)
        | (go_at_call 35; refine (T.out _).mono ?_; rintro r w1 ⟨rfl, hb1⟩; have r1 := (HG.out.step hb1).c1; obtain ⟨y0, y1, y2, y3, y4, y5, y6, y7, y8, y9, y10⟩ := BX.out _ hb1)
        | (go_at_call 24; refine (D.out _).mono ?_; rintro r w2 ⟨rfl, rfl⟩))
      go_ret
      exact ⟨(by rw [EK.out]; rfl), below_then HA.out hb1⟩
  case pos =>
  have hd1 : decide (0 ≤ st ∧ st ≤ 73048) = true := decide_eq_true h3.1
  rw [hd1] at D
  obtain ⟨hl1, hl2⟩ : 1 ≤ lg ∧ lg ≤ 60 := h3.2
  have EX : Hid (∃ kr, ErrK f e ds c u kr ∧ ((kr ≠ 0 ∧ k = kr) ∨ (kr = 0 ∧ k = lk sk mv))) := by
    rcases HK.out with q | q | q | q
    · exact absurd h1 q.1
    · exact absurd h2 q.2.1
    · exact absurd h3 q.2.2.1
    · exact q.2.2.2
  obtain ⟨kr, hkr, hcase⟩ := EX.out
  have RC : Hid (∀ W, Below w0.heap.size w0 W → Calls Tryz.prog 36 #[.agg #[.string f, .int .i64 e, .slice ra ds.length rc, .int .i64 c, .int .i64 u]] W fun r w' => r = .returned (errV s kr) ∧ Below W.heap.size W w') := fun W h => rcheck_k f e _ c u ds kr s W (HG.out.step h) (HD.out.step h) hkr
  have LC : Hid (∀ W, Below w0.heap.size w0 W → Calls Tryz.prog 37 #[.slice sa sk.length sc, .slice ma mv.length mc] W fun r w' => r = .returned (errV s (lk sk mv)) ∧ Below W.heap.size W w') := fun W h => checkLists_k sk mv _ _ s W (HG.out.step h) (HS.out.step h) (HM.out.step h)
  clear HK h1 h2 h3 hd1 hkr HD HS HM EX
  rcases hcase with ⟨q1, q2⟩ | ⟨q1, q2⟩
  · obtain ⟨p, hp⟩ := errV_ne (s := s) q1
    have EK : Hid (errV s k = .iface 181 (.pointer (some p))) := by show _ = _; rw [q2]; exact hp
    rw [hp] at RC
    clear q1 q2 LC hp
    go_enter Tryz.func17, Tryz.ntmps17
    go_wp2_with (first
      | (go_at_call 34; refine (I.out _).mono ?_; rintro r w1 ⟨rfl, rfl⟩)
      | (go_at_call 35; refine (T.out _).mono ?_; rintro r w1 ⟨rfl, hb1⟩; obtain ⟨y0, y1, y2, y3, y4, y5, y6, y7, y8, y9, y10⟩ := BX.out _ hb1)
      | (go_at_call 24; refine (D.out _).mono ?_; rintro r w2 ⟨rfl, rfl⟩)
      | (go_at_call 36; refine (RC.out _ hb1).mono ?_; rintro r w2 ⟨rfl, hb2⟩))
    go_ret
    exact ⟨(by rw [EK.out]; rfl), below_then HA.out (below_then hb1 hb2)⟩
  · rw [q1, errV_0] at RC
    rw [← q2] at LC
    clear q1 q2
    generalize errV s k = er at LC ⊢
    go_enter Tryz.func17, Tryz.ntmps17
    go_wp2_with (first
      | (go_at_call 34; refine (I.out _).mono ?_; rintro r w1 ⟨rfl, rfl⟩)
      | (go_at_call 35; refine (T.out _).mono ?_; rintro r w1 ⟨rfl, hb1⟩; obtain ⟨y0, y1, y2, y3, y4, y5, y6, y7, y8, y9, y10⟩ := BX.out _ hb1)
      | (go_at_call 24; refine (D.out _).mono ?_; rintro r w2 ⟨rfl, rfl⟩)
      | (go_at_call 36; refine (RC.out _ hb1).mono ?_; rintro r w2 ⟨rfl, hb2⟩; have h2 := below_then hb1 hb2; obtain ⟨z0, z1, z2, z3, z4, z5, z6, z7, z8, z9, z10⟩ := BX.out _ h2)
      | (go_at_call 37; refine (LC.out _ h2).mono ?_; rintro r w3 ⟨rfl, hb3⟩))
    go_ret
    exact ⟨rfl, below_then HA.out (below_then h2 hb3)⟩
theorem lk_of {sk : List Int} {mv : List (Int × Int)} (h : lk sk mv = 0) : sk.length ≤ 20 ∧ mv.length ≤ 20 ∧ Rise sk ∧ (mv.map Prod.fst).Pairwise (· < ·) ∧ (∀ x ∈ sk, 0 ≤ x ∧ x ≤ 73048) ∧ (∀ m ∈ mv, (0 ≤ m.1 ∧ m.1 ≤ 73048) ∧ 0 ≤ m.2 ∧ m.2 ≤ 73048) ∧ ∀ m ∈ mv, m.1 ∉ sk := by
  unfold lk at h
  split at h
  · omega
  · split at h
    · omega
    · split at h
      · omega
      · split at h
        · omega
        · split at h
          · omega
          · rename_i q1 q2 q3 q4 q5
            rw [Bool.not_eq_false, Bool.and_eq_true, riseB_iff, riseB_iff] at q2
            refine ⟨by omega, by omega, q2.1, rise_pair q2.2, fun x hx => ?_, fun m hm => ?_, fun m hm q => q5 ?_⟩
            · have : ¬ noDay x = true := fun q => q3 (List.any_eq_true.2 ⟨x, hx, q⟩)
              unfold noDay at this
              simpa using this
            · have : ¬ (noDay m.1 || noDay m.2) = true := fun q => q4 (List.any_eq_true.2 ⟨m, hm, q⟩)
              unfold noDay at this
              simp at this
              omega
            · exact List.any_eq_true.2 ⟨m, hm, by simpa using q⟩
end Go.Proofs.YtijdnmkkdofbeaaGreatDoor
