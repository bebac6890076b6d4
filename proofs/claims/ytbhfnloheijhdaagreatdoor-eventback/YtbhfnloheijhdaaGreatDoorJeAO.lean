/- An event's eleven cells, all written; lists that lie elsewhere. -/
import Derived.Test.YtbhfnloheijhdaaGreatDoorEvL2P
import Derived.Test.YtbhfnloheijhdaaGreatDoorJeAN
namespace Go.Proofs.YtbhfnloheijhdaaGreatDoor
open Go Go.RowKit Cal

/-- the zero event -/
def zV : Value := .agg #[.string ⟨#[]⟩, .string ⟨#[]⟩, .int .i64 0, .int .i64 0, .string ⟨#[]⟩, .int .i64 0, .slice none 0 0, .int .i64 0, .int .i64 0, .slice none 0 0, .slice none 0 0]
/-- an event's eleven cells, all written -/
def put11 (W : World) (B : Nat) (v0 v1 v2 v3 v4 v5 v6 v7 v8 v9 v10 : Value) : World := (((((((((((W.setCell ⟨B, 0, none⟩ v0).setCell ⟨B, 1, none⟩ v1).setCell ⟨B, 2, none⟩ v2).setCell ⟨B, 3, none⟩ v3).setCell ⟨B, 4, none⟩ v4).setCell ⟨B, 5, none⟩ v5).setCell ⟨B, 6, none⟩ v6).setCell ⟨B, 7, none⟩ v7).setCell ⟨B, 8, none⟩ v8).setCell ⟨B, 9, none⟩ v9).setCell ⟨B, 10, none⟩ v10)
theorem put11_fold (W : World) (B : Nat) (v0 v1 v2 v3 v4 v5 v6 v7 v8 v9 v10 : Value) : (((((((((((W.setCell ⟨B, 0, none⟩ v0).setCell ⟨B, 1, none⟩ v1).setCell ⟨B, 2, none⟩ v2).setCell ⟨B, 3, none⟩ v3).setCell ⟨B, 4, none⟩ v4).setCell ⟨B, 5, none⟩ v5).setCell ⟨B, 6, none⟩ v6).setCell ⟨B, 7, none⟩ v7).setCell ⟨B, 8, none⟩ v8).setCell ⟨B, 9, none⟩ v9).setCell ⟨B, 10, none⟩ v10) = put11 W B v0 v1 v2 v3 v4 v5 v6 v7 v8 v9 v10 := rfl
theorem put11_grown (W : World) (B : Nat) (v0 v1 v2 v3 v4 v5 v6 v7 v8 v9 v10 : Value) : W.grownBy (put11 W B v0 v1 v2 v3 v4 v5 v6 v7 v8 v9 v10) (some B) := (grown_then (grown_then (grown_then (grown_then (grown_then (grown_then (grown_then (grown_then (grown_then (grown_then (grown_set _ ⟨B, 0, none⟩ _) (grown_set _ ⟨B, 1, none⟩ _)) (grown_set _ ⟨B, 2, none⟩ _)) (grown_set _ ⟨B, 3, none⟩ _)) (grown_set _ ⟨B, 4, none⟩ _)) (grown_set _ ⟨B, 5, none⟩ _)) (grown_set _ ⟨B, 6, none⟩ _)) (grown_set _ ⟨B, 7, none⟩ _)) (grown_set _ ⟨B, 8, none⟩ _)) (grown_set _ ⟨B, 9, none⟩ _)) (grown_set _ ⟨B, 10, none⟩ _))
theorem put11_blk {W : World} {B : Nat} {u0 u1 u2 u3 u4 u5 u6 u7 u8 u9 u10 : Value} {t : TypeId} {fr : Nat × Nat} (v0 v1 v2 v3 v4 v5 v6 v7 v8 v9 v10 : Value) (h : W.heap[B]? = some (.cells #[u0, u1, u2, u3, u4, u5, u6, u7, u8, u9, u10] t fr)) : (put11 W B v0 v1 v2 v3 v4 v5 v6 v7 v8 v9 v10).heap[B]? = some (.cells #[v0, v1, v2, v3, v4, v5, v6, v7, v8, v9, v10] t fr) :=
  (set11_10 v10 (set11_9 v9 (set11_8 v8 (set11_7 v7 (set11_6 v6 (set11_5 v5 (set11_4 v4 (set11_3 v3 (set11_2 v2 (set11_1 v1 (set11_0 v0 h)))))))))))
/-- the rule's five cells within an event, all written -/
def put5 (W : World) (B : Nat) (r0 r1 r2 r3 r4 : Value) : World := (((((W.setCell ⟨B, 4, none⟩ r0).setCell ⟨B, 5, none⟩ r1).setCell ⟨B, 6, none⟩ r2).setCell ⟨B, 7, none⟩ r3).setCell ⟨B, 8, none⟩ r4)
theorem put5_fold (W : World) (B : Nat) (r0 r1 r2 r3 r4 : Value) : (((((W.setCell ⟨B, 4, none⟩ r0).setCell ⟨B, 5, none⟩ r1).setCell ⟨B, 6, none⟩ r2).setCell ⟨B, 7, none⟩ r3).setCell ⟨B, 8, none⟩ r4) = put5 W B r0 r1 r2 r3 r4 := rfl
theorem put5_grown (W : World) (B : Nat) (r0 r1 r2 r3 r4 : Value) : W.grownBy (put5 W B r0 r1 r2 r3 r4) (some B) := (grown_then (grown_then (grown_then (grown_then (grown_set _ ⟨B, 4, none⟩ _) (grown_set _ ⟨B, 5, none⟩ _)) (grown_set _ ⟨B, 6, none⟩ _)) (grown_set _ ⟨B, 7, none⟩ _)) (grown_set _ ⟨B, 8, none⟩ _))
theorem put5_blk {W : World} {B : Nat} {u0 u1 u2 u3 u4 u5 u6 u7 u8 u9 u10 : Value} {t : TypeId} {fr : Nat × Nat} (r0 r1 r2 r3 r4 : Value) (h : W.heap[B]? = some (.cells #[u0, u1, u2, u3, u4, u5, u6, u7, u8, u9, u10] t fr)) : (put5 W B r0 r1 r2 r3 r4).heap[B]? = some (.cells #[u0, u1, u2, u3, r0, r1, r2, r3, r4, u9, u10] t fr) :=
  set11_8 r4 (set11_7 r3 (set11_6 r2 (set11_5 r1 (set11_4 r0 h))))

/-- a list of numbers, not in blocks of N -/
def OffI (N : Nat → Prop) (W : World) (v : Value) (xs : List Int) : Prop :=
  ∃ (a : Option Addr) (c : Nat), v = .slice a xs.length c ∧ xs.length ≤ 60 ∧ xs.length ≤ c ∧ ∀ (j : Nat) (h : j < xs.length), ∃ b : Nat, a = some ⟨b, 0, none⟩ ∧ ¬ N b ∧ b < W.heap.size ∧ W.cell? ⟨b, j, none⟩ = some (.int .i64 xs[j])
def OffM (N : Nat → Prop) (W : World) (v : Value) (ms : List (Int × Int)) : Prop :=
  ∃ (a : Option Addr) (c : Nat), v = .slice a ms.length c ∧ ms.length ≤ 60 ∧ ms.length ≤ c ∧ ∀ (j : Nat) (h : j < ms.length), ∃ b : Nat, a = some ⟨b, 0, none⟩ ∧ ¬ N b ∧ b < W.heap.size ∧ W.cell? ⟨b, j * 2, none⟩ = some (.int .i64 ms[j].1) ∧ W.cell? ⟨b, j * 2 + 1, none⟩ = some (.int .i64 ms[j].2)
theorem OffI.grown {N : Nat → Prop} {B : Nat} {W W' : World} {v : Value} {xs : List Int} (h : OffI N W v xs) (hN : N B) (hg : W.grownBy W' (some B)) : OffI N W' v xs := by
  obtain ⟨a, c, h1, h2, h3, h4⟩ := h
  refine ⟨a, c, h1, h2, h3, fun j hj => ?_⟩
  obtain ⟨b, e, hb, hl, hc⟩ := h4 j hj
  exact ⟨b, e, hb, Nat.lt_of_lt_of_le hl hg.size, grown_cell hg hc (fun q => hb (q ▸ hN))⟩
theorem OffM.grown {N : Nat → Prop} {B : Nat} {W W' : World} {v : Value} {xs : List (Int × Int)} (h : OffM N W v xs) (hN : N B) (hg : W.grownBy W' (some B)) : OffM N W' v xs := by
  obtain ⟨a, c, h1, h2, h3, h4⟩ := h
  refine ⟨a, c, h1, h2, h3, fun j hj => ?_⟩
  obtain ⟨b, e, hb, hl, hc, hd⟩ := h4 j hj
  exact ⟨b, e, hb, Nat.lt_of_lt_of_le hl hg.size, grown_cell hg hc (fun q => hb (q ▸ hN)), grown_cell hg hd (fun q => hb (q ▸ hN))⟩
theorem OffI.ints {N : Nat → Prop} {W : World} {v : Value} {xs : List Int} (h : OffI N W v xs) : Ints W v xs := by
  obtain ⟨a, c, h1, h2, h3, h4⟩ := h
  refine ⟨a, c, h1, by omega, h3, fun j hj => ?_⟩
  obtain ⟨b, e, _, hl, hc⟩ := h4 j hj
  exact ⟨b, e, hl, hc⟩
theorem ints_days {W : World} {v : Value} {xs : List Int} (h : Ints W v xs) (h20 : xs.length ≤ 20) : Days W v xs := by
  obtain ⟨a, c, h1, h2, h3, h4⟩ := h
  exact ⟨a, c, h1, h20, h3, h4⟩
theorem days_ints {W : World} {v : Value} {xs : List Int} (h : Days W v xs) : Ints W v xs := by
  obtain ⟨a, c, h1, h2, h3, h4⟩ := h
  exact ⟨a, c, h1, by omega, h3, h4⟩
theorem OffM.movs {N : Nat → Prop} {W : World} {v : Value} {xs : List (Int × Int)} (h : OffM N W v xs) : Movs W v xs := by
  obtain ⟨a, c, h1, h2, h3, h4⟩ := h
  refine ⟨a, c, h1, by omega, h3, fun j hj => ?_⟩
  obtain ⟨b, e, _, hl, hc⟩ := h4 j hj
  exact ⟨b, e, hl, hc⟩
theorem ints_off {W : World} {v : Value} {xs : List Int} (h : Ints W v xs) (h30 : xs.length ≤ 60) {N : Nat → Prop} (hN : ∀ n, N n → W.heap.size ≤ n) : OffI N W v xs := by
  obtain ⟨a, c, h1, h2, h3, h4⟩ := h
  refine ⟨a, c, h1, h30, h3, fun j hj => ?_⟩
  obtain ⟨b, e, hl, hc⟩ := h4 j hj
  exact ⟨b, e, fun q => by have := hN b q; omega, hl, hc⟩
theorem movs_off {W : World} {v : Value} {xs : List (Int × Int)} (h : Movs W v xs) (h30 : xs.length ≤ 60) {N : Nat → Prop} (hN : ∀ n, N n → W.heap.size ≤ n) : OffM N W v xs := by
  obtain ⟨a, c, h1, h2, h3, h4⟩ := h
  refine ⟨a, c, h1, h30, h3, fun j hj => ?_⟩
  obtain ⟨b, e, hl, hc⟩ := h4 j hj
  exact ⟨b, e, fun q => by have := hN b q; omega, hl, hc⟩
theorem OffI.nil (N : Nat → Prop) (W : World) (c : Nat) : OffI N W (.slice none 0 c) [] := ⟨none, c, rfl, by simp, by simp, fun j h => absurd h (by simp)⟩
theorem OffM.nil (N : Nat → Prop) (W : World) (c : Nat) : OffM N W (.slice none 0 c) [] := ⟨none, c, rfl, by simp, by simp, fun j h => absurd h (by simp)⟩
theorem ow_off {N : Nat → Prop} {base : Nat} {W : World} {v : Value} {xs : List Int} (h : Ow base W v xs) (hN : ∀ n, N n → n < base) (h30 : xs.length ≤ 60) : OffI N W v xs := by
  rcases h.2 with ⟨rfl, h0⟩ | ⟨g, cap, cur, rfl, hb, hg, hcap, hmax, hsz, htake⟩
  · rw [List.length_eq_zero_iff.1 h0]; exact OffI.nil N W 0
  · refine ⟨_, cap, rfl, h30, hcap, fun j hj => ⟨g, rfl, fun q => by have := hN g q; omega, (Array.getElem?_eq_some_iff.1 hg).1, ?_⟩⟩
    have := World.ownsRow.cellAt h j (by omega)
    rw [this, List.getElem?_map, List.getElem?_eq_getElem hj]; rfl
theorem owm_off {N : Nat → Prop} {base : Nat} {W : World} {v : Value} {xs : List (Int × Int)} (h : OwM base W v xs) (hN : ∀ n, N n → n < base) (h30 : xs.length ≤ 60) : OffM N W v xs := by
  rcases h.2 with ⟨rfl, h0⟩ | ⟨g, cap, cur, rfl, hb, hg, hcap, hmax, hsz, htake⟩
  · rw [List.length_eq_zero_iff.1 h0]; exact OffM.nil N W 0
  · refine ⟨_, cap, rfl, h30, hcap, fun j hj => ?_⟩
    obtain ⟨c1, c2⟩ := owm_cell hg htake j hj
    exact ⟨g, rfl, fun q => by have := hN g q; omega, (Array.getElem?_eq_some_iff.1 hg).1, c1, c2⟩
/-- an event's lists, not in blocks of N -/
structure Off (N : Nat → Prop) (W : World) (E : EV) (sl skv mvv : Value) : Prop where
  d : OffI N W sl E.ds
  s : OffI N W skv E.sk
  m : OffM N W mvv E.mv
theorem Off.grown {N : Nat → Prop} {B : Nat} {W W' : World} {E : EV} {sl skv mvv : Value} (h : Off N W E sl skv mvv) (hN : N B) (hg : W.grownBy W' (some B)) : Off N W' E sl skv mvv := ⟨h.d.grown hN hg, h.s.grown hN hg, h.m.grown hN hg⟩
end Go.Proofs.YtbhfnloheijhdaaGreatDoor

/- Package event's fill: a field of an event, read of its text; the fields' names; Copy. -/
namespace Go.Proofs.YtbhfnloheijhdaaGreatDoor
open Go Go.RowKit Cal
attribute [local go_sem] Oper.semAt_some

/-- an event with one field of another's -/
def upd (E F : EV) : Nat → EV
  | 0 => { E with ti := F.ti }
  | 1 => { E with st := F.st }
  | 2 => { E with lg := F.lg }
  | 3 => { E with f := F.f, e := F.e, ds := F.ds, c := F.c, u := F.u }
  | 4 => { E with sk := F.sk }
  | _ => { E with mv := F.mv }
theorem bs_own (s : ByteArray) : bs s.data.toList = s := ba_ext rfl

theorem shaped_any (E : EV) (k : Nat) (hk : k < 6) (w : World) (hw : EW E) (ht : Tab w) :
    Calls Tryz.prog 41 #[.string (fldB k), .string (bs (fT E k))] w fun r w' => r = .returned (.bool true) ∧ Below w.heap.size w w' := by
  obtain ⟨k20, m20, _⟩ := lk_of hw.ls
  match k, hk with
  | 0, _ =>
    generalize bs (fT E 0) = sb
    unfold fldB
    go_enter Tryz.func41, Tryz.ntmps41
    go_wp2
    go_ret
    exact ⟨rfl, Below.refl _ _⟩
  | 1, _ =>
    generalize bs (fT E 1) = sb
    unfold fldB
    go_enter Tryz.func41, Tryz.ntmps41
    go_wp2
    go_ret
    exact ⟨rfl, Below.refl _ _⟩
  | 2, _ =>
    have R : Hid (Calls _ _ _ _ _) := ereadNumber_any E.lg w (by have := hw.bd.2.1; omega) (by have := hw.bd.2.2; omega) ht
    show Calls _ _ #[.string (fldB 2), .string (bs (Lib.itoa E.lg))] _ _
    generalize bs (Lib.itoa E.lg) = sb at R ⊢
    unfold fldB
    go_enter Tryz.func41, Tryz.ntmps41
    go_wp2_with (go_at_call 84; refine Calls.mono R.out ?_; rintro r w1 ⟨rfl, hb1⟩)
    go_ret
    exact ⟨rfl, hb1⟩
  | 3, _ =>
    generalize bs (fT E 3) = sb
    unfold fldB
    go_enter Tryz.func41, Tryz.ntmps41
    go_wp2
    go_ret
    exact ⟨rfl, Below.refl _ _⟩
  | 4, _ =>
    generalize bs (fT E 4) = sb
    unfold fldB
    go_enter Tryz.func41, Tryz.ntmps41
    go_wp2
    go_ret
    exact ⟨rfl, Below.refl _ _⟩
  | 5, _ =>
    have R : Hid (Calls _ _ _ _ _) := areMoves_any E.mv w (by omega)
    show Calls _ _ #[.string (fldB 5), .string (bs (Lib.join (E.mv.map mtx) [44]))] _ _
    generalize bs (Lib.join (E.mv.map mtx) [44]) = sb at R ⊢
    unfold fldB
    go_enter Tryz.func41, Tryz.ntmps41
    go_wp2_with (go_at_call 85; refine Calls.mono R.out ?_; rintro r w1 ⟨rfl, hb1⟩)
    go_ret
    exact ⟨rfl, hb1⟩

set_option maxHeartbeats 4000000 in
set_option maxRecDepth 100000 in
theorem fill_any (E F : EV) (sl skv mvv : Value) (k : Nat) (hk : k < 6) (B : Nat) (N : Nat → Prop) (hN : N B) (w : World) (hN2 : ∀ n, N n → n < w.heap.size) (g : GlobR w) (hB : EB w B E sl skv mvv) (hO : Off N w E sl skv mvv) (hw : EW F) (h20 : F.ds.length ≤ 20) :
    Calls Tryz.prog 42 #[.pointer (some ⟨B, 0, none⟩), .string (fldB k), .string (bs (fT F k))] w fun r w' => r = .returned .nilIface ∧ w.grownBy w' (some B) ∧ ∃ sl' skv' mvv', EB w' B (upd E F k) sl' skv' mvv' ∧ Off N w' (upd E F k) sl' skv' mvv' := by
  obtain ⟨k20, m20, _, _, kd, md, _⟩ := lk_of hw.ls
  match k, hk with
  | 0, _ =>
    show Calls _ _ #[_, .string (fldB 0), .string (bs F.ti.data.toList)] _ _
    rw [bs_own]
    have HBX : Hid (EB w B E sl skv mvv) := hB
    have HOX : Hid (Off N w E sl skv mvv) := hO
    obtain ⟨x0, x1, x2, x3, x4, x5, x6, x7, x8, x9, x10⟩ := blk11 (show w.heap[B]? = _ from hB)
    have z := blk11_frozen (show w.heap[B]? = _ from hB) 1
    unfold fldB
    go_enter Tryz.func42, Tryz.ntmps42
    go_wp2
    go_ret
    exact ⟨rfl, grown_set _ ⟨B, 1, none⟩ _, sl, skv, mvv, set11_1 (.string F.ti) HBX.out, (HOX.out.grown hN (grown_set _ ⟨B, 1, none⟩ _) : Off N _ E sl skv mvv).d, (HOX.out.grown hN (grown_set _ ⟨B, 1, none⟩ _) : Off N _ E sl skv mvv).s, (HOX.out.grown hN (grown_set _ ⟨B, 1, none⟩ _) : Off N _ E sl skv mvv).m⟩
  | 1, _ =>
    have R : Hid (Calls _ _ _ _ _) := readDay_any F.st w hw.bd.1.1 hw.bd.1.2
    show Calls _ _ #[_, .string (fldB 1), .string (bs (dtx F.st))] _ _
    generalize bs (dtx F.st) = sb at R ⊢
    have HBX : Hid (EB w B E sl skv mvv) := hB
    have HOX : Hid (Off N w E sl skv mvv) := hO
    unfold fldB
    clear hB hO
    go_enter Tryz.func42, Tryz.ntmps42
    go_wp2_with (go_at_call 86; refine Calls.mono R.out ?_; rintro r w1 ⟨rfl, hb1⟩; obtain ⟨x0, x1, x2, x3, x4, x5, x6, x7, x8, x9, x10⟩ := blk11 (show w1.heap[B]? = _ from HBX.out.step hb1); have z := blk11_frozen (show w1.heap[B]? = _ from HBX.out.step hb1) 2)
    go_ret
    have gg : w.grownBy (w1.setCell ⟨B, 2, none⟩ (.int .i64 F.st)) (some B) := grown_then (grown_below hb1 _) (grown_set _ ⟨B, 2, none⟩ _)
    exact ⟨rfl, gg, sl, skv, mvv, set11_2 (.int .i64 F.st) (HBX.out.step hb1), (HOX.out.grown hN gg).d, (HOX.out.grown hN gg).s, (HOX.out.grown hN gg).m⟩
  | 2, _ =>
    have R : Hid (Calls _ _ _ _ _) := ereadNumber_any F.lg w (by have := hw.bd.2.1; omega) (by have := hw.bd.2.2; omega) g.tab
    show Calls _ _ #[_, .string (fldB 2), .string (bs (Lib.itoa F.lg))] _ _
    generalize bs (Lib.itoa F.lg) = sb at R ⊢
    have HBX : Hid (EB w B E sl skv mvv) := hB
    have HOX : Hid (Off N w E sl skv mvv) := hO
    unfold fldB
    clear hB hO
    go_enter Tryz.func42, Tryz.ntmps42
    go_wp2_with (go_at_call 84; refine Calls.mono R.out ?_; rintro r w1 ⟨rfl, hb1⟩; obtain ⟨x0, x1, x2, x3, x4, x5, x6, x7, x8, x9, x10⟩ := blk11 (show w1.heap[B]? = _ from HBX.out.step hb1); have z := blk11_frozen (show w1.heap[B]? = _ from HBX.out.step hb1) 3)
    go_ret
    have gg : w.grownBy (w1.setCell ⟨B, 3, none⟩ (.int .i64 F.lg)) (some B) := grown_then (grown_below hb1 _) (grown_set _ ⟨B, 3, none⟩ _)
    exact ⟨rfl, gg, sl, skv, mvv, set11_3 (.int .i64 F.lg) (HBX.out.step hb1), (HOX.out.grown hN gg).d, (HOX.out.grown hN gg).s, (HOX.out.grown hN gg).m⟩
  | 3, _ =>
    obtain ⟨t, ht, et⟩ := ruT_ok hw.rl
    have R := rread_ow F.f F.e F.ds F.c F.u t w g h20 hw.rl ht
    show Calls _ _ #[_, .string (fldB 3), .string (bs (ruT (rd F.f F.e F.ds F.c F.u)))] _ _
    rw [et]
    generalize bs (rtext (rd F.f F.e F.ds F.c F.u) t) = sb at R ⊢
    unfold rv at R
    have HR : Hid (Calls _ _ _ _ _) := R
    have HBX : Hid (EB w B E sl skv mvv) := hB
    have HOX : Hid (Off N w E sl skv mvv) := hO
    unfold fldB
    clear hB hO R
    go_enter Tryz.func42, Tryz.ntmps42
    go_wp2_with (go_at_call 87; refine Calls.mono HR.out ?_; rintro r w1 ⟨s1, rfl, ho1, hb1⟩; obtain ⟨ra, rc, rfl⟩ := ow_form ho1; obtain ⟨x0, x1, x2, x3, x4, x5, x6, x7, x8, x9, x10⟩ := blk11 (show w1.heap[B]? = _ from HBX.out.step hb1); have z4 := blk11_frozen (show w1.heap[B]? = _ from HBX.out.step hb1) 4; have z5 := blk11_frozen (show w1.heap[B]? = _ from HBX.out.step hb1) 5; have z6 := blk11_frozen (show w1.heap[B]? = _ from HBX.out.step hb1) 6; have z7 := blk11_frozen (show w1.heap[B]? = _ from HBX.out.step hb1) 7; have z8 := blk11_frozen (show w1.heap[B]? = _ from HBX.out.step hb1) 8)
    rw [put5_fold]
    have g5 := put5_grown w1 B (.string F.f) (.int .i64 F.e) (.slice ra F.ds.length rc) (.int .i64 F.c) (.int .i64 F.u)
    have b5 := put5_blk (.string F.f) (.int .i64 F.e) (.slice ra F.ds.length rc) (.int .i64 F.c) (.int .i64 F.u) (show w1.heap[B]? = _ from HBX.out.step hb1)
    generalize put5 w1 B (.string F.f) (.int .i64 F.e) (.slice ra F.ds.length rc) (.int .i64 F.c) (.int .i64 F.u) = w2 at g5 b5 ⊢
    go_ret
    have gg : w.grownBy w2 (some B) := grown_then (grown_below hb1 _) g5
    exact ⟨rfl, gg, .slice ra F.ds.length rc, skv, mvv, b5, (ow_off ho1 hN2 (by omega)).grown hN g5, (HOX.out.grown hN gg).s, (HOX.out.grown hN gg).m⟩
  | 4, _ =>
    have R : Hid (Calls _ _ _ _ _) := readListI_any F.sk w (by omega) kd
    show Calls _ _ #[_, .string (fldB 4), .string (bs (Lib.join (F.sk.map dtx) [44]))] _ _
    generalize bs (Lib.join (F.sk.map dtx) [44]) = sb at R ⊢
    have HBX : Hid (EB w B E sl skv mvv) := hB
    have HOX : Hid (Off N w E sl skv mvv) := hO
    unfold fldB
    clear hB hO
    go_enter Tryz.func42, Tryz.ntmps42
    go_wp2_with (go_at_call 88; refine Calls.mono R.out ?_; rintro r w1 ⟨s1, rfl, ho1, hb1⟩; obtain ⟨ra, rc, rfl⟩ := ow_form ho1; obtain ⟨x0, x1, x2, x3, x4, x5, x6, x7, x8, x9, x10⟩ := blk11 (show w1.heap[B]? = _ from HBX.out.step hb1); have z := blk11_frozen (show w1.heap[B]? = _ from HBX.out.step hb1) 9)
    go_ret
    have gg : w.grownBy (w1.setCell ⟨B, 9, none⟩ (.slice ra F.sk.length rc)) (some B) := grown_then (grown_below hb1 _) (grown_set _ ⟨B, 9, none⟩ _)
    exact ⟨rfl, gg, sl, (.slice ra F.sk.length rc), mvv, set11_9 (.slice ra F.sk.length rc) (HBX.out.step hb1), (HOX.out.grown hN gg).d, (ow_off ho1 hN2 (by omega)).grown hN (grown_set _ ⟨B, 9, none⟩ _), (HOX.out.grown hN gg).m⟩
  | 5, _ =>
    have R : Hid (Calls _ _ _ _ _) := readListM_any F.mv w (by omega) md
    show Calls _ _ #[_, .string (fldB 5), .string (bs (Lib.join (F.mv.map mtx) [44]))] _ _
    generalize bs (Lib.join (F.mv.map mtx) [44]) = sb at R ⊢
    have HBX : Hid (EB w B E sl skv mvv) := hB
    have HOX : Hid (Off N w E sl skv mvv) := hO
    unfold fldB
    clear hB hO
    go_enter Tryz.func42, Tryz.ntmps42
    go_wp2_with (go_at_call 89; refine Calls.mono R.out ?_; rintro r w1 ⟨s1, rfl, ho1, hb1⟩; obtain ⟨ra, rc, rfl⟩ := gotM_form (owm_movs ho1 (by omega)).2; obtain ⟨x0, x1, x2, x3, x4, x5, x6, x7, x8, x9, x10⟩ := blk11 (show w1.heap[B]? = _ from HBX.out.step hb1); have z := blk11_frozen (show w1.heap[B]? = _ from HBX.out.step hb1) 10)
    go_ret
    have gg : w.grownBy (w1.setCell ⟨B, 10, none⟩ (.slice ra F.mv.length rc)) (some B) := grown_then (grown_below hb1 _) (grown_set _ ⟨B, 10, none⟩ _)
    exact ⟨rfl, gg, sl, skv, (.slice ra F.mv.length rc), set11_10 (.slice ra F.mv.length rc) (HBX.out.step hb1), (HOX.out.grown hN gg).d, (HOX.out.grown hN gg).s, (owm_off ho1 hN2 (by omega)).grown hN (grown_set _ ⟨B, 10, none⟩ _)⟩
end Go.Proofs.YtbhfnloheijhdaaGreatDoor
