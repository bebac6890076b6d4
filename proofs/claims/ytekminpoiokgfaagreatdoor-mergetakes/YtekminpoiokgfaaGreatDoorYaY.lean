/- The document's Put. -/
import Derived.Test.YtekminpoiokgfaaGreatDoorBpCW
import Derived.Test.YtekminpoiokgfaaGreatDoorYaA
import Derived.Deep.RegionWith
import Derived.Test.YtekminpoiokgfaaGreatDoorYaE
import Derived.BigQuiet
import Derived.Deep.DeepCutAuto
import Derived.Test.YtekminpoiokgfaaGreatDoorYaC
import Derived.Test.YtekminpoiokgfaaGreatDoorYaB
namespace Go.Proofs.YtekminpoiokgfaaGreatDoor
open Go Go.RowKit Go.Maps Cal
attribute [local go_sem] Oper.semAt_some

/-- what the document's Put answers: the event's error, ErrFull, or the list with it -/
def MPutIs (base : Nat) (v : Value) (Xs : List EX) (X : EX) (k : Int) (v' : Value) (k' : Int) (w' : World) : Prop :=
  (k ≠ 0 ∧ k' = k ∧ v' = v) ∨ (k = 0 ∧ ((¬ ∃ Y ∈ Xs, Y.E.id = X.E.id) ∧ 60 ≤ Xs.length) ∧ k' = 7 ∧ v' = v) ∨
    (k = 0 ∧ ¬ ((¬ ∃ Y ∈ Xs, Y.E.id = X.E.id) ∧ 60 ≤ Xs.length) ∧ k' = 0 ∧ MR base w' v' (ins X (Xs.filter fun Y => decide (Y.E.id ≠ X.E.id))))

set_option maxHeartbeats 4000000 in
set_option maxRecDepth 100000 in
theorem mput_any (base : Nat) (E : EV) (ra : Option Addr) (rn rc : Nat) (sa : Option Addr) (sn sc : Nat) (ma : Option Addr) (mn mc : Nat) (v : Value) (Xs : List EX) (k : Int) (w : World) (hR : MR base w v Xs) (h8 : Xs.length ≤ 1000) (hok : ∀ X ∈ Xs, X.ok) (hk : k = 0 ∨ (1 ≤ k ∧ k ≤ 8))
    (EE : ∀ W, Below w.heap.size w W → Calls Tryz.prog 34 #[ev E (.slice ra rn rc) (.slice sa sn sc) (.slice ma mn mc)] W fun r w' => r = .returned (.int .i64 k) ∧ Below W.heap.size W w') :
    Calls Tryz.prog 19 #[.agg #[v], ev E (.slice ra rn rc) (.slice sa sn sc) (.slice ma mn mc)] w fun r w' => ∃ a' n' c' k', r = .returned (.tuple #[.agg #[.slice a' n' c'], .int .i64 k']) ∧ Below w.heap.size w w' ∧ MPutIs w.heap.size v Xs ⟨E, .slice ra rn rc, .slice sa sn sc, .slice ma mn mc⟩ k (.slice a' n' c') k' w' := by
  obtain ⟨a, cap, rfl, hcap, _⟩ := hR.form
  have A3 : Below w.heap.size w (((w.alloc (.cells #[.slice a Xs.length cap] 27)).alloc (.cells #[.string E.id, .string E.ti, .int .i64 E.st, .int .i64 E.lg, .string E.f, .int .i64 E.e, .slice ra rn rc, .int .i64 E.c, .int .i64 E.u, .slice sa sn sc, .slice ma mn mc] 44)).alloc (.cells #[.slice none 0 0] 27)) := below_then (below_then (below_alloc _ _) (below_alloc _ _)) (below_alloc _ _)
  have k0 : (((w.alloc (.cells #[.slice a Xs.length cap] 27)).alloc (.cells #[.string E.id, .string E.ti, .int .i64 E.st, .int .i64 E.lg, .string E.f, .int .i64 E.e, .slice ra rn rc, .int .i64 E.c, .int .i64 E.u, .slice sa sn sc, .slice ma mn mc] 44)).alloc (.cells #[.slice none 0 0] 27)).heap[w.heap.size]? = some (.cells #[.slice a Xs.length cap] 27 (0, 0)) := block_alloc _ (block_alloc _ (block_at _ rfl))
  have k1 : (((w.alloc (.cells #[.slice a Xs.length cap] 27)).alloc (.cells #[.string E.id, .string E.ti, .int .i64 E.st, .int .i64 E.lg, .string E.f, .int .i64 E.e, .slice ra rn rc, .int .i64 E.c, .int .i64 E.u, .slice sa sn sc, .slice ma mn mc] 44)).alloc (.cells #[.slice none 0 0] 27)).heap[w.heap.size + 1]? = some (.cells #[.string E.id, .string E.ti, .int .i64 E.st, .int .i64 E.lg, .string E.f, .int .i64 E.e, .slice ra rn rc, .int .i64 E.c, .int .i64 E.u, .slice sa sn sc, .slice ma mn mc] 44 (0, 0)) := block_alloc _ (block_at _ (World.size_alloc _ _))
  have k2 : (((w.alloc (.cells #[.slice a Xs.length cap] 27)).alloc (.cells #[.string E.id, .string E.ti, .int .i64 E.st, .int .i64 E.lg, .string E.f, .int .i64 E.e, .slice ra rn rc, .int .i64 E.c, .int .i64 E.u, .slice sa sn sc, .slice ma mn mc] 44)).alloc (.cells #[.slice none 0 0] 27)).heap[w.heap.size + 1 + 1]? = some (.cells #[.slice none 0 0] 27 (0, 0)) := block_at _ (by rw [World.size_alloc, World.size_alloc])
  have sz : (((w.alloc (.cells #[.slice a Xs.length cap] 27)).alloc (.cells #[.string E.id, .string E.ti, .int .i64 E.st, .int .i64 E.lg, .string E.f, .int .i64 E.e, .slice ra rn rc, .int .i64 E.c, .int .i64 E.u, .slice sa sn sc, .slice ma mn mc] 44)).alloc (.cells #[.slice none 0 0] 27)).heap.size = w.heap.size + 3 := by rw [World.size_alloc, World.size_alloc, World.size_alloc]
  have HEE : Hid (Calls _ _ _ _ _) := EE _ A3
  have K0 : Hid (_) := k0
  have K1 : Hid (_) := k1
  have K2 : Hid (_) := k2
  have A0 : Hid (_) := A3
  have SZ : Hid (_) := sz
  have HR : Hid (MR base w (.slice a Xs.length cap) Xs) := hR
  have HOK : Hid (∀ X ∈ Xs, X.ok) := hok
  unfold ev at HEE ⊢
  obtain ⟨e0, e1, e2, e3, e4, e5, e6, e7, e8, e9, e10⟩ := blk11 k1
  have cB0 := cell_of k0
  clear A3 k0 k1 k2 sz hR hok EE
  have FIN : Hid (∀ (W : World) (oa : Option Addr) (n oc : Nat), Below w.heap.size w W → w.heap.size + 3 ≤ W.heap.size → W.heap[w.heap.size + 1 + 1]? = some (.cells #[.slice none 0 0] 27 (0, 0)) → W.cell? ⟨w.heap.size + 1 + 1, 0, none⟩ = some (.slice none 0 0) ∧ W.frozen? ⟨w.heap.size + 1 + 1, 0, none⟩ = false ∧ (W.setCell ⟨w.heap.size + 1 + 1, 0, none⟩ (.slice oa n oc)).cell? ⟨w.heap.size + 1 + 1, 0, none⟩ = some (.slice oa n oc) ∧ Below w.heap.size w (W.setCell ⟨w.heap.size + 1 + 1, 0, none⟩ (.slice oa n oc))) := fun W oa n oc hB hs k2 => by
    have g1 := grown_set W ⟨w.heap.size + 1 + 1, 0, none⟩ (.slice oa n oc)
    refine ⟨cell_of k2, blk11_frozen k2 0, cell_of (set_block (i := 0) _ k2), ?_⟩
    exact ⟨g1.os.trans hB.os, g1.tape.trans hB.tape, g1.output.trans hB.output, by have := g1.size; have := hB.size; omega, fun k hk => (g1.block k (by omega) (fun q => by have : k = w.heap.size + 1 + 1 := Option.some.inj q; omega)).trans (hB.block k hk)⟩
  go_enter Tryz.func19, Tryz.ntmps19
  generalize hw0 : ((w.alloc (.cells #[.slice a Xs.length cap] 27)).alloc (.cells #[.string E.id, .string E.ti, .int .i64 E.st, .int .i64 E.lg, .string E.f, .int .i64 E.e, .slice ra rn rc, .int .i64 E.c, .int .i64 E.u, .slice sa sn sc, .slice ma mn mc] 44)).alloc (.cells #[.slice none 0 0] 27) = w0 at HEE K0 K1 K2 A0 SZ cB0 e0 e1 e2 e3 e4 e5 e6 e7 e8 e9 e10
  go_upto_region 2 with (go_at_call 34; refine Calls.mono HEE.out ?_; rintro r w1 ⟨rfl, hb1⟩)
  have B1 : Hid (Below w.heap.size w w1) := below_then A0.out hb1
  have s1 : w.heap.size + 3 ≤ w1.heap.size := by rw [← SZ.out]; exact hb1.size
  have K01 : Hid (w1.heap[w.heap.size]? = some (.cells #[.slice a Xs.length cap] 27 (0, 0))) := (hb1.block _ (by rw [SZ.out]; omega)).trans K0.out
  have K11 : Hid (w1.heap[w.heap.size + 1]? = some (.cells #[.string E.id, .string E.ti, .int .i64 E.st, .int .i64 E.lg, .string E.f, .int .i64 E.e, .slice ra rn rc, .int .i64 E.c, .int .i64 E.u, .slice sa sn sc, .slice ma mn mc] 44 (0, 0))) := (hb1.block _ (by rw [SZ.out]; omega)).trans K1.out
  have K21 : Hid (w1.heap[w.heap.size + 1 + 1]? = some (.cells #[.slice none 0 0] 27 (0, 0))) := (hb1.block _ (by rw [SZ.out]; omega)).trans K2.out
  clear HEE K0 K1 K2 A0 SZ cB0 e0 e1 e2 e3 e4 e5 e6 e7 e8 e9 e10 hw0 hb1
  by_cases hk0 : k = 0
  case neg =>
    have hk1 : 0 < k := by omega
    have HK0 : Hid (k ≠ 0) := hk0
    have cB0 := cell_of K01.out
    obtain ⟨c2, f2, c3, hBl⟩ := FIN.out w1 a Xs.length cap B1.out s1 K21.out
    have HBL : Hid (_) := hBl
    clear hBl FIN hk0
    generalize hxl : Xs.length = xl at cB0 c2 f2 c3 HBL
    have HXL : Hid (Xs.length = xl) := hxl
    clear hxl
    go_wp2
    refine bodyPost_ret (v := .tuple #[.agg #[.slice a xl cap], .int .i64 k]) (by simp [results, Tryz.f19, go_sem, c3]) rfl ⟨_, _, _, _, rfl, HBL.out, .inl ⟨HK0.out, rfl, by rw [HXL.out]⟩⟩
  case pos =>
    subst hk0
    have FD : Hid (Calls _ _ _ _ _) := find_any base E.id (.slice a Xs.length cap) Xs w1 (HR.out.far (fun k _ hk => B1.out.block k hk)) h8
    have WI : Hid (∀ W, Below w1.heap.size w1 W → Calls Tryz.prog 36 #[.agg #[.slice a Xs.length cap], ev E (.slice ra rn rc) (.slice sa sn sc) (.slice ma mn mc)] W fun r w' => ∃ v', r = .returned (.agg #[v']) ∧ MR W.heap.size w' v' (ins ⟨E, .slice ra rn rc, .slice sa sn sc, .slice ma mn mc⟩ (Xs.filter fun X => decide (X.E.id ≠ E.id))) ∧ Below W.heap.size W w') := fun W hW => with_any base E ra rn rc sa sn sc ma mn mc _ Xs W (HR.out.far (fun k _ hk => (below_then B1.out hW).block k hk)) h8 HOK.out
    unfold ev at WI
    have cB0 := cell_of K01.out
    obtain ⟨e0, e1, e2, e3, e4, e5, e6, e7, e8, e9, e10⟩ := blk11 K11.out
    have TAIL : Hid (∀ w5 : World, Below w1.heap.size w1 w5 → w5.cell? ⟨w.heap.size, 0, none⟩ = some (.slice a Xs.length cap) ∧ w5.cell? ⟨w.heap.size + 1, 0, none⟩ = some (.string E.id) ∧ w5.heap[w.heap.size + 1]? = some (.cells #[.string E.id, .string E.ti, .int .i64 E.st, .int .i64 E.lg, .string E.f, .int .i64 E.e, .slice ra rn rc, .int .i64 E.c, .int .i64 E.u, .slice sa sn sc, .slice ma mn mc] 44 (0, 0)) ∧ w5.heap[w.heap.size + 1 + 1]? = some (.cells #[.slice none 0 0] 27 (0, 0)) ∧ w.heap.size + 3 ≤ w5.heap.size) := fun w5 hb5 => ⟨cell_step cB0 hb5, cell_step e0 hb5, (hb5.block _ (by omega)).trans K11.out, (hb5.block _ (by omega)).trans K21.out, Nat.le_trans s1 hb5.size⟩
    by_cases hf : ∃ X ∈ Xs, X.E.id = E.id
    case pos =>
      have HF : Hid (∃ X ∈ Xs, X.E.id = E.id) := hf
      go_upto_region 6 with (go_at_call 35; refine Calls.mono FD.out ?_; rintro r w5 ⟨kf, rfl, hkf, hkf1, hkf2, hb5⟩; have hkf0 : 0 ≤ kf := hkf.2 HF.out; clear hkf)
      have HB5 : Hid (Below w1.heap.size w1 w5) := hb5
      obtain ⟨d0, _, d1, d2, s5⟩ := TAIL.out w5 hb5
      have WI5 : Hid (Calls _ _ _ _ _) := WI.out w5 hb5
      clear e0 e1 e2 e3 e4 e5 e6 e7 e8 e9 e10 cB0 FD WI hb5 hf
      have HD2 : Hid (_) := d2
      obtain ⟨e0, e1, e2, e3, e4, e5, e6, e7, e8, e9, e10⟩ := blk11 d1
      go_wp2_with (go_at_call 36; refine Calls.mono WI5.out ?_; rintro r w6 ⟨v6, rfl, hm6, hb6⟩; obtain ⟨oa, oc, rfl, _, _⟩ := hm6.form; have B6 : Hid (Below w.heap.size w w6) := below_then B1.out (below_then HB5.out hb6); have k26 := (hb6.block _ (by omega)).trans HD2.out; have s6 : w.heap.size + 3 ≤ w6.heap.size := Nat.le_trans s5 hb6.size; have HM6 : Hid (MR w5.heap.size w6 _ _) := hm6; clear hm6 hb6; generalize hil : (ins ⟨E, .slice ra rn rc, .slice sa sn sc, .slice ma mn mc⟩ (Xs.filter fun X => decide (X.E.id ≠ E.id))).length = il at HM6 ⊢; obtain ⟨c2, f2, c3, hBl⟩ := FIN.out w6 oa il oc B6.out s6 k26; have HBL : Hid (_) := hBl; clear hBl k26)
      refine bodyPost_ret (v := .tuple #[.agg #[.slice oa il oc], .int .i64 0]) (by simp [results, Tryz.f19, go_sem, c3]) rfl ⟨_, _, _, _, rfl, HBL.out, .inr (.inr ⟨rfl, fun q => q.1 HF.out, rfl, ?_⟩)⟩
      exact own_base (MR.far HM6.out (fun k hk _ => Below.heap_setCell _ _ _ k (by intro q; have q' : k = w.heap.size + 1 + 1 := q; omega))) (by omega)
    case neg =>
      have HF : Hid (¬ ∃ X ∈ Xs, X.E.id = E.id) := hf
      by_cases h60 : 60 ≤ Xs.length
      case pos =>
        have h60' : (60 : Int) ≤ (Xs.length : Int) := by omega
        have H60 : Hid (60 ≤ Xs.length) := h60
        have hl9 : (Xs.length : Int) ≤ 1000 := by omega
        clear h60
        go_upto_region 5 with (go_at_call 35; refine Calls.mono FD.out ?_; rintro r w5 ⟨kf, rfl, hkf, hkf1, hkf2, hb5⟩; have hkf0 : kf < 0 := Int.not_le.1 (fun q => HF.out (hkf.1 q)); clear hkf; have d0 := cell_step cB0 hb5)
        have HB5 : Hid (Below w1.heap.size w1 w5) := hb5
        obtain ⟨d0', _, d1, d2, s5⟩ := TAIL.out w5 hb5
        obtain ⟨c2, f2, c3, hBl⟩ := FIN.out w5 a Xs.length cap (below_then B1.out hb5) s5 d2
        have HBL : Hid (_) := hBl
        clear hBl FIN d0' d1 d2 hb5 TAIL WI FD
        go_wp2
        refine bodyPost_ret (v := .tuple #[.agg #[.slice a Xs.length cap], .int .i64 7]) (by simp [results, Tryz.f19, go_sem, c3]) rfl ⟨_, _, _, _, rfl, HBL.out, .inr (.inl ⟨rfl, ⟨HF.out, H60.out⟩, rfl, rfl⟩)⟩
      case neg =>
        have h60' : (Xs.length : Int) < 60 := by omega
        have HN6 : Hid (¬ 60 ≤ Xs.length) := h60
        clear h60
        go_upto_region 6 with (go_at_call 35; refine Calls.mono FD.out ?_; rintro r w5 ⟨kf, rfl, hkf, hkf1, hkf2, hb5⟩; have hkf0 : kf < 0 := Int.not_le.1 (fun q => HF.out (hkf.1 q)); clear hkf; have d0 := cell_step cB0 hb5)
        have HB5 : Hid (Below w1.heap.size w1 w5) := hb5
        obtain ⟨d0', _, d1, d2, s5⟩ := TAIL.out w5 hb5
        have WI5 : Hid (Calls _ _ _ _ _) := WI.out w5 hb5
        clear e0 e1 e2 e3 e4 e5 e6 e7 e8 e9 e10 cB0 FD WI hb5 hf
        have HD2 : Hid (_) := d2
        obtain ⟨e0, e1, e2, e3, e4, e5, e6, e7, e8, e9, e10⟩ := blk11 d1
        go_wp2_with (go_at_call 36; refine Calls.mono WI5.out ?_; rintro r w6 ⟨v6, rfl, hm6, hb6⟩; obtain ⟨oa, oc, rfl, _, _⟩ := hm6.form; have B6 : Hid (Below w.heap.size w w6) := below_then B1.out (below_then HB5.out hb6); have k26 := (hb6.block _ (by omega)).trans HD2.out; have s6 : w.heap.size + 3 ≤ w6.heap.size := Nat.le_trans s5 hb6.size; have HM6 : Hid (MR w5.heap.size w6 _ _) := hm6; clear hm6 hb6; generalize hil : (ins ⟨E, .slice ra rn rc, .slice sa sn sc, .slice ma mn mc⟩ (Xs.filter fun X => decide (X.E.id ≠ E.id))).length = il at HM6 ⊢; obtain ⟨c2, f2, c3, hBl⟩ := FIN.out w6 oa il oc B6.out s6 k26; have HBL : Hid (_) := hBl; clear hBl k26)
        refine bodyPost_ret (v := .tuple #[.agg #[.slice oa il oc], .int .i64 0]) (by simp [results, Tryz.f19, go_sem, c3]) rfl ⟨_, _, _, _, rfl, HBL.out, .inr (.inr ⟨rfl, fun q => HN6.out q.2, rfl, ?_⟩)⟩
        exact own_base (MR.far HM6.out (fun k hk _ => Below.heap_setCell _ _ _ k (by intro q; have q' : k = w.heap.size + 1 + 1 := q; omega))) (by omega)
end Go.Proofs.YtekminpoiokgfaaGreatDoor

/- Contracts of the document's own answer to days: MonthOf, MakeDay, DateOf, AddMonths: each returns what the plain mathematics (Cal) says. -/
namespace Go.Proofs.YtekminpoiokgfaaGreatDoor
open Go.RowKit Cal

theorem in_yes (n a b : Int) (w : World) (h0 : a ≤ n) (h1 : n ≤ b) :
    Calls Tryz.prog 58 #[.int .i64 n, .int .i64 a, .int .i64 b] w fun e w' => e = .returned (.bool true) ∧ w' = w := by
  go_enter Tryz.func58, Tryz.ntmps58
  go_wp2
  go_ret
  exact ⟨rfl, rfl⟩
theorem in_no (n a b : Int) (w : World) (h : n < a ∨ b < n) :
    Calls Tryz.prog 58 #[.int .i64 n, .int .i64 a, .int .i64 b] w fun e w' => e = .returned (.bool false) ∧ w' = w := by
  by_cases h0 : n < a
  · clear h
    go_enter Tryz.func58, Tryz.ntmps58
    go_wp2
    go_ret
    exact ⟨rfl, rfl⟩
  · have h1 : b < n := by omega
    have h2 : a ≤ n := by omega
    clear h h0
    go_enter Tryz.func58, Tryz.ntmps58
    go_wp2
    go_ret
    exact ⟨ret_bool (by simp; omega), rfl⟩
theorem isDayR_yes (n : Int) (w : World) (h0 : 0 ≤ n) (h1 : n ≤ 73048) :
    Calls Tryz.prog 57 #[.int .i64 n] w fun e w' => e = .returned (.bool true) ∧ w' = w := by
  go_enter Tryz.func57, Tryz.ntmps57
  go_wp2_with (go_at_call 58; refine (in_yes _ _ _ _ h0 h1).mono ?_; rintro e w' ⟨rfl, rfl⟩)
  go_ret
  exact ⟨rfl, rfl⟩
theorem isDayR_no (n : Int) (w : World) (h : n < 0 ∨ 73048 < n) :
    Calls Tryz.prog 57 #[.int .i64 n] w fun e w' => e = .returned (.bool false) ∧ w' = w := by
  go_enter Tryz.func57, Tryz.ntmps57
  go_wp2_with (go_at_call 58; refine (in_no _ _ _ _ h).mono ?_; rintro e w' ⟨rfl, rfl⟩)
  go_ret
  exact ⟨rfl, rfl⟩

end Go.Proofs.YtekminpoiokgfaaGreatDoor

/- The document's own answers on events: names, titles, an event's error. -/
namespace Go.Proofs.YtekminpoiokgfaaGreatDoor
open Go Go.RowKit Cal
attribute [local go_sem] Oper.semAt_some

set_option maxHeartbeats 1000000 in
theorem isNameR_any (s : ByteArray) (w : World) (hs : s.size ≤ 60) (b : Bool) (hb : b = true ↔ okID s) :
    Calls Tryz.prog 55 #[.string s] w fun r w' => r = .returned (.bool b) ∧ w' = w := by
  have HB : Hid (b = true ↔ okID s) := hb
  clear hb
  go_enter Tryz.func55, Tryz.ntmps55
  go_wp2
  go_loop [3, 4, 5, 6] (fun i _ _ _ => ∃ k : Nat, k ≤ s.size ∧ i = .int .i64 k ∧ Hid (∀ (j : Nat) (h : j < s.size), j < k → okc s[j])) (fun i _ _ _ => s.size - (intOf i).toNat)
  case atStart => exact ⟨0, Nat.zero_le _, rfl, fun j _ h => absurd h (Nat.not_lt_zero _)⟩
  case round =>
    obtain ⟨k, hk, rfl, HA⟩ := hrel
    by_cases hlt : k < s.size
    · have HN : Hid (okc s[k] → ∀ (j : Nat) (h : j < s.size), j < k + 1 → okc s[j]) := fun hx j hj hjk => by
        by_cases ej : j = k
        · subst ej; exact hx
        · exact HA.out j hj (by omega)
      have HF : Hid (¬ okc s[k] → b = false) := fun hx => by
        cases b with
        | false => rfl
        | true => exact absurd ((HB.out.1 rfl).1 k hlt) hx
      clear HA HB
      have hok : Hid (okc s[k] ↔ (97 ≤ (s[k].toNat : Int) ∧ (s[k].toNat : Int) ≤ 122) ∨ (48 ≤ (s[k].toNat : Int) ∧ (s[k].toNat : Int) ≤ 57)) := Iff.rfl
      by_cases h1 : 97 ≤ (s[k].toNat : Int) ∧ (s[k].toNat : Int) ≤ 122
      · have HN' : Hid (_) := HN.out (hok.out.2 (.inl h1))
        clear HF HN hok
        obtain ⟨h1, h2⟩ := h1
        go_wp2
        go_round
        case rel => exact ⟨k + 1, by omega, by go_num, HN'.out⟩
        case measure => simp [intOf]; omega
      · by_cases h2 : 48 ≤ (s[k].toNat : Int) ∧ (s[k].toNat : Int) ≤ 57
        · have HN' : Hid (_) := HN.out (hok.out.2 (.inr h2))
          clear HF HN hok h1
          obtain ⟨h1, h2⟩ := h2
          go_wp2
          go_round
          case rel => exact ⟨k + 1, by omega, by go_num, HN'.out⟩
          case measure => simp [intOf]; omega
        · have HF' : Hid (b = false) := HF.out (fun q => by rcases hok.out.1 q with q | q; exact h1 q; exact h2 q)
          clear HF HN hok
          have h3 : (s[k].toNat : Int) < 48 ∨ (57 < (s[k].toNat : Int) ∧ (s[k].toNat : Int) < 97) ∨ 122 < (s[k].toNat : Int) := by omega
          clear h1 h2
          rcases h3 with h3 | ⟨h3, h4⟩ | h3
          · go_wp2
            go_ret
            exact ⟨ret_bool HF'.out.symm, rfl⟩
          · have e1 : decide ((s[k].toNat : Int) ≤ 57) = false := decide_eq_false (by omega)
            go_wp2
            go_ret
            exact ⟨ret_bool HF'.out.symm, rfl⟩
          · have e1 : decide ((s[k].toNat : Int) ≤ 57) = false := decide_eq_false (by omega)
            have e2 : decide ((s[k].toNat : Int) ≤ 122) = false := decide_eq_false (by omega)
            go_wp2
            go_ret
            exact ⟨ret_bool HF'.out.symm, rfl⟩
    · have HR : Hid (b = true ↔ 1 ≤ s.size ∧ s.size ≤ 12) := by
        show _ ↔ _
        rw [HB.out]
        exact ⟨fun q => q.2, fun q => ⟨fun j hj => HA.out j hj (by omega), q⟩⟩
      clear HA HB
      go_wp2
      all_goals
        go_ret
        refine ⟨ret_bool ?_, rfl⟩
        rw [Bool.eq_iff_iff, HR.out]
        simp
        try omega

/-- a sign that may be told -/
def okp (c : UInt8) : Prop := 32 ≤ (c.toNat : Int) ∧ (c.toNat : Int) ≤ 126
set_option maxHeartbeats 1000000 in
theorem isPlainR_any (s : ByteArray) (w : World) (hs : s.size ≤ 60) (b : Bool) (hb : b = true ↔ ∀ (j : Nat) (h : j < s.size), okp s[j]) :
    Calls Tryz.prog 86 #[.string s] w fun r w' => r = .returned (.bool b) ∧ Below w.heap.size w w' := by
  have HB : Hid (b = true ↔ ∀ (j : Nat) (h : j < s.size), okp s[j]) := hb
  clear hb
  go_enter Tryz.func86, Tryz.ntmps86
  go_wp2
  go_loopw [3] (fun i wr => ∃ k : Nat, k ≤ s.size ∧ i = .int .i64 k ∧ Hid (Below w.heap.size w wr) ∧ Hid (∀ (j : Nat) (h : j < s.size), j < k → okp s[j])) (fun i _ => s.size - (intOf i).toNat)
  case atStart => exact ⟨0, Nat.zero_le _, rfl, Below.refl _ _, fun j _ h => absurd h (Nat.not_lt_zero _)⟩
  case round =>
    obtain ⟨k, hk, rfl, hBw, HA⟩ := hrel
    by_cases hlt : k < s.size
    · have HN : Hid (okp s[k] → ∀ (j : Nat) (h : j < s.size), j < k + 1 → okp s[j]) := fun hx j hj hjk => by
        by_cases ej : j = k
        · subst ej; exact hx
        · exact HA.out j hj (by omega)
      have HF : Hid (¬ okp s[k] → b = false) := fun hx => by
        cases b with
        | false => rfl
        | true => exact absurd (HB.out.1 rfl k hlt) hx
      have hok : Hid (okp s[k] ↔ 32 ≤ (s[k].toNat : Int) ∧ (s[k].toNat : Int) ≤ 126) := Iff.rfl
      clear HA HB
      by_cases h1 : (s[k].toNat : Int) < 32
      · have HF' : Hid (b = false) := HF.out (fun x => by have := hok.out.1 x; omega)
        have e1 : decide ((s[k].toNat : Int) < 32) = true := decide_eq_true h1
        clear HF HN hok
        go_wp2_with (fail)
        try go_quiet (fail)
        go_wp2
        go_ret
        exact ⟨ret_bool HF'.out.symm, below_then hBw.out (by first | exact Below.refl _ _ | exact drewN_below _ _)⟩
      · have e1 : decide ((s[k].toNat : Int) < 32) = false := decide_eq_false h1
        by_cases h2 : 126 < (s[k].toNat : Int)
        · have HF' : Hid (b = false) := HF.out (fun x => by have := hok.out.1 x; omega)
          have e2 : decide (126 < (s[k].toNat : Int)) = true := decide_eq_true h2
          clear HF HN hok
          go_wp2_with (fail)
          try go_quiet (fail)
          go_wp2
          go_ret
          exact ⟨ret_bool HF'.out.symm, below_then hBw.out (by first | exact Below.refl _ _ | exact drewN_below _ _)⟩
        · have e2 : decide (126 < (s[k].toNat : Int)) = false := decide_eq_false h2
          have HN' : Hid (_) := HN.out (hok.out.2 ⟨by omega, by omega⟩)
          clear HF HN hok
          go_wp2_with (fail)
          try go_quiet (fail)
          go_wp2
          go_roundw
          case rel => exact ⟨k + 1, by omega, by go_num, below_then hBw.out (by first | exact Below.refl _ _ | exact drewN_below _ _), HN'.out⟩
          case measure => simp [intOf]; omega
    · have HR : Hid (b = true) := HB.out.2 (fun j hj => HA.out j hj (by omega))
      clear HA HB
      go_wp2
      go_ret
      exact ⟨ret_bool HR.out.symm, hBw.out⟩

set_option maxHeartbeats 1000000 in
theorem isTitleR_any (s : ByteArray) (w : World) (hs : s.size ≤ 60) (b : Bool) (hb : b = true ↔ okTi s) :
    Calls Tryz.prog 56 #[.string s] w fun r w' => r = .returned (.bool b) ∧ Below w.heap.size w w' := by
  have HB : Hid (b = true ↔ okTi s) := hb
  have IP : Hid (∀ (W : World) (b : Bool), (b = true ↔ ∀ (j : Nat) (h : j < s.size), okp s[j]) → Calls Tryz.prog 86 #[.string s] W fun r w' => r = .returned (.bool b) ∧ Below W.heap.size W w') := fun W b h => isPlainR_any s W hs b h
  clear hb
  go_enter Tryz.func56, Tryz.ntmps56
  go_wp2
  go_loop [3] (fun i => ∃ k : Nat, k ≤ s.size ∧ i = .int .i64 k ∧ Hid (∀ (j : Nat) (h : j < s.size), j < k → (s[j].toNat : Int) ≠ 124)) (fun i => s.size - (intOf i).toNat)
  case atStart => exact ⟨0, Nat.zero_le _, rfl, fun j _ h => absurd h (Nat.not_lt_zero _)⟩
  case round =>
    obtain ⟨k, hk, rfl, HA⟩ := hrel
    by_cases hlt : k < s.size
    · by_cases h3 : (s[k].toNat : Int) = 124
      · have HF' : Hid (b = false) := by
          cases b with
          | false => trivial
          | true => exact absurd h3 ((HB.out.1 rfl).1 k hlt).2.2
        have e3 : ((s[k].toNat : Int) == 124) = true := by rw [beq_iff_eq]; exact h3
        clear HA HB IP h3
        go_wp2
        go_ret
        exact ⟨ret_bool HF'.out.symm, Below.refl _ _⟩
      · have HN : Hid (∀ (j : Nat) (h : j < s.size), j < k + 1 → (s[j].toNat : Int) ≠ 124) := fun j hj hjk => by
          by_cases ej : j = k
          · subst ej; exact h3
          · exact HA.out j hj (by omega)
        have e3 : ((s[k].toNat : Int) == 124) = false := by rw [beq_eq_false_iff_ne]; exact h3
        clear HA HB IP h3
        go_wp2
        go_round
        case rel => exact ⟨k + 1, by omega, by go_num, HN.out⟩
        case measure => simp [intOf]; omega
    · have HK : Hid (∀ (j : Nat) (h : j < s.size), (s[j].toNat : Int) ≠ 124) := fun j hj => HA.out j hj (by omega)
      clear HA
      by_cases h40 : s.size ≤ 40
      · have IP' : Hid (_) := IP.out w b (by
          rw [HB.out]
          constructor
          · rintro ⟨q, _⟩ j hj; exact ⟨(q j hj).1, (q j hj).2.1⟩
          · intro q; exact ⟨fun j hj => ⟨(q j hj).1, (q j hj).2, HK.out j hj⟩, h40⟩)
        clear HB IP HK
        go_wp2_with (go_at_call 86; refine Calls.mono IP'.out ?_; rintro r w1 ⟨rfl, hb1⟩)
        go_ret
        exact ⟨rfl, hb1⟩
      · have HF' : Hid (b = false) := by
          cases b with
          | false => trivial
          | true => exact absurd (HB.out.1 rfl).2 h40
        clear HB IP HK
        go_wp2
        go_ret
        exact ⟨ret_bool HF'.out.symm, Below.refl _ _⟩
end Go.Proofs.YtekminpoiokgfaaGreatDoor

/- The document's own answers to what comes again: dates, isIn, stepOf, isCandidate -/
namespace Go.Proofs.YtekminpoiokgfaaGreatDoor
open Go.RowKit Cal

end Go.Proofs.YtekminpoiokgfaaGreatDoor
namespace Go.Proofs.YtekminpoiokgfaaGreatDoor.Cal

end Go.Proofs.YtekminpoiokgfaaGreatDoor.Cal
namespace Go.Proofs.YtekminpoiokgfaaGreatDoor
open Go.RowKit Cal

/-- the cells of a list of numbers, wherever it lies -/
def Gcl (w : World) (ad : Addr) (ds : List Int) : Prop := ∀ (j : Nat) (h : j < ds.length), w.cell? (ad.add j) = some (.int .i64 ds[j])

/-- is it one of these? -/
def inB (ds : List Int) (x : Int) : Bool := ds.contains x

theorem isIn_some (x : Int) (ad : Addr) (cap : Nat) (ds : List Int) (w : World) (hn : ds.length ≤ 100000) (hc : Gcl w ad ds) :
    Calls Tryz.prog 60 #[.int .i64 x, .slice (some ad) ds.length cap] w fun r w' => r = .returned (.bool (inB ds x)) ∧ w' = w := by
  have HC : Hid (_) := hc
  clear hc
  go_enter Tryz.func60, Tryz.ntmps60
  go_wp2
  go_loop [5] (fun i => ∃ k : Nat, k ≤ ds.length ∧ i = .int .i64 k ∧ Hid (inB ds x = inB (ds.drop k) x)) (fun i => ds.length - (intOf i).toNat)
  case atStart => exact ⟨0, Nat.zero_le _, rfl, rfl⟩
  case round =>
    obtain ⟨k, hk, rfl, HA⟩ := hrel
    by_cases hlt : k < ds.length
    · have hcell := HC.out k hlt
      have HD : Hid (inB (ds.drop k) x = ((x == ds[k]) || inB (ds.drop (k + 1)) x)) := by
        show _ = _
        unfold inB
        rw [List.drop_eq_getElem_cons hlt, List.contains_cons]
      by_cases hx : ds[k] = x
      · have hb : (ds[k] == x) = true := by rw [beq_iff_eq]; exact hx
        have HR : Hid (inB ds x = true) := by
          show _ = _
          rw [HA.out, HD.out, hx]; simp
        clear hx HA HD
        go_wp2
        go_ret
        exact ⟨ret_bool HR.out.symm, rfl⟩
      · have hb : (ds[k] == x) = false := by rw [beq_eq_false_iff_ne]; exact hx
        have HR : Hid (inB ds x = inB (ds.drop (k + 1)) x) := by
          show _ = _
          rw [HA.out, HD.out, beq_eq_false_iff_ne.2 (Ne.symm hx), Bool.false_or]
        clear hx HA HD
        go_wp2
        go_round
        case rel => exact ⟨k + 1, by omega, by go_num, HR⟩
        case measure => simp [intOf]; omega
    · have HR : Hid (inB ds x = false) := by
        show _ = _
        rw [HA.out, List.drop_eq_nil_of_le (by omega)]; rfl
      clear HA
      go_wp2
      go_ret
      exact ⟨ret_bool HR.out.symm, rfl⟩
theorem isIn_none (x : Int) (w : World) :
    Calls Tryz.prog 60 #[.int .i64 x, .slice none 0 0] w fun r w' => r = .returned (.bool false) ∧ w' = w := by
  go_enter Tryz.func60, Tryz.ntmps60
  go_wp2
  go_loop [5] (fun i => i = .int .i64 0) (fun i => 0)
  case atStart => rfl
  case round =>
    subst hrel
    go_wp2
    go_ret
    exact ⟨rfl, rfl⟩

end Go.Proofs.YtekminpoiokgfaaGreatDoor
