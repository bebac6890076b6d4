/- The document's Put. -/
import Derived.Test.YtnpecjccajebiaaGreatDoorBpCW
import Derived.Test.YtnpecjccajebiaaGreatDoorYaAO
import Derived.Sort.Walk0
namespace Go.Proofs.YtnpecjccajebiaaGreatDoor
open Go Go.RowKit Go.Maps Cal
attribute [local go_sem] Oper.semAt_some

/-- what the document's Put answers: the event's error, ErrFull, or the list with it -/
def MPutIs (base : Nat) (v : Value) (Xs : List EX) (X : EX) (k : Int) (v' : Value) (k' : Int) (w' : World) : Prop :=
  (k ≠ 0 ∧ k' = k ∧ v' = v) ∨ (k = 0 ∧ ((¬ ∃ Y ∈ Xs, Y.E.id = X.E.id) ∧ 60 ≤ Xs.length) ∧ k' = 7 ∧ v' = v) ∨
    (k = 0 ∧ ¬ ((¬ ∃ Y ∈ Xs, Y.E.id = X.E.id) ∧ 60 ≤ Xs.length) ∧ k' = 0 ∧ MR base w' v' (ins X (Xs.filter fun Y => decide (Y.E.id ≠ X.E.id))))

set_option maxHeartbeats 4000000 in
set_option maxRecDepth 100000 in
theorem mput_any (base : Nat) (E : EV) (ra : Option Addr) (rn rc : Nat) (sa : Option Addr) (sn sc : Nat) (ma : Option Addr) (mn mc : Nat) (v : Value) (Xs : List EX) (k : Int) (w : World) (hR : MR base w v Xs) (h8 : Xs.length ≤ 1000) (hok : ∀ X ∈ Xs, X.ok) (hk : k = 0 ∨ (1 ≤ k ∧ k ≤ 8))
    (EE : ∀ W, Below w.heap.size w W → Calls Tryz.prog 48 #[ev E (.slice ra rn rc) (.slice sa sn sc) (.slice ma mn mc)] W fun r w' => r = .returned (.int .i64 k) ∧ Below W.heap.size W w') :
    Calls Tryz.prog 21 #[.agg #[v], ev E (.slice ra rn rc) (.slice sa sn sc) (.slice ma mn mc)] w fun r w' => ∃ a' n' c' k', r = .returned (.tuple #[.agg #[.slice a' n' c'], .int .i64 k']) ∧ Below w.heap.size w w' ∧ MPutIs w.heap.size v Xs ⟨E, .slice ra rn rc, .slice sa sn sc, .slice ma mn mc⟩ k (.slice a' n' c') k' w' := by
  obtain ⟨a, cap, rfl, hcap, _⟩ := hR.form
  have A3 : Below w.heap.size w (((w.alloc (.cells #[.slice a Xs.length cap] 27)).alloc (.cells #[.string E.id, .string E.ti, .int .i64 E.st, .int .i64 E.lg, .string E.f, .int .i64 E.e, .slice ra rn rc, .int .i64 E.c, .int .i64 E.u, .slice sa sn sc, .slice ma mn mc] 44)).alloc (.cells #[.slice none 0 0] 27)) := below_then (below_then (below_alloc _ _) (below_alloc _ _)) (below_alloc _ _)
  have k0 : (((w.alloc (.cells #[.slice a Xs.length cap] 27)).alloc (.cells #[.string E.id, .string E.ti, .int .i64 E.st, .int .i64 E.lg, .string E.f, .int .i64 E.e, .slice ra rn rc, .int .i64 E.c, .int .i64 E.u, .slice sa sn sc, .slice ma mn mc] 44)).alloc (.cells #[.slice none 0 0] 27)).heap[w.heap.size]? = some (.cells #[.slice a Xs.length cap] 27 (0, 0)) := block_alloc _ (block_alloc _ (block_at _ rfl))
  have k1 : (((w.alloc (.cells #[.slice a Xs.length cap] 27)).alloc (.cells #[.string E.id, .string E.ti, .int .i64 E.st, .int .i64 E.lg, .string E.f, .int .i64 E.e, .slice ra rn rc, .int .i64 E.c, .int .i64 E.u, .slice sa sn sc, .slice ma mn mc] 44)).alloc (.cells #[.slice none 0 0] 27)).heap[w.heap.size + 1]? = some (.cells #[.string E.id, .string E.ti, .int .i64 E.st, .int .i64 E.lg, .string E.f, .int .i64 E.e, .slice ra rn rc, .int .i64 E.c, .int .i64 E.u, .slice sa sn sc, .slice ma mn mc] 44 (0, 0)) := block_alloc _ (block_at _ (World.size_alloc _ _))
  have k2 : (((w.alloc (.cells #[.slice a Xs.length cap] 27)).alloc (.cells #[.string E.id, .string E.ti, .int .i64 E.st, .int .i64 E.lg, .string E.f, .int .i64 E.e, .slice ra rn rc, .int .i64 E.c, .int .i64 E.u, .slice sa sn sc, .slice ma mn mc] 44)).alloc (.cells #[.slice none 0 0] 27)).heap[w.heap.size + 1 + 1]? = some (.cells #[.slice none 0 0] 27 (0, 0)) := block_at _ (by rw [World.size_alloc, World.size_alloc])
  have sz : (((w.alloc (.cells #[.slice a Xs.length cap] 27)).alloc (.cells #[.string E.id, .string E.ti, .int .i64 E.st, .int .i64 E.lg, .string E.f, .int .i64 E.e, .slice ra rn rc, .int .i64 E.c, .int .i64 E.u, .slice sa sn sc, .slice ma mn mc] 44)).alloc (.cells #[.slice none 0 0] 27)).heap.size = w.heap.size + 3 := by rw [World.size_alloc, World.size_alloc, World.size_alloc]
  have HEE : Hid (Calls _ _ _ _ _) := EE _ A3
  have K0 : Hid (_) := k0
  have K1 : Hid (_) := k1
  have K2 : Hid (_) := k2
  have A0 : Hid (_) := A3
  have SZ : Hid (_) := sz
  have HR : Hid (MR base w (.slice a Xs.length cap) Xs) := hR
  have HOK : Hid (∀ X ∈ Xs, X.ok) := hok
  unfold ev at HEE ⊢
  obtain ⟨e0, e1, e2, e3, e4, e5, e6, e7, e8, e9, e10⟩ := blk11 k1
  have cB0 := cell_of k0
  clear A3 k0 k1 k2 sz hR hok EE
  have FIN : Hid (∀ (W : World) (oa : Option Addr) (n oc : Nat), Below w.heap.size w W → w.heap.size + 3 ≤ W.heap.size → W.heap[w.heap.size + 1 + 1]? = some (.cells #[.slice none 0 0] 27 (0, 0)) → W.cell? ⟨w.heap.size + 1 + 1, 0, none⟩ = some (.slice none 0 0) ∧ W.frozen? ⟨w.heap.size + 1 + 1, 0, none⟩ = false ∧ (W.setCell ⟨w.heap.size + 1 + 1, 0, none⟩ (.slice oa n oc)).cell? ⟨w.heap.size + 1 + 1, 0, none⟩ = some (.slice oa n oc) ∧ Below w.heap.size w (W.setCell ⟨w.heap.size + 1 + 1, 0, none⟩ (.slice oa n oc))) := fun W oa n oc hB hs k2 => by
    have g1 := grown_set W ⟨w.heap.size + 1 + 1, 0, none⟩ (.slice oa n oc)
    refine ⟨cell_of k2, blk11_frozen k2 0, cell_of (set_block (i := 0) _ k2), ?_⟩
    exact ⟨g1.os.trans hB.os, g1.tape.trans hB.tape, g1.output.trans hB.output, by have := g1.size; have := hB.size; omega, fun k hk => (g1.block k (by omega) (fun q => by have : k = w.heap.size + 1 + 1 := Option.some.inj q; omega)).trans (hB.block k hk)⟩
  go_enter Tryz.func21, Tryz.ntmps21
  generalize hw0 : ((w.alloc (.cells #[.slice a Xs.length cap] 27)).alloc (.cells #[.string E.id, .string E.ti, .int .i64 E.st, .int .i64 E.lg, .string E.f, .int .i64 E.e, .slice ra rn rc, .int .i64 E.c, .int .i64 E.u, .slice sa sn sc, .slice ma mn mc] 44)).alloc (.cells #[.slice none 0 0] 27) = w0 at HEE K0 K1 K2 A0 SZ cB0 e0 e1 e2 e3 e4 e5 e6 e7 e8 e9 e10
  go_upto_region 2 with (go_at_call 48; refine Calls.mono HEE.out ?_; rintro r w1 ⟨rfl, hb1⟩)
  have B1 : Hid (Below w.heap.size w w1) := below_then A0.out hb1
  have s1 : w.heap.size + 3 ≤ w1.heap.size := by rw [← SZ.out]; exact hb1.size
  have K01 : Hid (w1.heap[w.heap.size]? = some (.cells #[.slice a Xs.length cap] 27 (0, 0))) := (hb1.block _ (by rw [SZ.out]; omega)).trans K0.out
  have K11 : Hid (w1.heap[w.heap.size + 1]? = some (.cells #[.string E.id, .string E.ti, .int .i64 E.st, .int .i64 E.lg, .string E.f, .int .i64 E.e, .slice ra rn rc, .int .i64 E.c, .int .i64 E.u, .slice sa sn sc, .slice ma mn mc] 44 (0, 0))) := (hb1.block _ (by rw [SZ.out]; omega)).trans K1.out
  have K21 : Hid (w1.heap[w.heap.size + 1 + 1]? = some (.cells #[.slice none 0 0] 27 (0, 0))) := (hb1.block _ (by rw [SZ.out]; omega)).trans K2.out
  clear HEE K0 K1 K2 A0 SZ cB0 e0 e1 e2 e3 e4 e5 e6 e7 e8 e9 e10 hw0 hb1
  by_cases hk0 : k = 0
  case neg =>
    have hk1 : 0 < k := by omega
    have HK0 : Hid (k ≠ 0) := hk0
    have cB0 := cell_of K01.out
    obtain ⟨c2, f2, c3, hBl⟩ := FIN.out w1 a Xs.length cap B1.out s1 K21.out
    have HBL : Hid (_) := hBl
    clear hBl FIN hk0
    generalize hxl : Xs.length = xl at cB0 c2 f2 c3 HBL
    have HXL : Hid (Xs.length = xl) := hxl
    clear hxl
    go_wp2
    refine bodyPost_ret (v := .tuple #[.agg #[.slice a xl cap], .int .i64 k]) (by simp [results, Tryz.f21, go_sem, c3]) rfl ⟨_, _, _, _, rfl, HBL.out, .inl ⟨HK0.out, rfl, by rw [HXL.out]⟩⟩
  case pos =>
    subst hk0
    have FD : Hid (Calls _ _ _ _ _) := find_any base E.id (.slice a Xs.length cap) Xs w1 (HR.out.far (fun k _ hk => B1.out.block k hk)) h8
    have WI : Hid (∀ W, Below w1.heap.size w1 W → Calls Tryz.prog 49 #[.agg #[.slice a Xs.length cap], ev E (.slice ra rn rc) (.slice sa sn sc) (.slice ma mn mc)] W fun r w' => ∃ v', r = .returned (.agg #[v']) ∧ MR W.heap.size w' v' (ins ⟨E, .slice ra rn rc, .slice sa sn sc, .slice ma mn mc⟩ (Xs.filter fun X => decide (X.E.id ≠ E.id))) ∧ Below W.heap.size W w') := fun W hW => with_any base E ra rn rc sa sn sc ma mn mc _ Xs W (HR.out.far (fun k _ hk => (below_then B1.out hW).block k hk)) h8 HOK.out
    unfold ev at WI
    have cB0 := cell_of K01.out
    obtain ⟨e0, e1, e2, e3, e4, e5, e6, e7, e8, e9, e10⟩ := blk11 K11.out
    have TAIL : Hid (∀ w5 : World, Below w1.heap.size w1 w5 → w5.cell? ⟨w.heap.size, 0, none⟩ = some (.slice a Xs.length cap) ∧ w5.cell? ⟨w.heap.size + 1, 0, none⟩ = some (.string E.id) ∧ w5.heap[w.heap.size + 1]? = some (.cells #[.string E.id, .string E.ti, .int .i64 E.st, .int .i64 E.lg, .string E.f, .int .i64 E.e, .slice ra rn rc, .int .i64 E.c, .int .i64 E.u, .slice sa sn sc, .slice ma mn mc] 44 (0, 0)) ∧ w5.heap[w.heap.size + 1 + 1]? = some (.cells #[.slice none 0 0] 27 (0, 0)) ∧ w.heap.size + 3 ≤ w5.heap.size) := fun w5 hb5 => ⟨cell_step cB0 hb5, cell_step e0 hb5, (hb5.block _ (by omega)).trans K11.out, (hb5.block _ (by omega)).trans K21.out, Nat.le_trans s1 hb5.size⟩
    by_cases hf : ∃ X ∈ Xs, X.E.id = E.id
    case pos =>
      have HF : Hid (∃ X ∈ Xs, X.E.id = E.id) := hf
      go_upto_region 6 with (go_at_call 24; refine Calls.mono FD.out ?_; rintro r w5 ⟨kf, rfl, hkf, hkf1, hkf2, hb5⟩; have hkf0 : 0 ≤ kf := hkf.2 HF.out; clear hkf)
      have HB5 : Hid (Below w1.heap.size w1 w5) := hb5
      obtain ⟨d0, _, d1, d2, s5⟩ := TAIL.out w5 hb5
      have WI5 : Hid (Calls _ _ _ _ _) := WI.out w5 hb5
      clear e0 e1 e2 e3 e4 e5 e6 e7 e8 e9 e10 cB0 FD WI hb5 hf
      have HD2 : Hid (_) := d2
      obtain ⟨e0, e1, e2, e3, e4, e5, e6, e7, e8, e9, e10⟩ := blk11 d1
      go_wp2_with (go_at_call 49; refine Calls.mono WI5.out ?_; rintro r w6 ⟨v6, rfl, hm6, hb6⟩; obtain ⟨oa, oc, rfl, _, _⟩ := hm6.form; have B6 : Hid (Below w.heap.size w w6) := below_then B1.out (below_then HB5.out hb6); have k26 := (hb6.block _ (by omega)).trans HD2.out; have s6 : w.heap.size + 3 ≤ w6.heap.size := Nat.le_trans s5 hb6.size; have HM6 : Hid (MR w5.heap.size w6 _ _) := hm6; clear hm6 hb6; generalize hil : (ins ⟨E, .slice ra rn rc, .slice sa sn sc, .slice ma mn mc⟩ (Xs.filter fun X => decide (X.E.id ≠ E.id))).length = il at HM6 ⊢; obtain ⟨c2, f2, c3, hBl⟩ := FIN.out w6 oa il oc B6.out s6 k26; have HBL : Hid (_) := hBl; clear hBl k26)
      refine bodyPost_ret (v := .tuple #[.agg #[.slice oa il oc], .int .i64 0]) (by simp [results, Tryz.f21, go_sem, c3]) rfl ⟨_, _, _, _, rfl, HBL.out, .inr (.inr ⟨rfl, fun q => q.1 HF.out, rfl, ?_⟩)⟩
      exact own_base (MR.far HM6.out (fun k hk _ => Below.heap_setCell _ _ _ k (by intro q; have q' : k = w.heap.size + 1 + 1 := q; omega))) (by omega)
    case neg =>
      have HF : Hid (¬ ∃ X ∈ Xs, X.E.id = E.id) := hf
      by_cases h60 : 60 ≤ Xs.length
      case pos =>
        have h60' : (60 : Int) ≤ (Xs.length : Int) := by omega
        have H60 : Hid (60 ≤ Xs.length) := h60
        have hl9 : (Xs.length : Int) ≤ 1000 := by omega
        clear h60
        go_upto_region 5 with (go_at_call 24; refine Calls.mono FD.out ?_; rintro r w5 ⟨kf, rfl, hkf, hkf1, hkf2, hb5⟩; have hkf0 : kf < 0 := Int.not_le.1 (fun q => HF.out (hkf.1 q)); clear hkf; have d0 := cell_step cB0 hb5)
        have HB5 : Hid (Below w1.heap.size w1 w5) := hb5
        obtain ⟨d0', _, d1, d2, s5⟩ := TAIL.out w5 hb5
        obtain ⟨c2, f2, c3, hBl⟩ := FIN.out w5 a Xs.length cap (below_then B1.out hb5) s5 d2
        have HBL : Hid (_) := hBl
        clear hBl FIN d0' d1 d2 hb5 TAIL WI FD
        go_wp2
        refine bodyPost_ret (v := .tuple #[.agg #[.slice a Xs.length cap], .int .i64 7]) (by simp [results, Tryz.f21, go_sem, c3]) rfl ⟨_, _, _, _, rfl, HBL.out, .inr (.inl ⟨rfl, ⟨HF.out, H60.out⟩, rfl, rfl⟩)⟩
      case neg =>
        have h60' : (Xs.length : Int) < 60 := by omega
        have HN6 : Hid (¬ 60 ≤ Xs.length) := h60
        clear h60
        go_upto_region 6 with (go_at_call 24; refine Calls.mono FD.out ?_; rintro r w5 ⟨kf, rfl, hkf, hkf1, hkf2, hb5⟩; have hkf0 : kf < 0 := Int.not_le.1 (fun q => HF.out (hkf.1 q)); clear hkf; have d0 := cell_step cB0 hb5)
        have HB5 : Hid (Below w1.heap.size w1 w5) := hb5
        obtain ⟨d0', _, d1, d2, s5⟩ := TAIL.out w5 hb5
        have WI5 : Hid (Calls _ _ _ _ _) := WI.out w5 hb5
        clear e0 e1 e2 e3 e4 e5 e6 e7 e8 e9 e10 cB0 FD WI hb5 hf
        have HD2 : Hid (_) := d2
        obtain ⟨e0, e1, e2, e3, e4, e5, e6, e7, e8, e9, e10⟩ := blk11 d1
        go_wp2_with (go_at_call 49; refine Calls.mono WI5.out ?_; rintro r w6 ⟨v6, rfl, hm6, hb6⟩; obtain ⟨oa, oc, rfl, _, _⟩ := hm6.form; have B6 : Hid (Below w.heap.size w w6) := below_then B1.out (below_then HB5.out hb6); have k26 := (hb6.block _ (by omega)).trans HD2.out; have s6 : w.heap.size + 3 ≤ w6.heap.size := Nat.le_trans s5 hb6.size; have HM6 : Hid (MR w5.heap.size w6 _ _) := hm6; clear hm6 hb6; generalize hil : (ins ⟨E, .slice ra rn rc, .slice sa sn sc, .slice ma mn mc⟩ (Xs.filter fun X => decide (X.E.id ≠ E.id))).length = il at HM6 ⊢; obtain ⟨c2, f2, c3, hBl⟩ := FIN.out w6 oa il oc B6.out s6 k26; have HBL : Hid (_) := hBl; clear hBl k26)
        refine bodyPost_ret (v := .tuple #[.agg #[.slice oa il oc], .int .i64 0]) (by simp [results, Tryz.f21, go_sem, c3]) rfl ⟨_, _, _, _, rfl, HBL.out, .inr (.inr ⟨rfl, fun q => HN6.out q.2, rfl, ?_⟩)⟩
        exact own_base (MR.far HM6.out (fun k hk _ => Below.heap_setCell _ _ _ k (by intro q; have q' : k = w.heap.size + 1 + 1 := q; omega))) (by omega)
end Go.Proofs.YtnpecjccajebiaaGreatDoor

/- Calendars in plain words: events, rising by their IDs; what a book's map then holds. -/
namespace Go.Proofs.YtnpecjccajebiaaGreatDoor
open Go Go.RowKit Go.Maps Go.Sort Cal

/-- an ID's bytes -/
def kb (E : EV) : List UInt8 := E.id.data.toList
theorem id_eq {a b : ByteArray} (h : a.data.toList = b.data.toList) : a = b := by
  cases a; cases b
  simpa [Array.toList_inj] using h
theorem kb_inj {E F : EV} (h : kb E = kb F) : E.id = F.id := id_eq h
def ltE (E F : EV) : Bool := Op.bytesLess E.id.toList F.id.toList
theorem ltE_eq (E F : EV) : ltE E F = decide (kb E < kb F) := by
  unfold ltE kb
  rw [bytesLess_eq, ByteArray.toList_eq, ByteArray.toList_eq]
theorem lt_of_not {x y : List UInt8} (h : ¬ x < y) (hne : y ≠ x) : y < x := by
  by_cases q : y < x
  · exact q
  · exact absurd (List.le_antisymm (List.not_lt.1 h) (List.not_lt.1 q)) hne

/-- E put in ahead of the first one that it stands ahead of -/
def insE (E : EV) : List EV → List EV
  | [] => [E]
  | F :: r => if ltE E F then E :: F :: r else F :: insE E r
def woC (id : ByteArray) (C : List EV) : List EV := C.filter fun F => decide (F.id ≠ id)
def putC (E : EV) (C : List EV) : List EV := insE E (woC E.id C)
/-- they rise -/
def Rises (C : List EV) : Prop := C.Pairwise fun a b => kb a < kb b

theorem insE_mem {E F : EV} : ∀ {C : List EV}, F ∈ insE E C ↔ F = E ∨ F ∈ C
  | [] => by simp [insE]
  | Y :: r => by
    unfold insE
    split
    · simp
    · rw [List.mem_cons, insE_mem, List.mem_cons]
      constructor
      · rintro (h | h | h)
        · exact .inr (.inl h)
        · exact .inl h
        · exact .inr (.inr h)
      · rintro (h | h | h)
        · exact .inr (.inl h)
        · exact .inl h
        · exact .inr (.inr h)
theorem insE_len (E : EV) : ∀ C : List EV, (insE E C).length = C.length + 1
  | [] => rfl
  | Y :: r => by
    unfold insE
    split
    · rfl
    · rw [List.length_cons, insE_len E r]; rfl
theorem insE_rises {E : EV} : ∀ {C : List EV}, Rises C → (∀ F ∈ C, F.id ≠ E.id) → Rises (insE E C)
  | [], _, _ => List.pairwise_singleton _ _
  | Y :: r, h, hn => by
    obtain ⟨h1, h2⟩ := List.pairwise_cons.1 h
    unfold insE
    split
    · rename_i hlt
      rw [ltE_eq, decide_eq_true_iff] at hlt
      refine List.pairwise_cons.2 ⟨fun F hF => ?_, h⟩
      rcases List.mem_cons.1 hF with rfl | hF
      · exact hlt
      · exact List.lt_trans hlt (h1 F hF)
    · rename_i hlt
      rw [ltE_eq, decide_eq_true_iff] at hlt
      have hYE : kb Y < kb E := lt_of_not hlt (fun q => hn Y (List.mem_cons_self) (kb_inj q))
      refine List.pairwise_cons.2 ⟨fun F hF => ?_, insE_rises h2 (fun F hF => hn F (List.mem_cons_of_mem _ hF))⟩
      rcases insE_mem.1 hF with rfl | hF
      · exact hYE
      · exact h1 F hF
theorem woC_mem {id : ByteArray} {C : List EV} {F : EV} : F ∈ woC id C ↔ F ∈ C ∧ F.id ≠ id := by
  unfold woC
  rw [List.mem_filter, decide_eq_true_iff]
theorem woC_rises {id : ByteArray} {C : List EV} (h : Rises C) : Rises (woC id C) := h.filter _
theorem putC_mem {E : EV} {C : List EV} {F : EV} : F ∈ putC E C ↔ F = E ∨ (F ∈ C ∧ F.id ≠ E.id) := by
  unfold putC
  rw [insE_mem, woC_mem]
theorem putC_rises {E : EV} {C : List EV} (h : Rises C) : Rises (putC E C) := insE_rises (woC_rises h) (fun _ hF => (woC_mem.1 hF).2)
theorem Rises.uniq {C : List EV} (h : Rises C) {E F : EV} (hE : E ∈ C) (hF : F ∈ C) (e : E.id = F.id) : E = F := by
  induction C with
  | nil => cases hE
  | cons Y r ih =>
    obtain ⟨h1, h2⟩ := List.pairwise_cons.1 h
    have hk : kb E = kb F := by unfold kb; rw [e]
    rcases List.mem_cons.1 hE with rfl | hE' <;> rcases List.mem_cons.1 hF with rfl | hF'
    · rfl
    · exact absurd (h1 F hF') (by rw [hk]; exact List.lt_irrefl _)
    · exact absurd (h1 E hE') (by rw [hk]; exact List.lt_irrefl _)
    · exact ih h2 hE' hF'
theorem woC_same {id : ByteArray} {C : List EV} (h : ∀ F ∈ C, F.id ≠ id) : woC id C = C := by
  unfold woC
  rw [List.filter_eq_self]
  exact fun F hF => decide_eq_true (h F hF)
theorem woC_len {E : EV} {C : List EV} (h : Rises C) (hE : E ∈ C) : (woC E.id C).length + 1 = C.length := by
  induction C with
  | nil => cases hE
  | cons Y r ih =>
    obtain ⟨h1, h2⟩ := List.pairwise_cons.1 h
    by_cases e : Y.id = E.id
    · have hr : woC E.id r = r := woC_same (fun F hF q => by
        have := h1 F hF
        unfold kb at this
        rw [e, q] at this
        exact List.lt_irrefl _ this)
      have : woC E.id (Y :: r) = woC E.id r := by unfold woC; rw [List.filter_cons_of_neg]; simp [e]
      rw [this, hr]; rfl
    · have hE' : E ∈ r := by
        rcases List.mem_cons.1 hE with rfl | q
        · exact absurd rfl e
        · exact q
      have : woC E.id (Y :: r) = Y :: woC E.id r := by unfold woC; rw [List.filter_cons_of_pos]; simp [e]
      rw [this, List.length_cons, ih h2 hE']; rfl

/-- what a book's map holds: an event of C for each ID, its lists off the blocks of N -/
structure Holds (N : Nat → Prop) (W : World) (D : DataW Value) (C : List EV) : Prop where
  up : Rises C
  tidy : Tidy D
  size : Maps.size D = C.length
  has : ∀ x : List UInt8, Maps.has D (.string x) = true ↔ ∃ E ∈ C, kb E = x
  at_ : ∀ E ∈ C, (EW E ∧ E.ds.length ≤ 20) ∧ ∃ sl skv mvv, D.atKey (key E.id) (.held zV) = .held (ev E sl skv mvv) ∧ Off N W E sl skv mvv
theorem Holds.none (N : Nat → Prop) (W : World) : Holds N W (.map []) [] :=
  ⟨List.Pairwise.nil, ⟨[], rfl, List.Pairwise.nil⟩, rfl, fun x => by simp [has_eq], fun E h => absurd h (by simp)⟩
end Go.Proofs.YtnpecjccajebiaaGreatDoor
