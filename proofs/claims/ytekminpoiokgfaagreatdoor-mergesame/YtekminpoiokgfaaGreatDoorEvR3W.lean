/- The document's own EventError. -/
import Derived.Test.YtekminpoiokgfaaGreatDoorEvR2W
import Derived.Test.YtekminpoiokgfaaGreatDoorEvL2W
import Derived.Deep.SlicePairs
namespace Go.Proofs.YtekminpoiokgfaaGreatDoor
open Go Go.RowKit Cal
attribute [local go_sem] Oper.semAt_some

theorem bool_of' (P : Prop) : ∃ b : Bool, b = true ↔ P := by
  by_cases h : P
  · exact ⟨true, fun _ => h, fun _ => rfl⟩
  · exact ⟨false, fun q => absurd q (by decide), fun q => absurd q h⟩
theorem errK_un {f : ByteArray} {e : Int} {ds : List Int} {c u k k' : Int} (h : ErrK f e ds c u k) (h' : ErrK f e ds c u k') : k = k' := by
  cases h1 : isF f with
  | false => rw [errK_1 h h1, errK_1 h' h1]
  | true =>
    by_cases h2 : bN e c u = true ∧ bD ds
    · by_cases h3 : shp (f.toList == [111, 110, 99, 101]) (f.toList == [119, 101, 101, 107, 108, 121]) e c u ds.length
      · by_cases h4 : Rise ds
        · rw [(errK_0 h).2 (well_of h1 h2.1 h2.2 h3 h4), (errK_0 h').2 (well_of h1 h2.1 h2.2 h3 h4)]
        · rw [errK_4 h h1 h2 h3 h4, errK_4 h' h1 h2 h3 h4]
      · rw [errK_3 h h1 h2 h3, errK_3 h' h1 h2 h3]
    · rw [errK_2 h h1 h2, errK_2 h' h1 h2]
theorem isDayR_any (n : Int) (b : Bool) (hb : b = true ↔ dayP n) (w : World) : Calls Tryz.prog 57 #[.int .i64 n] w fun e w' => e = .returned (.bool b) ∧ w' = w := by
  cases b with
  | true => obtain ⟨h0, h1⟩ := hb.1 rfl; exact isDayR_yes n w h0 h1
  | false =>
    have h : ¬ dayP n := fun q => absurd (hb.2 q) (by decide)
    unfold dayP at h
    exact isDayR_no n w (by omega)
theorem inR_any (n a c : Int) (b : Bool) (hb : b = true ↔ (a ≤ n ∧ n ≤ c)) (w : World) : Calls Tryz.prog 58 #[.int .i64 n, .int .i64 a, .int .i64 c] w fun e w' => e = .returned (.bool b) ∧ w' = w := by
  cases b with
  | true => obtain ⟨h0, h1⟩ := hb.1 rfl; exact in_yes n a c w h0 h1
  | false =>
    have h : ¬ (a ≤ n ∧ n ≤ c) := fun q => absurd (hb.2 q) (by decide)
    exact in_no n a c w (by omega)
/-- numbers that were handed over, place by place -/
theorem got_z {w : World} {a : Option Addr} {cap : Nat} {xs : List Int} (h : Got w (.slice a xs.length cap) xs) : ∀ j, j < xs.length → ∃ ad, a = some ad ∧ ∀ W, Below w.heap.size w W → W.cell? (ad.add j) = some (.int .i64 (zS xs j)) := fun j hj => by
  obtain ⟨a', c', e, hn, hs⟩ := h
  cases e
  cases a with
  | none => exact absurd (hn rfl).1 (by omega)
  | some ad =>
    obtain ⟨p1, p2⟩ := hs ad rfl j hj
    refine ⟨ad, rfl, fun W hb => ?_⟩
    rw [zS_at hj]
    exact (World.cell?_of_block (a := ad.add j) (hb.block _ (by rw [addr_add_block]; exact p1))).trans p2
theorem gotM_z {w : World} {a : Option Addr} {cap : Nat} {xs : List (Int × Int)} (h : GotM w (.slice a xs.length cap) xs) : ∀ j, j < xs.length → ∃ ad, a = some ad ∧ ∀ W, Below w.heap.size w W → W.cell? (ad.add (j * 2)) = some (.int .i64 (pM' xs j)) ∧ W.cell? (ad.add (j * 2 + 1)) = some (.int .i64 (qM' xs j)) := fun j hj => by
  obtain ⟨a', c', e, hn, hs⟩ := h
  cases e
  cases a with
  | none => exact absurd (hn rfl).1 (by omega)
  | some ad =>
    obtain ⟨p1, p2, p3⟩ := hs ad rfl j hj
    refine ⟨ad, rfl, fun W hb => ⟨?_, ?_⟩⟩
    · rw [pM_at hj]
      exact (World.cell?_of_block (a := ad.add (j * 2)) (hb.block _ (by rw [addr_add_block]; exact p1))).trans p2
    · rw [qM_at hj]
      exact (World.cell?_of_block (a := ad.add (j * 2 + 1)) (hb.block _ (by rw [addr_add_block]; exact p1))).trans p3
theorem isIn_got {w : World} {a : Option Addr} {cap : Nat} {xs : List Int} (x : Int) (h : Got w (.slice a xs.length cap) xs) (hl : xs.length ≤ 100000) :
    Calls Tryz.prog 60 #[.int .i64 x, .slice a xs.length cap] w fun r w' => r = .returned (.bool (inB xs x)) ∧ w' = w := by
  obtain ⟨a', c', e, hn, hs⟩ := h
  cases e
  cases a with
  | none =>
    obtain ⟨h0, rfl⟩ := hn rfl
    have : xs = [] := List.length_eq_zero_iff.1 h0
    subst this
    exact isIn_none x w
  | some ad => exact isIn_some x ad _ xs w hl (fun j hj => (hs ad rfl j hj).2)

set_option maxHeartbeats 4000000 in
set_option maxRecDepth 100000 in
theorem eventError_k (E : EV) (sl skv mvv : Value) (k kr : Int) (w : World) (hd : Got w sl E.ds) (hs : Got w skv E.sk) (hm : GotM w mvv E.mv) (h30 : E.id.size ≤ 60) (h60 : E.ti.size ≤ 60) (hs25 : E.sk.length ≤ 60) (hm25 : E.mv.length ≤ 60)
    (hr : ErrK E.f E.e E.ds E.c E.u kr) (hk : EvK E k)
    (RE0 : ∀ W, Got W sl E.ds → Calls Tryz.prog 59 #[rv E.f E.e sl E.c E.u] W fun r w' => r = .returned (.int .i64 kr) ∧ Below W.heap.size W w') :
    Calls Tryz.prog 34 #[ev E sl skv mvv] w fun r w' => r = .returned (.int .i64 k) ∧ Below w.heap.size w w' := by
  obtain ⟨ra, rc, rfl⟩ := got_form hd
  obtain ⟨sa, sc, rfl⟩ := got_form hs
  obtain ⟨ma, mc, rfl⟩ := gotM_form hm
  have ZS : Hid (_) := got_z hs
  have ZM : Hid (_) := gotM_z hm
  have IX : Hid (∀ (x : Int) W, Below w.heap.size w W → Calls Tryz.prog 60 #[.int .i64 x, .slice sa E.sk.length sc] W fun r w' => r = .returned (.bool (inB E.sk x)) ∧ w' = W) := fun x W h => isIn_got x (hs.step h) (by omega)
  have RE1 : Hid (∀ W, Below w.heap.size w W → Calls Tryz.prog 59 #[rv E.f E.e (.slice ra E.ds.length rc) E.c E.u] W fun r w' => r = .returned (.int .i64 kr) ∧ Below W.heap.size W w') := fun W h => RE0 W (hd.step h)
  have LK : Hid (LKF E.sk E.mv (lk E.sk E.mv)) := lkf E.sk E.mv
  have KR0 : Hid (kr = 0 ↔ Well (rd E.f E.e E.ds E.c E.u)) := errK_0 hr
  have HKR : Hid (ErrK E.f E.e E.ds E.c E.u kr) := hr
  have kr0 := errK_bd hr
  obtain ⟨bI, hbI⟩ := bool_of' (okID E.id)
  obtain ⟨bT, hbT⟩ := bool_of' (okTi E.ti)
  have IN : Hid (∀ W, Calls Tryz.prog 55 #[.string E.id] W fun r w' => r = .returned (.bool bI) ∧ w' = W) := fun W => isNameR_any E.id W h30 bI hbI
  have IT : Hid (∀ W, Calls Tryz.prog 56 #[.string E.ti] W fun r w' => r = .returned (.bool bT) ∧ Below W.heap.size W w') := fun W => isTitleR_any E.ti W h60 bT hbT
  have ID0 : Hid (∀ (x : Int) (b : Bool), (b = true ↔ dayP x) → ∀ W, Calls Tryz.prog 57 #[.int .i64 x] W fun r w' => r = .returned (.bool b) ∧ w' = W) := fun x b hb W => isDayR_any x b hb W
  obtain ⟨bD, hbD⟩ := bool_of' (dayP E.st)
  obtain ⟨bL, hbL⟩ := bool_of' (1 ≤ E.lg ∧ E.lg ≤ 60)
  have ID : Hid (∀ W, Calls Tryz.prog 57 #[.int .i64 E.st] W fun r w' => r = .returned (.bool bD) ∧ w' = W) := fun W => isDayR_any E.st bD hbD W
  have II : Hid (∀ W, Calls Tryz.prog 58 #[.int .i64 E.lg, .int .i64 1, .int .i64 60] W fun r w' => r = .returned (.bool bL) ∧ w' = W) := fun W => inR_any E.lg 1 60 bL hbL W
  have HI : Hid (bI = true ↔ okID E.id) := hbI
  have HT : Hid (bT = true ↔ okTi E.ti) := hbT
  have HBE : Hid ((bD = true ∧ bL = true) ↔ bE E.st E.lg) := by
    show _ ↔ _
    rw [hbD, hbL]; exact Iff.rfl
  have HK : Hid (EvK E k) := hk
  have hA := below_alloc w (.cells #[.string E.id, .string E.ti, .int .i64 E.st, .int .i64 E.lg, .string E.f, .int .i64 E.e, .slice ra E.ds.length rc, .int .i64 E.c, .int .i64 E.u, .slice sa E.sk.length sc, .slice ma E.mv.length mc] 44)
  have hB := EB.new w E (.slice ra E.ds.length rc) (.slice sa E.sk.length sc) (.slice ma E.mv.length mc)
  unfold EB at hB
  clear hd hs hm hr hk RE0 hbI hbT hbD hbL
  unfold rv at RE1
  unfold ev
  have hl1 : E.sk.length = E.sk.length := rfl
  have hl2 : E.mv.length = E.mv.length := rfl
  generalize hL : E.sk.length = L at IX hA hB hs25 hl1 ⊢
  generalize hM : E.mv.length = M at hA hB hm25 hl2 ⊢
  have HL : Hid (E.sk.length = L) := hL
  have HM : Hid (E.mv.length = M) := hM
  rw [hL] at ZS
  rw [hM] at ZM
  clear hL hM hl1 hl2
  have RE : Hid (∀ W, Below (w.alloc (.cells #[.string E.id, .string E.ti, .int .i64 E.st, .int .i64 E.lg, .string E.f, .int .i64 E.e, .slice ra E.ds.length rc, .int .i64 E.c, .int .i64 E.u, .slice sa L sc, .slice ma M mc] 44)).heap.size (w.alloc (.cells #[.string E.id, .string E.ti, .int .i64 E.st, .int .i64 E.lg, .string E.f, .int .i64 E.e, .slice ra E.ds.length rc, .int .i64 E.c, .int .i64 E.u, .slice sa L sc, .slice ma M mc] 44)) W → Calls Tryz.prog 59 #[.agg #[.string E.f, .int .i64 E.e, .slice ra E.ds.length rc, .int .i64 E.c, .int .i64 E.u]] W fun r w' => r = .returned (.int .i64 kr) ∧ Below W.heap.size W w') := fun W h => RE1.out W (below_then hA h)
  have BX : Hid (∀ W, Below (w.alloc (.cells #[.string E.id, .string E.ti, .int .i64 E.st, .int .i64 E.lg, .string E.f, .int .i64 E.e, .slice ra E.ds.length rc, .int .i64 E.c, .int .i64 E.u, .slice sa L sc, .slice ma M mc] 44)).heap.size (w.alloc (.cells #[.string E.id, .string E.ti, .int .i64 E.st, .int .i64 E.lg, .string E.f, .int .i64 E.e, .slice ra E.ds.length rc, .int .i64 E.c, .int .i64 E.u, .slice sa L sc, .slice ma M mc] 44)) W → W.heap[w.heap.size]? = some (.cells #[.string E.id, .string E.ti, .int .i64 E.st, .int .i64 E.lg, .string E.f, .int .i64 E.e, .slice ra E.ds.length rc, .int .i64 E.c, .int .i64 E.u, .slice sa L sc, .slice ma M mc] 44 (0, 0))) := fun W h => (h.block _ (Array.getElem?_eq_some_iff.1 hB).1).trans hB
  have HA : Hid (Below w.heap.size w (w.alloc (.cells #[.string E.id, .string E.ti, .int .i64 E.st, .int .i64 E.lg, .string E.f, .int .i64 E.e, .slice ra E.ds.length rc, .int .i64 E.c, .int .i64 E.u, .slice sa L sc, .slice ma M mc] 44))) := hA
  clear RE1
  obtain ⟨x0, x1, x2, x3, x4, x5, x6, x7, x8, x9, x10⟩ := blk11 hB
  clear hA hB
  have base : Hid (∀ W, Below (w.alloc (.cells #[.string E.id, .string E.ti, .int .i64 E.st, .int .i64 E.lg, .string E.f, .int .i64 E.e, .slice ra E.ds.length rc, .int .i64 E.c, .int .i64 E.u, .slice sa L sc, .slice ma M mc] 44)).heap.size (w.alloc (.cells #[.string E.id, .string E.ti, .int .i64 E.st, .int .i64 E.lg, .string E.f, .int .i64 E.e, .slice ra E.ds.length rc, .int .i64 E.c, .int .i64 E.u, .slice sa L sc, .slice ma M mc] 44)) W → Below w.heap.size w W) := fun W h => below_then HA.out h
  generalize hw0 : w.alloc (.cells #[.string E.id, .string E.ti, .int .i64 E.st, .int .i64 E.lg, .string E.f, .int .i64 E.e, .slice ra E.ds.length rc, .int .i64 E.c, .int .i64 E.u, .slice sa L sc, .slice ma M mc] 44) = w0 at RE BX HA base x0 x1 x2 x3 x4 x5 x6 x7 x8 x9 x10
  cases bI with
  | false =>
    have H1 : Hid (k = 4) := by
      rcases HK.out with h | h | h | h
      · exact h.2
      · exact absurd (HI.out.2 h.1) (by decide)
      · exact absurd (HI.out.2 h.1) (by decide)
      · exact absurd (HI.out.2 h.1) (by decide)
    clear HI HT HBE HK LK ZS ZM IX IT ID II RE ID0
    subst hw0
    go_enter Tryz.func34, Tryz.ntmps34
    go_wp2_with (go_at_call 55; refine (IN.out _).mono ?_; rintro r w1 ⟨rfl, rfl⟩)
    go_ret
    exact ⟨ret_int H1.out.symm, HA.out⟩
  | true =>
  have oID : Hid (okID E.id) := HI.out.1 rfl
  cases bT with
  | false =>
    have H1 : Hid (k = 1) := by
      rcases HK.out with h | h | h | h
      · exact absurd oID.out h.1
      · exact h.2.2
      · exact absurd (HT.out.2 h.2.1) (by decide)
      · exact absurd (HT.out.2 h.2.1) (by decide)
    clear HI HT HBE HK LK ZS ZM IX ID II RE ID0 oID
    subst hw0
    go_enter Tryz.func34, Tryz.ntmps34
    go_wp2_with (first | (go_at_call 55; refine (IN.out _).mono ?_; rintro r w1 ⟨rfl, rfl⟩) | (go_at_call 56; refine (IT.out _).mono ?_; rintro r w2 ⟨rfl, hb2⟩; have h2 := hb2; clear x0 x1 x2 x3 x4 x5 x6 x7 x8 x9 x10; obtain ⟨x0, x1, x2, x3, x4, x5, x6, x7, x8, x9, x10⟩ := blk11 (show w2.heap[w.heap.size]? = some (.cells #[.string E.id, .string E.ti, .int .i64 E.st, .int .i64 E.lg, .string E.f, .int .i64 E.e, .slice ra E.ds.length rc, .int .i64 E.c, .int .i64 E.u, .slice sa L sc, .slice ma M mc] 44 (0, 0)) from BX.out _ hb2)))
    go_ret
    exact ⟨ret_int H1.out.symm, base.out _ h2⟩
  | true =>
  have oTi : Hid (okTi E.ti) := HT.out.1 rfl
  by_cases hbe : bD = true ∧ bL = true
  case neg =>
    have H1 : Hid (k = 2) := by
      rcases HK.out with h | h | h | h
      · exact absurd oID.out h.1
      · exact absurd oTi.out h.2.1
      · exact h.2.2.2
      · exact absurd (HBE.out.2 h.2.2.1) hbe
    clear HI HT HBE HK LK ZS ZM IX RE ID0 oID oTi
    subst hw0
    cases bD
    all_goals
      cases bL
      all_goals
        first
          | (exfalso; exact hbe ⟨rfl, rfl⟩)
          | skip
    all_goals
      clear hbe
      go_enter Tryz.func34, Tryz.ntmps34
      go_wp2_with (first | (go_at_call 55; refine (IN.out _).mono ?_; rintro r w1 ⟨rfl, rfl⟩) | (go_at_call 56; refine (IT.out _).mono ?_; rintro r w2 ⟨rfl, hb2⟩; have h2 := hb2; clear x0 x1 x2 x3 x4 x5 x6 x7 x8 x9 x10; obtain ⟨x0, x1, x2, x3, x4, x5, x6, x7, x8, x9, x10⟩ := blk11 (show w2.heap[w.heap.size]? = some (.cells #[.string E.id, .string E.ti, .int .i64 E.st, .int .i64 E.lg, .string E.f, .int .i64 E.e, .slice ra E.ds.length rc, .int .i64 E.c, .int .i64 E.u, .slice sa L sc, .slice ma M mc] 44 (0, 0)) from BX.out _ hb2)) | (go_at_call 57; refine (ID.out _).mono ?_; rintro r w3 ⟨rfl, rfl⟩) | (go_at_call 58; refine (II.out _).mono ?_; rintro r w4 ⟨rfl, rfl⟩))
      go_ret
      exact ⟨ret_int H1.out.symm, base.out _ h2⟩
  case pos =>
  have hBE : Hid (bE E.st E.lg) := HBE.out.1 hbe
  obtain ⟨rfl, rfl⟩ := hbe
  by_cases hkr : kr = 0
  case neg =>
    have H1 : Hid (k = kr) := by
      rcases HK.out with h | h | h | h
      · exact absurd oID.out h.1
      · exact absurd oTi.out h.2.1
      · exact absurd hBE.out h.2.2.1
      · obtain ⟨_, _, _, kr', h4, h5⟩ := h
        have e := errK_un h4 HKR.out
        subst e
        rcases h5 with h5 | h5
        · exact h5.2
        · exact absurd h5.1 hkr
    have hkr1 : 0 < kr := by omega
    clear HI HT HBE HK LK ZS ZM IX ID0 oID oTi hBE KR0 HKR hkr
    subst hw0
    go_enter Tryz.func34, Tryz.ntmps34
    go_wp2_with (first | (go_at_call 55; refine (IN.out _).mono ?_; rintro r w1 ⟨rfl, rfl⟩) | (go_at_call 56; refine (IT.out _).mono ?_; rintro r w2 ⟨rfl, hb2⟩; have h2 := hb2; clear x0 x1 x2 x3 x4 x5 x6 x7 x8 x9 x10; obtain ⟨x0, x1, x2, x3, x4, x5, x6, x7, x8, x9, x10⟩ := blk11 (show w2.heap[w.heap.size]? = some (.cells #[.string E.id, .string E.ti, .int .i64 E.st, .int .i64 E.lg, .string E.f, .int .i64 E.e, .slice ra E.ds.length rc, .int .i64 E.c, .int .i64 E.u, .slice sa L sc, .slice ma M mc] 44 (0, 0)) from BX.out _ hb2)) | (go_at_call 57; refine (ID.out _).mono ?_; rintro r w3 ⟨rfl, rfl⟩) | (go_at_call 58; refine (II.out _).mono ?_; rintro r w4 ⟨rfl, rfl⟩) | (go_at_call 59; refine (RE.out _ h2).mono ?_; rintro r w5 ⟨rfl, hb5⟩; have h5 := below_then h2 hb5; clear x0 x1 x2 x3 x4 x5 x6 x7 x8 x9 x10; obtain ⟨x0, x1, x2, x3, x4, x5, x6, x7, x8, x9, x10⟩ := blk11 (show w5.heap[w.heap.size]? = some (.cells #[.string E.id, .string E.ti, .int .i64 E.st, .int .i64 E.lg, .string E.f, .int .i64 E.e, .slice ra E.ds.length rc, .int .i64 E.c, .int .i64 E.u, .slice sa L sc, .slice ma M mc] 44 (0, 0)) from BX.out _ h5)))
    go_ret
    exact ⟨ret_int H1.out.symm, base.out _ h5⟩
  case pos =>
  have H1 : Hid (k = lk E.sk E.mv) := by
    rcases HK.out with h | h | h | h
    · exact absurd oID.out h.1
    · exact absurd oTi.out h.2.1
    · exact absurd hBE.out h.2.2.1
    · obtain ⟨_, _, _, kr', h4, h5⟩ := h
      have e := errK_un h4 HKR.out
      subst e
      rcases h5 with h5 | h5
      · exact absurd hkr h5.1
      · exact h5.2
  rw [hkr] at RE
  have LF : Hid (LKF E.sk E.mv k) := by rw [H1.out]; exact LK.out
  clear HI HT HBE HK LK oID oTi hBE KR0 HKR hkr kr0 H1
  subst hw0
  go_enter Tryz.func34, Tryz.ntmps34
  go_upto_region 14 with (first | (go_at_call 55; refine (IN.out _).mono ?_; rintro r w1 ⟨rfl, rfl⟩) | (go_at_call 56; refine (IT.out _).mono ?_; rintro r w2 ⟨rfl, hb2⟩; have h2 := hb2; clear x0 x1 x2 x3 x4 x5 x6 x7 x8 x9 x10; obtain ⟨x0, x1, x2, x3, x4, x5, x6, x7, x8, x9, x10⟩ := blk11 (show w2.heap[w.heap.size]? = some (.cells #[.string E.id, .string E.ti, .int .i64 E.st, .int .i64 E.lg, .string E.f, .int .i64 E.e, .slice ra E.ds.length rc, .int .i64 E.c, .int .i64 E.u, .slice sa L sc, .slice ma M mc] 44 (0, 0)) from BX.out _ hb2)) | (go_at_call 57; refine (ID.out _).mono ?_; rintro r w3 ⟨rfl, rfl⟩) | (go_at_call 58; refine (II.out _).mono ?_; rintro r w4 ⟨rfl, rfl⟩) | (go_at_call 59; refine (RE.out _ h2).mono ?_; rintro r w5 ⟨rfl, hb5⟩; have h5 := below_then h2 hb5; clear x0 x1 x2 x3 x4 x5 x6 x7 x8 x9 x10; obtain ⟨x0, x1, x2, x3, x4, x5, x6, x7, x8, x9, x10⟩ := blk11 (show w5.heap[w.heap.size]? = some (.cells #[.string E.id, .string E.ti, .int .i64 E.st, .int .i64 E.lg, .string E.f, .int .i64 E.e, .slice ra E.ds.length rc, .int .i64 E.c, .int .i64 E.u, .slice sa L sc, .slice ma M mc] 44 (0, 0)) from BX.out _ h5)))
  by_cases hno : 20 < L ∨ 20 < M
  case pos =>
    have H1 : Hid (k = 7) := LF.out.full (by rw [HL.out, HM.out]; exact hno)
    clear LF ZS ZM IX ID0
    rcases (show 20 < L ∨ (L ≤ 20 ∧ 20 < M) by omega) with q | ⟨q, q'⟩
    all_goals
      clear hno
      go_wp2
      go_ret
      exact ⟨ret_int H1.out.symm, base.out _ h5⟩
  case neg =>
  have hno' : ¬ (20 < E.sk.length ∨ 20 < E.mv.length) := by rw [HL.out, HM.out]; exact hno
  have F1 : Hid (∀ m, m + 1 < L → zS E.sk (m + 1) ≤ zS E.sk m → k = 8) := fun m hm hz => LF.out.f1 hno' m (by rw [HL.out]; exact hm) hz
  have F2 : Hid (∀ m, m + 1 < M → pM' E.mv (m + 1) ≤ pM' E.mv m → k = 8) := fun m hm hz => LF.out.f2 hno' m (by rw [HM.out]; exact hm) hz
  have F3 : Hid (upS E.sk → upM E.mv → ∀ j, j < L → ¬ dayP (zS E.sk j) → k = 2) := fun a b j hj hz => LF.out.f3 hno' a b j (by rw [HL.out]; exact hj) hz
  have F4 : Hid (upS E.sk → upM E.mv → (∀ j, j < L → dayP (zS E.sk j)) → ∀ j, j < M → (¬ dayP (pM' E.mv j) ∨ ¬ dayP (qM' E.mv j)) → k = 2) := fun a b c j hj hz => LF.out.f4 hno' a b (by rw [HL.out]; exact c) j (by rw [HM.out]; exact hj) hz
  have F5 : Hid (upS E.sk → upM E.mv → (∀ j, j < L → dayP (zS E.sk j)) → (∀ j, j < M → dayP (pM' E.mv j) ∧ dayP (qM' E.mv j)) → ∀ j, j < M → inB E.sk (pM' E.mv j) = true → k = 6) := fun a b c d j hj hz => LF.out.f5 hno' a b (by rw [HL.out]; exact c) (by rw [HM.out]; exact d) j (by rw [HM.out]; exact hj) hz
  have F6 : Hid (upS E.sk → upM E.mv → (∀ j, j < L → dayP (zS E.sk j)) → (∀ j, j < M → dayP (pM' E.mv j) ∧ dayP (qM' E.mv j)) → (∀ j, j < M → inB E.sk (pM' E.mv j) = false) → k = 0) := fun a b c d e => LF.out.f6 hno' a b (by rw [HL.out]; exact c) (by rw [HM.out]; exact d) (by rw [HM.out]; exact e)
  have US : Hid ((∀ m, m + 1 < L → zS E.sk m < zS E.sk (m + 1)) → upS E.sk) := fun h m hm => h m (by rw [← HL.out]; exact hm)
  have UM : Hid ((∀ m, m + 1 < M → pM' E.mv m < pM' E.mv (m + 1)) → upM E.mv) := fun h m hm => h m (by rw [← HM.out]; exact hm)
  have hL20 : L ≤ 20 := by omega
  have hM20 : M ≤ 20 := by omega
  have H5 : Hid (Below (w.alloc (.cells #[.string E.id, .string E.ti, .int .i64 E.st, .int .i64 E.lg, .string E.f, .int .i64 E.e, .slice ra E.ds.length rc, .int .i64 E.c, .int .i64 E.u, .slice sa L sc, .slice ma M mc] 44)).heap.size (w.alloc (.cells #[.string E.id, .string E.ti, .int .i64 E.st, .int .i64 E.lg, .string E.f, .int .i64 E.e, .slice ra E.ds.length rc, .int .i64 E.c, .int .i64 E.u, .slice sa L sc, .slice ma M mc] 44)) w5) := h5
  clear LF hno hno' h5 h2 hb2 hb5 IN IT ID II RE HL HM x0 x1 x2 x3 x4 x5 x6 x7 x8 x9 x10
  have ES : Hid (∀ j, ∃ z, zS E.sk j = z) := fun j => ⟨_, rfl⟩
  generalize zS E.sk = z at ZS F1 F3 F4 F5 F6 US
  have h5x := H5.out
  obtain ⟨x0, x1, x2, x3, x4, x5, x6, x7, x8, x9, x10⟩ := blk11 (show w5.heap[w.heap.size]? = _ from BX.out _ h5x)
  go_wp2
  go_loopw [8] (fun i wr => ∃ m : Nat, (m + 1 ≤ L ∨ m = 0) ∧ i = .int .i64 ((m : Int) + 1) ∧ Hid (∀ (j : Nat), j + 1 < L → j < m → z j < z (j + 1)) ∧ Hid (Below w5.heap.size w5 wr)) (fun i _ => L - (intOf i).toNat)
  case atStart => exact ⟨0, Or.inr rfl, rfl, fun j _ h => absurd h (by omega), Below.refl _ _⟩
  case round =>
  obtain ⟨m, hk, rfl, HA1, hB1⟩ := hrel
  have h6 := below_then H5.out hB1.out
  clear x0 x1 x2 x3 x4 x5 x6 x7 x8 x9 x10
  obtain ⟨x0, x1, x2, x3, x4, x5, x6, x7, x8, x9, x10⟩ := blk11 (show wr.heap[w.heap.size]? = _ from BX.out _ h6)
  by_cases hlt : m + 1 < L
  case pos =>
    obtain ⟨ad, rfl, hc⟩ := ZS.out (m + 1) hlt
    obtain ⟨ad', ea, hc'⟩ := ZS.out m (by omega)
    cases ea
    have c1 := hc _ (base.out _ h6)
    have c2 := hc' _ (base.out _ h6)
    have HF : Hid (z (m + 1) ≤ z m → k = 8) := fun q => F1.out m hlt q
    have HN : Hid (z m < z (m + 1) → ∀ (j : Nat), j + 1 < L → j < m + 1 → z j < z (j + 1)) := fun q j hj hjk => by
      by_cases ej : j = m
      · subst ej; exact q
      · exact HA1.out j hj (by omega)
    generalize z (m + 1) = d at c1 HF HN
    generalize z m = d' at c2 HF HN
    clear hc hc' HA1
    have hl0 : (m : Int) + 1 < L := by omega
    cases m with
    | zero =>
      have hc1 : wr.cell? ⟨ad.block, ad.off + 1, none⟩ = some (.int .i64 d) := c1
      have hc0 : wr.cell? ad = some (.int .i64 d') := c2
      have hl1 : 1 < L := by omega
      have hl2 : (1 : Int) < L := by omega
      clear c1 c2
      by_cases hx : d ≤ d'
      · have HF' : Hid (k = 8) := HF.out hx
        clear HF HN
        go_wp2_with (fail)
        go_quiet (fail)
        go_wp2
        go_ret
        exact ⟨ret_int HF'.out.symm, below_then (base.out _ h6) (by first | exact Below.refl _ _ | exact drewN_below _ _)⟩
      · have hx' : d' < d := by omega
        have HN' : Hid (_) := HN.out hx'
        clear HF HN hx
        go_wp2_with (fail)
        go_quiet (fail)
        go_wp2
        go_roundw
        case rel => exact ⟨0 + 1, by omega, by go_num, HN'.out, below_then hB1.out (by first | exact Below.refl _ _ | exact drewN_below _ _)⟩
        case measure => simp [intOf]; omega
    | succ m =>
      have hc1 : wr.cell? ⟨ad.block, ad.off + (m + 1 + 1), none⟩ = some (.int .i64 d) := c1
      have hc0 : wr.cell? ⟨ad.block, ad.off + (m + 1), none⟩ = some (.int .i64 d') := c2
      have hl1 : (m : Int) + 1 + 1 < L := by omega
      have hl2 : (m : Int) + 1 < L := by omega
      have hl3 : m + 1 < L := by omega
      have hl4 : m + 1 + 1 < L := by omega
      clear c1 c2
      by_cases hx : d ≤ d'
      · have HF' : Hid (k = 8) := HF.out hx
        clear HF HN
        go_wp2_with (fail)
        go_quiet (fail)
        go_wp2
        go_ret
        exact ⟨ret_int HF'.out.symm, below_then (base.out _ h6) (by first | exact Below.refl _ _ | exact drewN_below _ _)⟩
      · have hx' : d' < d := by omega
        have HN' : Hid (_) := HN.out hx'
        clear HF HN hx
        go_wp2_with (fail)
        go_quiet (fail)
        go_wp2
        go_roundw
        case rel => exact ⟨m + 1 + 1, by omega, by go_num, HN'.out, below_then hB1.out (by first | exact Below.refl _ _ | exact drewN_below _ _)⟩
        case measure => simp [intOf]; omega
  case neg =>
  have U1 : Hid (upS E.sk) := US.out (fun j hj => HA1.out j hj (by omega))
  have hlt' : ¬ (m : Int) + 1 < L := by omega
  clear HA1 US F1 hk
  have H6 : Hid (_) := h6
  go_wp2
  clear hlt hlt'
  rename World => w6
  go_loopw [9] (fun i wr => ∃ m : Nat, (m + 1 ≤ M ∨ m = 0) ∧ i = .int .i64 ((m : Int) + 1) ∧ Hid (∀ (j : Nat), j + 1 < M → j < m → pM' E.mv j < pM' E.mv (j + 1)) ∧ Hid (Below w6.heap.size w6 wr)) (fun i _ => M - (intOf i).toNat)
  case atStart => exact ⟨0, Or.inr rfl, rfl, fun j _ h => absurd h (by omega), Below.refl _ _⟩
  case round =>
  obtain ⟨m, hk, rfl, HA2, hB2⟩ := hrel
  have h6 := below_then H6.out hB2.out
  clear x0 x1 x2 x3 x4 x5 x6 x7 x8 x9 x10
  obtain ⟨x0, x1, x2, x3, x4, x5, x6, x7, x8, x9, x10⟩ := blk11 (show wr.heap[w.heap.size]? = _ from BX.out _ h6)
  by_cases hlt : m + 1 < M
  case pos =>
    obtain ⟨ad, rfl, hc⟩ := ZM.out (m + 1) hlt
    obtain ⟨ad', ea, hc'⟩ := ZM.out m (by omega)
    cases ea
    have c1 := (hc _ (base.out _ h6)).1
    have c2 := (hc' _ (base.out _ h6)).1
    have HF : Hid (pM' E.mv (m + 1) ≤ pM' E.mv m → k = 8) := fun q => F2.out m hlt q
    have HN : Hid (pM' E.mv m < pM' E.mv (m + 1) → ∀ (j : Nat), j + 1 < M → j < m + 1 → pM' E.mv j < pM' E.mv (j + 1)) := fun q j hj hjk => by
      by_cases ej : j = m
      · subst ej; exact q
      · exact HA2.out j hj (by omega)
    generalize pM' E.mv (m + 1) = d at c1 HF HN
    generalize pM' E.mv m = d' at c2 HF HN
    clear hc hc' HA2
    have hl0 : (m : Int) + 1 < M := by omega
    cases m with
    | zero =>
      have hc1 : wr.cell? ⟨ad.block, ad.off + 2, none⟩ = some (.int .i64 d) := c1
      have hc0 : wr.cell? ad = some (.int .i64 d') := c2
      have hl1 : 1 < M := by omega
      have hl2 : (1 : Int) < M := by omega
      clear c1 c2
      by_cases hx : d ≤ d'
      · have HF' : Hid (k = 8) := HF.out hx
        clear HF HN
        go_wp2_with (fail)
        go_quiet (fail)
        go_wp2
        go_ret
        exact ⟨ret_int HF'.out.symm, below_then (base.out _ h6) (by first | exact Below.refl _ _ | exact drewN_below _ _)⟩
      · have hx' : d' < d := by omega
        have HN' : Hid (_) := HN.out hx'
        clear HF HN hx
        go_wp2_with (fail)
        go_quiet (fail)
        go_wp2
        go_roundw
        case rel => exact ⟨0 + 1, by omega, by go_num, HN'.out, below_then hB2.out (by first | exact Below.refl _ _ | exact drewN_below _ _)⟩
        case measure => simp [intOf]; omega
    | succ m =>
      have hc1 : wr.cell? ⟨ad.block, ad.off + (m + 1 + 1) * 2, none⟩ = some (.int .i64 d) := c1
      have hc0 : wr.cell? ⟨ad.block, ad.off + (m + 1) * 2, none⟩ = some (.int .i64 d') := c2
      have hl1 : (m : Int) + 1 + 1 < M := by omega
      have hl2 : (m : Int) + 1 < M := by omega
      have hl3 : m + 1 < M := by omega
      have hl4 : m + 1 + 1 < M := by omega
      skip
      by_cases hx : d ≤ d'
      · have HF' : Hid (k = 8) := HF.out hx
        clear HF HN
        go_wp2_with (fail)
        go_quiet (fail)
        go_wp2
        go_ret
        exact ⟨ret_int HF'.out.symm, below_then (base.out _ h6) (by first | exact Below.refl _ _ | exact drewN_below _ _)⟩
      · have hx' : d' < d := by omega
        have HN' : Hid (_) := HN.out hx'
        clear HF HN hx
        go_wp2_with (fail)
        go_quiet (fail)
        go_wp2
        go_roundw
        case rel => exact ⟨m + 1 + 1, by omega, by go_num, HN'.out, below_then hB2.out (by first | exact Below.refl _ _ | exact drewN_below _ _)⟩
        case measure => simp [intOf]; omega
  case neg =>
  have U2 : Hid (upM E.mv) := UM.out (fun j hj => HA2.out j hj (by omega))
  have hlt' : ¬ (m : Int) + 1 < M := by omega
  clear HA2 UM F2 hk
  have H7 : Hid (_) := h6
  go_wp2
  clear hlt hlt' h6
  rename World => w7
  go_loopw [10, 11] (fun i _ wr => ∃ m : Nat, m ≤ L ∧ i = .int .i64 m ∧ Hid (∀ (j : Nat), j < m → dayP (z j)) ∧ Hid (Below w7.heap.size w7 wr)) (fun i _ _ => L - (intOf i).toNat)
  case atStart => exact ⟨0, Nat.zero_le _, rfl, fun j h => absurd h (by omega), Below.refl _ _⟩
  case round =>
  obtain ⟨m, hk, rfl, HA3, hB3⟩ := hrel
  have h6 := below_then H7.out hB3.out
  clear x0 x1 x2 x3 x4 x5 x6 x7 x8 x9 x10
  obtain ⟨x0, x1, x2, x3, x4, x5, x6, x7, x8, x9, x10⟩ := blk11 (show wr.heap[w.heap.size]? = _ from BX.out _ h6)
  by_cases hlt : m < L
  case pos =>
    obtain ⟨ad, rfl, hc⟩ := ZS.out m hlt
    have c1 := hc _ (base.out _ h6)
    obtain ⟨b, hb⟩ := bool_of' (dayP (z m))
    have HF : Hid (b = false → k = 2) := fun q => F3.out U1.out U2.out m hlt (fun q' => by rw [q] at hb; exact absurd (hb.2 q') (by decide))
    have HN : Hid (b = true → ∀ (j : Nat), j < m + 1 → dayP (z j)) := fun q j hj => by
      by_cases ej : j = m
      · subst ej; exact hb.1 q
      · exact HA3.out j (by omega)
    have IDz : Hid (_) := ID0.out (z m) b hb
    generalize z m = d at c1 IDz
    clear hc HA3 hb ID0
    have hl0 : (m : Int) < L := by omega
    cases m with
    | zero =>
      have hc0 : wr.cell? ad = some (.int .i64 d) := c1
      have hl1 : 0 < L := by omega
      clear c1
      cases b with
      | false =>
        have HF' : Hid (k = 2) := HF.out rfl
        clear HF HN
        go_wp2_with (go_at_call 57; refine (IDz.out _).mono ?_; rintro r wz ⟨rfl, rfl⟩)
        go_ret
        exact ⟨ret_int HF'.out.symm, base.out _ h6⟩
      | true =>
        have HN' : Hid (_) := HN.out rfl
        clear HF HN
        go_wp2_with (go_at_call 57; refine (IDz.out _).mono ?_; rintro r wz ⟨rfl, rfl⟩)
        go_roundw
        case rel => exact ⟨0 + 1, by omega, by go_num, HN'.out, hB3.out⟩
        case measure => simp [intOf]; omega
    | succ m =>
      have hc0 : wr.cell? ⟨ad.block, ad.off + (m + 1), none⟩ = some (.int .i64 d) := c1
      have hl1 : (m : Int) + 1 < L := by omega
      have hl2 : m + 1 < L := by omega
      clear c1
      cases b with
      | false =>
        have HF' : Hid (k = 2) := HF.out rfl
        clear HF HN
        go_wp2_with (go_at_call 57; refine (IDz.out _).mono ?_; rintro r wz ⟨rfl, rfl⟩)
        go_ret
        exact ⟨ret_int HF'.out.symm, base.out _ h6⟩
      | true =>
        have HN' : Hid (_) := HN.out rfl
        clear HF HN
        go_wp2_with (go_at_call 57; refine (IDz.out _).mono ?_; rintro r wz ⟨rfl, rfl⟩)
        go_roundw
        case rel => exact ⟨m + 1 + 1, by omega, by go_num, HN'.out, hB3.out⟩
        case measure => simp [intOf]; omega
  case neg =>
  have U3 : Hid (∀ j, j < L → dayP (z j)) := fun j hj => HA3.out j (by omega)
  have hlt' : ¬ (m : Int) < L := by omega
  clear HA3 F3 hk
  have H8 : Hid (_) := h6
  go_wp2
  clear hlt hlt' h6
  rename World => w8
  go_loopw [12, 13, 14] (fun i _ _ wr => ∃ m : Nat, m ≤ M ∧ i = .int .i64 m ∧ Hid (∀ (j : Nat), j < m → dayP (pM' E.mv j) ∧ dayP (qM' E.mv j)) ∧ Hid (Below w8.heap.size w8 wr)) (fun i _ _ _ => M - (intOf i).toNat)
  case atStart => exact ⟨0, Nat.zero_le _, rfl, fun j h => absurd h (by omega), Below.refl _ _⟩
  case round =>
  obtain ⟨m, hk, rfl, HA4, hB4⟩ := hrel
  have h6 := below_then H8.out hB4.out
  clear x0 x1 x2 x3 x4 x5 x6 x7 x8 x9 x10
  obtain ⟨x0, x1, x2, x3, x4, x5, x6, x7, x8, x9, x10⟩ := blk11 (show wr.heap[w.heap.size]? = _ from BX.out _ h6)
  by_cases hlt : m < M
  case pos =>
    obtain ⟨ad, rfl, hc⟩ := ZM.out m hlt
    obtain ⟨c1, c2⟩ := hc _ (base.out _ h6)
    obtain ⟨b1, hb1⟩ := bool_of' (dayP (pM' E.mv m))
    obtain ⟨b2, hb2⟩ := bool_of' (dayP (qM' E.mv m))
    have HF : Hid (¬ (b1 = true ∧ b2 = true) → k = 2) := fun q => F4.out U1.out U2.out U3.out m hlt (by rw [← hb1, ← hb2]; exact Classical.not_and_iff_not_or_not.1 q)
    have HN : Hid ((b1 = true ∧ b2 = true) → ∀ (j : Nat), j < m + 1 → dayP (pM' E.mv j) ∧ dayP (qM' E.mv j)) := fun q j hj => by
      by_cases ej : j = m
      · subst ej; exact ⟨hb1.1 q.1, hb2.1 q.2⟩
      · exact HA4.out j (by omega)
    have ID1 : Hid (_) := ID0.out (pM' E.mv m) b1 hb1
    have ID2 : Hid (_) := ID0.out (qM' E.mv m) b2 hb2
    generalize pM' E.mv m = d1 at c1 ID1
    generalize qM' E.mv m = d2 at c2 ID2
    clear hc HA4 hb1 hb2 ID0
    have hl0 : (m : Int) < M := by omega
    cases m with
    | zero =>
      have hc0 : wr.cell? ad = some (.int .i64 d1) := c1
      have hc1 : wr.cell? ⟨ad.block, ad.off + 1, none⟩ = some (.int .i64 d2) := c2
      have hl1 : 0 < M := by omega
      clear c1 c2
      cases b1 <;> cases b2
      case false.false =>
        have HF' : Hid (k = 2) := HF.out (by simp)
        clear HF HN
        go_wp2_with (first | (go_at_call 57; have hq2 := hq1; refine (ID2.out _).mono ?_; rintro r wz ⟨rfl, rfl⟩) | (go_at_call 57; refine (ID1.out _).mono ?_; rintro r wz ⟨rfl, rfl⟩; have hq1 : True := trivial))
        go_ret
        exact ⟨ret_int HF'.out.symm, base.out _ h6⟩
      case false.true =>
        have HF' : Hid (k = 2) := HF.out (by simp)
        clear HF HN
        go_wp2_with (first | (go_at_call 57; have hq2 := hq1; refine (ID2.out _).mono ?_; rintro r wz ⟨rfl, rfl⟩) | (go_at_call 57; refine (ID1.out _).mono ?_; rintro r wz ⟨rfl, rfl⟩; have hq1 : True := trivial))
        go_ret
        exact ⟨ret_int HF'.out.symm, base.out _ h6⟩
      case true.false =>
        have HF' : Hid (k = 2) := HF.out (by simp)
        clear HF HN
        go_wp2_with (first | (go_at_call 57; have hq2 := hq1; refine (ID2.out _).mono ?_; rintro r wz ⟨rfl, rfl⟩) | (go_at_call 57; refine (ID1.out _).mono ?_; rintro r wz ⟨rfl, rfl⟩; have hq1 : True := trivial))
        go_ret
        exact ⟨ret_int HF'.out.symm, base.out _ h6⟩
      case true.true =>
        have HN' : Hid (_) := HN.out ⟨rfl, rfl⟩
        clear HF HN
        go_wp2_with (first | (go_at_call 57; have hq2 := hq1; refine (ID2.out _).mono ?_; rintro r wz ⟨rfl, rfl⟩) | (go_at_call 57; refine (ID1.out _).mono ?_; rintro r wz ⟨rfl, rfl⟩; have hq1 : True := trivial))
        go_roundw
        case rel => exact ⟨0 + 1, by omega, by go_num, HN'.out, hB4.out⟩
        case measure => simp [intOf]; omega
    | succ m =>
      have hc0 : wr.cell? ⟨ad.block, ad.off + (m + 1) * 2, none⟩ = some (.int .i64 d1) := c1
      have hc1 : wr.cell? ((ad.add ((m + 1) * 2)).add 1) = some (.int .i64 d2) := by
        have e : (ad.add ((m + 1) * 2)).add 1 = ad.add ((m + 1) * 2 + 1) := Deep.add_add _ _ _
        rw [e]; exact c2
      have hc2 : wr.cell? ⟨ad.block, ad.off + (m + 1) * 2 + 1, none⟩ = some (.int .i64 d2) := hc1
      have hc3 : wr.cell? ⟨(ad.add ((m + 1) * 2)).block, (ad.add ((m + 1) * 2)).off + 1, none⟩ = some (.int .i64 d2) := hc1
      have hl1 : (m : Int) + 1 < M := by omega
      have hl2 : m + 1 < M := by omega
      cases b1 <;> cases b2
      case false.false =>
        have HF' : Hid (k = 2) := HF.out (by simp)
        clear HF HN
        go_wp2_with (first | (go_at_call 57; have hq2 := hq1; refine (ID2.out _).mono ?_; rintro r wz ⟨rfl, rfl⟩) | (go_at_call 57; refine (ID1.out _).mono ?_; rintro r wz ⟨rfl, rfl⟩; have hq1 : True := trivial))
        go_ret
        exact ⟨ret_int HF'.out.symm, base.out _ h6⟩
      case false.true =>
        have HF' : Hid (k = 2) := HF.out (by simp)
        clear HF HN
        go_wp2_with (first | (go_at_call 57; have hq2 := hq1; refine (ID2.out _).mono ?_; rintro r wz ⟨rfl, rfl⟩) | (go_at_call 57; refine (ID1.out _).mono ?_; rintro r wz ⟨rfl, rfl⟩; have hq1 : True := trivial))
        go_ret
        exact ⟨ret_int HF'.out.symm, base.out _ h6⟩
      case true.false =>
        have HF' : Hid (k = 2) := HF.out (by simp)
        clear HF HN
        go_wp2_with (first | (go_at_call 57; have hq2 := hq1; refine (ID2.out _).mono ?_; rintro r wz ⟨rfl, rfl⟩) | (go_at_call 57; refine (ID1.out _).mono ?_; rintro r wz ⟨rfl, rfl⟩; have hq1 : True := trivial))
        go_ret
        exact ⟨ret_int HF'.out.symm, base.out _ h6⟩
      case true.true =>
        have HN' : Hid (_) := HN.out ⟨rfl, rfl⟩
        clear HF HN
        go_wp2_with (first | (go_at_call 57; have hq2 := hq1; refine (ID2.out _).mono ?_; rintro r wz ⟨rfl, rfl⟩) | (go_at_call 57; refine (ID1.out _).mono ?_; rintro r wz ⟨rfl, rfl⟩; have hq1 : True := trivial))
        go_roundw
        case rel => exact ⟨m + 1 + 1, by omega, by go_num, HN'.out, hB4.out⟩
        case measure => simp [intOf]; omega
  case neg =>
  have U4 : Hid (∀ j, j < M → dayP (pM' E.mv j) ∧ dayP (qM' E.mv j)) := fun j hj => HA4.out j (by omega)
  have hlt' : ¬ (m : Int) < M := by omega
  clear HA4 F4 hk
  have H9 : Hid (_) := h6
  go_wp2
  clear hlt hlt' h6
  rename World => w9
  go_loopw [15] (fun i wr => ∃ m : Nat, m ≤ M ∧ i = .int .i64 m ∧ Hid (∀ (j : Nat), j < m → inB E.sk (pM' E.mv j) = false) ∧ Hid (Below w9.heap.size w9 wr)) (fun i _ => M - (intOf i).toNat)
  case atStart => exact ⟨0, Nat.zero_le _, rfl, fun j h => absurd h (by omega), Below.refl _ _⟩
  case round =>
  obtain ⟨m, hk, rfl, HA5, hB5⟩ := hrel
  have h6 := below_then H9.out hB5.out
  clear x0 x1 x2 x3 x4 x5 x6 x7 x8 x9 x10
  obtain ⟨x0, x1, x2, x3, x4, x5, x6, x7, x8, x9, x10⟩ := blk11 (show wr.heap[w.heap.size]? = _ from BX.out _ h6)
  by_cases hlt : m < M
  case pos =>
    obtain ⟨ad, rfl, hc⟩ := ZM.out m hlt
    obtain ⟨c1, c2⟩ := hc _ (base.out _ h6)
    have HF : Hid (inB E.sk (pM' E.mv m) = true → k = 6) := fun q => F5.out U1.out U2.out U3.out U4.out m hlt q
    have HN : Hid (inB E.sk (pM' E.mv m) = false → ∀ (j : Nat), j < m + 1 → inB E.sk (pM' E.mv j) = false) := fun q j hj => by
      by_cases ej : j = m
      · subst ej; exact q
      · exact HA5.out j (by omega)
    have IXz : Hid (_) := IX.out (pM' E.mv m)
    generalize inB E.sk (pM' E.mv m) = b at HF HN IXz
    generalize pM' E.mv m = d1 at c1 IXz
    clear hc HA5 c2 IX
    have hl0 : (m : Int) < M := by omega
    cases m with
    | zero =>
      have hc0 : wr.cell? ad = some (.int .i64 d1) := c1
      have hl1 : 0 < M := by omega
      cases b with
      | true =>
        have HF' : Hid (k = 6) := HF.out rfl
        clear HF HN
        go_wp2_with (fail)
        go_region_with (go_at_call 60; refine (IXz.out _ (below_then (base.out _ h6) (drew_below _))).mono ?_; rintro r wz ⟨rfl, rfl⟩)
        all_goals
          go_wp2
          go_ret
          exact ⟨ret_int HF'.out.symm, below_then (base.out _ h6) (drew_below _)⟩
      | false =>
        have HN' : Hid (_) := HN.out rfl
        clear HF HN
        go_wp2_with (fail)
        go_region_with (go_at_call 60; refine (IXz.out _ (below_then (base.out _ h6) (drew_below _))).mono ?_; rintro r wz ⟨rfl, rfl⟩)
        all_goals
          go_wp2
          go_roundw
          · exact ⟨0 + 1, by omega, by go_num, HN'.out, below_then hB5.out (drew_below _)⟩
          · simp [intOf]; omega
    | succ m =>
      have hc0 : wr.cell? ⟨ad.block, ad.off + (m + 1) * 2, none⟩ = some (.int .i64 d1) := c1
      have hl1 : (m : Int) + 1 < M := by omega
      have hl2 : m + 1 < M := by omega
      cases b with
      | true =>
        have HF' : Hid (k = 6) := HF.out rfl
        clear HF HN
        go_wp2_with (fail)
        go_region_with (go_at_call 60; refine (IXz.out _ (below_then (base.out _ h6) (drew_below _))).mono ?_; rintro r wz ⟨rfl, rfl⟩)
        all_goals
          go_wp2
          go_ret
          exact ⟨ret_int HF'.out.symm, below_then (base.out _ h6) (drew_below _)⟩
      | false =>
        have HN' : Hid (_) := HN.out rfl
        clear HF HN
        go_wp2_with (fail)
        go_region_with (go_at_call 60; refine (IXz.out _ (below_then (base.out _ h6) (drew_below _))).mono ?_; rintro r wz ⟨rfl, rfl⟩)
        all_goals
          go_wp2
          go_roundw
          · exact ⟨m + 1 + 1, by omega, by go_num, HN'.out, below_then hB5.out (drew_below _)⟩
          · simp [intOf]; omega
  case neg =>
  have HF' : Hid (k = 0) := F6.out U1.out U2.out U3.out U4.out (fun j hj => HA5.out j (by omega))
  have hlt' : ¬ (m : Int) < M := by omega
  clear HA5 hk
  go_wp2
  go_ret
  exact ⟨ret_int HF'.out.symm, base.out _ h6⟩
end Go.Proofs.YtekminpoiokgfaaGreatDoor
