/- Which error a rule has: the numbers of errors, and package rule's Check. -/
import Derived.Test.YtekminpoiokgfaaGreatDoorYaC
import Derived.RangeFuncBox
import Derived.Deep.DeepCutAuto
import Derived.Deep.RegionWith
namespace Go.Proofs.YtekminpoiokgfaaGreatDoor
open Go.RowKit Cal

/-- where the errors lie that packages rule and event tell -/
structure GlobK (s : Nat → Addr) (w : World) : Prop where
  c0 : w.cell? ⟨3, 0, none⟩ = some (.iface 250 (.pointer (some (s 0))))
  c1 : w.cell? ⟨4, 0, none⟩ = some (.iface 250 (.pointer (some (s 1))))
  c2 : w.cell? ⟨0, 0, none⟩ = some (.iface 250 (.pointer (some (s 2))))
  c3 : w.cell? ⟨2, 0, none⟩ = some (.iface 250 (.pointer (some (s 3))))
  c5 : w.cell? ⟨6, 0, none⟩ = some (.iface 250 (.pointer (some (s 5))))
  c6 : w.cell? ⟨1, 0, none⟩ = some (.iface 250 (.pointer (some (s 6))))
  c7 : w.cell? ⟨5, 0, none⟩ = some (.iface 250 (.pointer (some (s 7))))
theorem GlobK.step {s : Nat → Addr} {w w' : World} (g : GlobK s w) (hb : Below w.heap.size w w') : GlobK s w' :=
  ⟨cell_step g.c0 hb, cell_step g.c1 hb, cell_step g.c2 hb, cell_step g.c3 hb, cell_step g.c5 hb, cell_step g.c6 hb, cell_step g.c7 hb⟩
/-- the number of a rule's error -/
def ErrK (f : ByteArray) (e : Int) (ds : List Int) (c u k : Int) : Prop :=
  (isF f = false ∧ k = 4) ∨ (isF f = true ∧ ¬ (bN e c u = true ∧ bD ds) ∧ k = 2) ∨ (isF f = true ∧ (bN e c u = true ∧ bD ds) ∧ ¬ shp (f.toList == [111, 110, 99, 101]) (f.toList == [119, 101, 101, 107, 108, 121]) e c u ds.length ∧ k = 3) ∨
    (isF f = true ∧ (bN e c u = true ∧ bD ds) ∧ shp (f.toList == [111, 110, 99, 101]) (f.toList == [119, 101, 101, 107, 108, 121]) e c u ds.length ∧ ¬ Rise ds ∧ k = 8) ∨ (Well (rd f e ds c u) ∧ k = 0)
theorem errK_ex (f : ByteArray) (e : Int) (ds : List Int) (c u : Int) : ∃ k, ErrK f e ds c u k := by
  cases h1 : isF f with
  | false => exact ⟨4, .inl ⟨h1, rfl⟩⟩
  | true =>
    by_cases h2 : bN e c u = true ∧ bD ds
    · by_cases h3 : shp (f.toList == [111, 110, 99, 101]) (f.toList == [119, 101, 101, 107, 108, 121]) e c u ds.length
      · by_cases h4 : Rise ds
        · exact ⟨0, .inr (.inr (.inr (.inr ⟨well_of h1 h2.1 h2.2 h3 h4, rfl⟩)))⟩
        · exact ⟨8, .inr (.inr (.inr (.inl ⟨h1, h2, h3, h4, rfl⟩)))⟩
      · exact ⟨3, .inr (.inr (.inl ⟨h1, h2, h3, rfl⟩))⟩
    · exact ⟨2, .inr (.inl ⟨h1, h2, rfl⟩)⟩
theorem errK_1 {f : ByteArray} {e : Int} {ds : List Int} {c u k : Int} (h : ErrK f e ds c u k) (h1 : isF f = false) : k = 4 := by
  rcases h with h | h | h | h | h
  · exact h.2
  · rw [h1] at h; exact absurd h.1 (by decide)
  · rw [h1] at h; exact absurd h.1 (by decide)
  · rw [h1] at h; exact absurd h.1 (by decide)
  · have := (of_well h.1).1; rw [h1] at this; exact absurd this (by decide)
theorem errK_2 {f : ByteArray} {e : Int} {ds : List Int} {c u k : Int} (h : ErrK f e ds c u k) (h1 : isF f = true) (h2 : ¬ (bN e c u = true ∧ bD ds)) : k = 2 := by
  rcases h with h | h | h | h | h
  · rw [h1] at h; exact absurd h.1 (by decide)
  · exact h.2.2
  · exact absurd h.2.1 h2
  · exact absurd h.2.1 h2
  · have := of_well h.1; exact absurd ⟨this.2.1, this.2.2.1⟩ h2
theorem errK_3 {f : ByteArray} {e : Int} {ds : List Int} {c u k : Int} (h : ErrK f e ds c u k) (h1 : isF f = true) (h2 : bN e c u = true ∧ bD ds) (h3 : ¬ shp (f.toList == [111, 110, 99, 101]) (f.toList == [119, 101, 101, 107, 108, 121]) e c u ds.length) : k = 3 := by
  rcases h with h | h | h | h | h
  · rw [h1] at h; exact absurd h.1 (by decide)
  · exact absurd h2 h.2.1
  · exact h.2.2.2
  · exact absurd h.2.2.1 h3
  · have := of_well h.1; exact absurd this.2.2.2.1 h3
theorem errK_4 {f : ByteArray} {e : Int} {ds : List Int} {c u k : Int} (h : ErrK f e ds c u k) (h1 : isF f = true) (h2 : bN e c u = true ∧ bD ds) (h3 : shp (f.toList == [111, 110, 99, 101]) (f.toList == [119, 101, 101, 107, 108, 121]) e c u ds.length) (h4 : ¬ Rise ds) : k = 8 := by
  rcases h with h | h | h | h | h
  · rw [h1] at h; exact absurd h.1 (by decide)
  · exact absurd h2 h.2.1
  · exact absurd h3 h.2.2.1
  · exact h.2.2.2.2
  · have := of_well h.1; exact absurd this.2.2.2.2 h4
theorem errK_0 {f : ByteArray} {e : Int} {ds : List Int} {c u k : Int} (h : ErrK f e ds c u k) : k = 0 ↔ Well (rd f e ds c u) := by
  constructor
  · intro hk
    rcases h with h | h | h | h | h
    · omega
    · omega
    · omega
    · omega
    · exact h.1
  · intro hw
    obtain ⟨w1, w2, w3, w4, w5⟩ := of_well hw
    rcases h with h | h | h | h | h
    · rw [w1] at h; exact absurd h.1 (by decide)
    · exact absurd ⟨w2, w3⟩ h.2.1
    · exact absurd w4 h.2.2.1
    · exact absurd w5 h.2.2.2.1
    · exact h.2
theorem errK_bd {f : ByteArray} {e : Int} {ds : List Int} {c u k : Int} (h : ErrK f e ds c u k) : k = 0 ∨ k = 2 ∨ k = 3 ∨ k = 4 ∨ k = 8 := by
  rcases h with h | h | h | h | h
  · exact .inr (.inr (.inr (.inl h.2)))
  · exact .inr (.inl h.2.2)
  · exact .inr (.inr (.inl h.2.2.2))
  · exact .inr (.inr (.inr (.inr h.2.2.2.2)))
  · exact .inl h.2
/-- the error of a number -/
def errV (s : Nat → Addr) (k : Int) : Value := if k = 0 then .nilIface else .iface 250 (.pointer (some (s (k - 1).toNat)))
theorem errV_of {s : Nat → Addr} {k m : Int} {n : Nat} (h : k = m) (hm : m ≠ 0 ∧ (m - 1).toNat = n) : errV s k = .iface 250 (.pointer (some (s n))) := by
  unfold errV
  rw [h, if_neg hm.1, hm.2]

set_option maxHeartbeats 400000 in
theorem check_k (f : ByteArray) (e : Int) (sl : Value) (c u : Int) (ds : List Int) (k : Int) (s : Nat → Addr) (w : World) (g : GlobK s w) (hd : Days w sl ds) (hk : ErrK f e ds c u k) (hw : ¬ Well (rd f e ds c u)) :
    Calls Tryz.prog 53 #[rv f e sl c u] w fun r w' => r = .returned (errV s k) ∧ Below w.heap.size w w' := by
  have hd' := hd
  obtain ⟨a, cap, rfl, h20, hcap, hc⟩ := hd'
  have D : Hid (Days w (.slice a ds.length cap) ds) := hd
  have c1 := fun w => isFreq_any f w
  have HW : Hid (¬ Well (rd f e ds c u)) := hw
  have q1 := g.c3
  have q2 := g.c1
  have q3 := g.c2
  have q4 := g.c7
  have HK : Hid (ErrK f e ds c u k) := hk
  clear hc hd hw hk g
  unfold rv
  cases h1 : isF f with
  | false =>
    rw [h1] at c1
    have C1 : Hid (_) := c1
    have EV : Hid (errV s k = .iface 250 (.pointer (some (s 3)))) := errV_of (errK_1 HK.out h1) (by decide)
    have r1 := cell_alloc (.cells #[.string f, .int .i64 e, .slice a ds.length cap, .int .i64 c, .int .i64 u] 41) q1
    clear c1 q2 q3 q4 HK
    go_enter Tryz.func53, Tryz.ntmps53
    go_wp2_with (go_at_call 74; refine (C1.out _).mono ?_; rintro r w' ⟨rfl, rfl⟩)
    go_ret
    exact ⟨(by rw [EV.out]; rfl), below_alloc _ _⟩
  | true =>
  rw [h1] at c1
  have C1 : Hid (_) := c1
  clear c1
  by_cases h2 : bN e c u = true ∧ bD ds
  · by_cases h4 : shp (f.toList == [111, 110, 99, 101]) (f.toList == [119, 101, 101, 107, 108, 121]) e c u ds.length
    · have h5 : ¬ Rise ds := fun h5 => HW.out (well_of h1 h2.1 h2.2 h4 h5)
      have C2 : Hid (bN e c u = true ∧ bD ds) := h2
      have C3 : Hid (shp (f.toList == [111, 110, 99, 101]) (f.toList == [119, 101, 101, 107, 108, 121]) e c u ds.length) := h4
      have C4 : Hid (¬ Rise ds) := h5
      have EV : Hid (errV s k = .iface 250 (.pointer (some (s 7)))) := errV_of (errK_4 HK.out h1 h2 h4 h5) (by decide)
      have r4 := cell_alloc (.cells #[.string f, .int .i64 e, .slice a ds.length cap, .int .i64 c, .int .i64 u] 41) q4
      clear h1 h2 h4 h5 HW HK q1 q2 q3
      go_enter Tryz.func53, Tryz.ntmps53
      go_wp2_with (first
        | (go_at_call 74; refine (C1.out _).mono ?_; rintro r w' ⟨rfl, rfl⟩)
        | (go_at_call 75; refine (inBounds_any f e _ c u ds _ (D.out.step (below_alloc _ _)) true ⟨fun _ => C2.out, fun _ => rfl⟩).mono ?_; rintro r w1 ⟨rfl, hb1⟩; obtain ⟨x0, x1, x2, x3, x4⟩ := box5 hb1)
        | (go_at_call 76; refine (isShaped_any f e a ds.length cap c u _ h20 _ _ rfl rfl true ⟨fun _ => C3.out, fun _ => rfl⟩).mono ?_; rintro r w2 ⟨rfl, hb2⟩; have y2 := cell_step x2 hb2)
        | (go_at_call 77; refine (rises_any ds _ _ (D.out.step (below_then (below_alloc _ _) (below_then hb1 hb2))) false ⟨fun h => absurd h (by decide), fun h => absurd h C4.out⟩).mono ?_; rintro r w3 ⟨rfl, hb3⟩; have z4 := cell_step (cell_step (cell_step r4 hb1) hb2) hb3))
      go_ret
      exact ⟨(by rw [EV.out]; rfl), below_then (below_alloc _ _) (below_then hb1 (below_then hb2 hb3))⟩
    · have C2 : Hid (bN e c u = true ∧ bD ds) := h2
      have C3 : Hid (¬ shp (f.toList == [111, 110, 99, 101]) (f.toList == [119, 101, 101, 107, 108, 121]) e c u ds.length) := h4
      have EV : Hid (errV s k = .iface 250 (.pointer (some (s 2)))) := errV_of (errK_3 HK.out h1 h2 h4) (by decide)
      have r3 := cell_alloc (.cells #[.string f, .int .i64 e, .slice a ds.length cap, .int .i64 c, .int .i64 u] 41) q3
      clear h1 h2 h4 HW HK q1 q2 q4
      go_enter Tryz.func53, Tryz.ntmps53
      go_wp2_with (first
        | (go_at_call 74; refine (C1.out _).mono ?_; rintro r w' ⟨rfl, rfl⟩)
        | (go_at_call 75; refine (inBounds_any f e _ c u ds _ (D.out.step (below_alloc _ _)) true ⟨fun _ => C2.out, fun _ => rfl⟩).mono ?_; rintro r w1 ⟨rfl, hb1⟩; obtain ⟨x0, x1, x2, x3, x4⟩ := box5 hb1)
        | (go_at_call 76; refine (isShaped_any f e a ds.length cap c u _ h20 _ _ rfl rfl false ⟨fun h => absurd h (by decide), fun h => absurd h C3.out⟩).mono ?_; rintro r w2 ⟨rfl, hb2⟩; have z3 := cell_step (cell_step r3 hb1) hb2))
      go_ret
      exact ⟨(by rw [EV.out]; rfl), below_then (below_alloc _ _) (below_then hb1 hb2)⟩
  · have C2 : Hid (¬ (bN e c u = true ∧ bD ds)) := h2
    have EV : Hid (errV s k = .iface 250 (.pointer (some (s 1)))) := errV_of (errK_2 HK.out h1 h2) (by decide)
    have r2 := cell_alloc (.cells #[.string f, .int .i64 e, .slice a ds.length cap, .int .i64 c, .int .i64 u] 41) q2
    clear h1 h2 HW HK q1 q3 q4
    go_enter Tryz.func53, Tryz.ntmps53
    go_wp2_with (first
      | (go_at_call 74; refine (C1.out _).mono ?_; rintro r w' ⟨rfl, rfl⟩)
      | (go_at_call 75; refine (inBounds_any f e _ c u ds _ (D.out.step (below_alloc _ _)) false ⟨fun h => absurd h (by decide), fun h => absurd h C2.out⟩).mono ?_; rintro r w1 ⟨rfl, hb1⟩; have z2 := cell_step r2 hb1))
    go_ret
    exact ⟨(by rw [EV.out]; rfl), below_then (below_alloc _ _) hb1⟩

theorem errV_0 (s : Nat → Addr) : errV s 0 = .nilIface := by unfold errV; rw [if_pos rfl]
/-- package rule's Check, whatever it says -/
theorem rcheck_k (f : ByteArray) (e : Int) (sl : Value) (c u : Int) (ds : List Int) (k : Int) (s : Nat → Addr) (w : World) (g : GlobK s w) (hd : Days w sl ds) (hk : ErrK f e ds c u k) :
    Calls Tryz.prog 53 #[rv f e sl c u] w fun r w' => r = .returned (errV s k) ∧ Below w.heap.size w w' := by
  by_cases hw : Well (rd f e ds c u)
  · rw [(errK_0 hk).2 hw, errV_0]
    exact check_ok f e sl c u ds w hd hw
  · exact check_k f e sl c u ds k s w g hd hk hw
end Go.Proofs.YtekminpoiokgfaaGreatDoor

/- Package event's fromsOf, checkLists and Check: which error an event has. -/
namespace Go.Proofs.YtekminpoiokgfaaGreatDoor
open Go Go.RowKit Cal
attribute [local go_sem] Oper.semAt_some

theorem ow_ints {base : Nat} {W : World} {sl : Value} {ds : List Int} (h : Ow base W sl ds) (hl : ds.length ≤ 80000) : Ints W sl ds := by
  rcases h.2 with ⟨rfl, h0⟩ | ⟨g, cap, cur, rfl, hb, hg, hcap, hmax, hsz, htake⟩
  · rw [List.length_eq_zero_iff.1 h0]; exact Ints.nil W 0
  · refine ⟨_, cap, rfl, hl, hcap, fun j hj => ⟨g, rfl, (Array.getElem?_eq_some_iff.1 hg).1, ?_⟩⟩
    have := World.ownsRow.cellAt h j (by omega)
    rw [this, List.getElem?_map, List.getElem?_eq_getElem hj]; rfl
theorem one_cell (w : World) (d : Int) : ∀ (j : Nat) (v : Value), [Value.int .i64 d][j]? = some v → (w.alloc (.cells #[.int .i64 d] 3)).cell? ((⟨w.heap.size, 0, none⟩ : Addr).add j) = some v := fun j v hv => by
  obtain ⟨hj, he⟩ := List.getElem?_eq_some_iff.1 hv
  have hj0 : j = 0 := by simpa using hj
  subst hj0
  have he' : Value.int .i64 d = v := by simpa using he
  rw [← he']
  exact (Boxed.new w 3 (.int .i64 d)).cell

set_option maxHeartbeats 1000000 in
set_option maxRecDepth 100000 in
theorem fromsOf_any (ms : List (Int × Int)) (sl : Value) (w : World) (hd : Movs w sl ms) :
    Calls Tryz.prog 79 #[sl] w fun r w' => ∃ v, r = .returned v ∧ Ints w' v (ms.map Prod.fst) ∧ Below w.heap.size w w' := by
  obtain ⟨a, cap, rfl, h20, hcap, hc⟩ := hd
  obtain ⟨i0, hi, hz0, hz1, hz2⟩ := info_parts info_int
  have HC : Hid (_) := hc
  clear hc
  go_enter Tryz.func79, Tryz.ntmps79
  go_wp2
  go_loopw [3, 5, 8] (fun ov _ i wr => ∃ m : Nat, m ≤ ms.length ∧ i = .int .i64 m ∧ Hid (Below w.heap.size w wr) ∧ Hid (Ow w.heap.size wr ov ((ms.map Prod.fst).take m))) (fun _ _ i _ => ms.length - (intOf i).toNat)
  case atStart => exact ⟨0, Nat.zero_le _, rfl, Below.refl _ _, Ow.nil _ _⟩
  case round =>
    obtain ⟨m, hm, rfl, hB, HO⟩ := hrel
    by_cases hlt : m < ms.length
    · obtain ⟨blk, rfl, hblk, hcell, hcell'⟩ := HC.out m hlt
      have hc1 := cell_step hcell hB.out
      have hc2 := cell_step hcell' hB.out
      have HT : Hid ((ms.map Prod.fst).take (m + 1) = (ms.map Prod.fst).take m ++ [ms[m].1]) := by
        show _ = _
        rw [List.take_succ_eq_append_getElem (by simpa using hlt)]; simp
      have hlen : ((ms.map Prod.fst).take m).length = m := by simp; omega
      clear HC hcell hcell'
      generalize ms[m] = x at hc1 hc2 HT
      obtain ⟨x1, x2⟩ := x
      dsimp only at hc1 hc2 HT
      generalize (ms.map Prod.fst).take m = o at HO HT hlen
      obtain ⟨oa, oc, rfl⟩ := ow_form HO.out
      have hA := below_alloc wr (.cells #[.int .i64 x1, .int .i64 x2] 72)
      have hc0 : (wr.alloc (.cells #[.int .i64 x1, .int .i64 x2] 72)).cell? ⟨wr.heap.size, 0, none⟩ = some (.int .i64 x1) := by rw [World.cell?_alloc_new]; rfl
      have hsz : (wr.alloc (.cells #[.int .i64 x1, .int .i64 x2] 72)).heap.size = wr.heap.size + 1 := World.size_alloc _ _
      have hzr : w.heap.size ≤ wr.heap.size := hB.out.size
      go_upto_region 5 with (fail)
      generalize wr.alloc (.cells #[.int .i64 x1, .int .i64 x2] 72) = wq at hA hc0 hsz
      have HA : Hid (Below wr.heap.size wr wq) := hA
      have OW1 : Hid (Ow w.heap.size (wq.alloc (.cells #[.int .i64 x1] 3)) (.slice oa o.length oc) o) := Ow.step HO.out (below_then hA (below_alloc _ _))
      have NC : Hid (_) := one_cell wq x1
      have hzq : w.heap.size ≤ wq.heap.size := by omega
      clear hA hc1 hc2 hsz
      go_upto_region 6 with (first
        | (at_builtin; refine wpList_append_own _ rfl _ _ 39 rfl w.heap.size 3 i0 (.int .i64 0) 1 8 Tryz.underlying39 hi hz0 hz1 hz2 rfl (by decide) _ _ _ rfl OW1.out ⟨wq.heap.size, 0, none⟩ 1 1 [.int .i64 x1] rfl rfl NC.out (fun v hv => by rw [List.mem_singleton.1 hv]; rfl) (by unfold maxLen; omega) (by omega) (by simp; omega) ?_; intro v' w1 hown' hgrow _; obtain ⟨g', cap', rfl⟩ := ownsRow_succ hown')
        | go_in)
      have OW2 : Hid (Ow w.heap.size w1 (.slice (some ⟨g', 0, none⟩) (o.length + 1) cap') (o ++ [x1])) := by
        show World.ownsRow _ _ _ _ _ _ _
        rw [List.length_append, List.map_append]
        exact hown'
      have HB1 : Hid (Below w.heap.size w w1) := (below_then hB.out (below_then HA.out (below_alloc wq (.cells #[.int .i64 x1] 3)))).grown (show (wq.alloc (.cells #[.int .i64 x1] 3)).grownBy w1 (Value.slice oa o.length oc).ownBlock from hgrow) (by rw [World.size_alloc]; omega) (fun k q => (World.ownsRow.lt OW1.out k q).1)
      clear hown' hgrow OW1 NC HO hB HA
      go_wp2
      go_roundw
      case rel => exact ⟨m + 1, by omega, by go_num, HB1.out, by rw [HT.out, ← hlen]; exact OW2.out⟩
      case measure => simp [intOf]; omega
    · have HE : Hid ((ms.map Prod.fst).take m = ms.map Prod.fst) := List.take_of_length_le (by simp; omega)
      rw [HE.out] at HO
      obtain ⟨oa, oc, rfl⟩ := ow_form HO.out
      clear HC
      go_wp2
      go_ret
      exact ⟨_, rfl, ow_ints HO.out (by simp; omega), hB.out⟩

/-- do numbers rise? -/
def riseB : List Int → Bool
  | [] => true
  | [_] => true
  | a :: b :: r => decide (a < b) && riseB (b :: r)
theorem riseB_iff : ∀ (l : List Int), riseB l = true ↔ Rise l
  | [] => ⟨fun _ i h => absurd h (by simp), fun _ => rfl⟩
  | [a] => ⟨fun _ i h => absurd h (by simp), fun _ => rfl⟩
  | a :: b :: r => by
    unfold riseB
    rw [Bool.and_eq_true, decide_eq_true_iff, riseB_iff (b :: r)]
    constructor
    · rintro ⟨h1, h2⟩ i hi
      cases i with
      | zero => exact h1
      | succ i => exact h2 i (by simpa using hi)
    · intro h
      exact ⟨h 0 (by simp), fun i hi => h (i + 1) (by simpa using hi)⟩
theorem rise_pair : ∀ {l : List Int}, Rise l → l.Pairwise (· < ·)
  | [], _ => List.Pairwise.nil
  | a :: r, h => by
    have hr : Rise r := fun i hi => h (i + 1) (by simpa using hi)
    have ih := rise_pair hr
    rw [List.pairwise_cons]
    refine ⟨fun x hx => ?_, ih⟩
    cases r with
    | nil => cases hx
    | cons b r' =>
      have h0 : a < b := h 0 (by simp)
      rcases List.mem_cons.1 hx with rfl | q
      · exact h0
      · have := (List.pairwise_cons.1 ih).1 x q; omega

/-- the number of the error of an event's lists -/
def lk (sk : List Int) (mv : List (Int × Int)) : Int :=
  if 20 < sk.length ∨ 20 < mv.length then 7 else if (riseB sk && riseB (mv.map Prod.fst)) = false then 8 else if sk.any noDay = true then 2 else
    if mv.any (fun m => noDay m.1 || noDay m.2) = true then 2 else if mv.any (fun m => decide (m.1 ∈ sk)) = true then 6 else 0
theorem lk_bd (sk : List Int) (mv : List (Int × Int)) : lk sk mv = 0 ∨ lk sk mv = 2 ∨ lk sk mv = 6 ∨ lk sk mv = 7 ∨ lk sk mv = 8 := by
  unfold lk
  split
  · simp
  · split
    · simp
    · split
      · simp
      · split
        · simp
        · split <;> simp

set_option maxHeartbeats 2000000 in
theorem checkLists_k (sk : List Int) (mv : List (Int × Int)) (skv mvv : Value) (s : Nat → Addr) (w : World) (g : GlobK s w) (hs : Ints w skv sk) (hm : Movs w mvv mv) :
    Calls Tryz.prog 54 #[skv, mvv] w fun r w' => r = .returned (errV s (lk sk mv)) ∧ Below w.heap.size w w' := by
  have hA := below_alloc w (.cells #[skv] 39)
  have hB : Boxed (w.alloc (.cells #[skv] 39)) w.heap.size 39 skv := boxed_at _ _ rfl
  have HS : Hid (Ints (w.alloc (.cells #[skv] 39)) skv sk) := hs.step hA
  have HM : Hid (Movs (w.alloc (.cells #[skv] 39)) mvv mv) := hm.step hA
  have HG : Hid (GlobK s (w.alloc (.cells #[skv] 39))) := g.step hA
  obtain ⟨sa, sc, rfl, hs1, hs2, hs3⟩ := hs
  obtain ⟨ma, mc, rfl, hm1, hm2, hm3⟩ := hm
  clear hs3 hm3
  have HA : Hid (_) := hA
  have HB : Hid (_) := hB
  clear hA hB g
  generalize hw0 : w.alloc (.cells #[.slice sa sk.length sc] 39) = w0 at HS HM HG HA HB
  have C1 : Hid (∀ W, Below w0.heap.size w0 W → Calls Tryz.prog 78 #[.slice sa sk.length sc] W fun r w' => r = .returned (.bool (riseB sk)) ∧ Below W.heap.size W w') := fun W h => erises_any sk _ W (HS.out.step h) _ (riseB_iff sk)
  have C2 : Hid (∀ W, Below w0.heap.size w0 W → Calls Tryz.prog 79 #[.slice ma mv.length mc] W fun r w' => ∃ a c, r = .returned (.slice a mv.length c) ∧ Ints w' (.slice a mv.length c) (mv.map Prod.fst) ∧ Below W.heap.size W w') := fun W h => by
    refine (fromsOf_any mv _ W (HM.out.step h)).mono ?_
    rintro r w' ⟨v, rfl, h1, h2⟩
    obtain ⟨a, c, rfl, _⟩ := id h1
    rw [List.length_map] at h1 ⊢
    exact ⟨a, c, rfl, h1, h2⟩
  have C3 : Hid (∀ W a c, Ints W (.slice a mv.length c) (mv.map Prod.fst) → Calls Tryz.prog 78 #[.slice a mv.length c] W fun r w' => r = .returned (.bool (riseB (mv.map Prod.fst))) ∧ Below W.heap.size W w') := fun W a c h => erises_any _ _ W h _ (riseB_iff _)
  have C4 : Hid (∀ W, Below w0.heap.size w0 W → Calls Tryz.prog 80 #[.slice sa sk.length sc, .func (.func 81) #[] #[]] W fun r w' => r = .returned (.bool (sk.any noDay)) ∧ Below W.heap.size W w') := fun W h =>
    containsFuncI_any 81 #[] noDay sk _ W (HS.out.step h) (enters_of Tryz.func81 (by kernel_rfl) rfl) (fun x W' _ => cl1_any x W') _ (by rw [List.any_eq_true])
  have C5 : Hid (∀ W, Below w0.heap.size w0 W → Calls Tryz.prog 82 #[.slice ma mv.length mc, .func (.func 83) #[] #[]] W fun r w' => r = .returned (.bool (mv.any (fun m => noDay m.1 || noDay m.2))) ∧ Below W.heap.size W w') := fun W h =>
    containsFuncM_any 83 #[] (fun m => noDay m.1 || noDay m.2) mv _ W (HM.out.step h) (enters_of Tryz.func83 (by kernel_rfl) rfl) (fun x W' _ => cl2_any x W') _ (by rw [List.any_eq_true])
  have C6 : Hid (∀ W, Below w0.heap.size w0 W → Calls Tryz.prog 82 #[.slice ma mv.length mc, .func (.func 84) #[] #[.pointer (some ⟨w.heap.size, 0, none⟩)]] W fun r w' => r = .returned (.bool (mv.any (fun m => decide (m.1 ∈ sk)))) ∧ Below W.heap.size W w') := fun W h =>
    containsFuncM_any 84 #[.pointer (some ⟨w.heap.size, 0, none⟩)] (fun m => decide (m.1 ∈ sk)) mv _ W (HM.out.step h) (enters_of Tryz.func84 (by kernel_rfl) rfl) (fun x W' h' => cl3_any x w.heap.size sk _ W' ((h'.block _ (Boxed.lt (show Boxed W w.heap.size 39 _ from (h.block _ (Boxed.lt HB.out)).trans HB.out))).trans ((h.block _ (Boxed.lt HB.out)).trans HB.out)) ((HS.out.step h).step h')) _ (by rw [List.any_eq_true])
  have LK : Hid (lk sk mv = if 20 < sk.length ∨ 20 < mv.length then 7 else if (riseB sk && riseB (mv.map Prod.fst)) = false then 8 else if sk.any noDay = true then 2 else
    if mv.any (fun m => noDay m.1 || noDay m.2) = true then 2 else if mv.any (fun m => decide (m.1 ∈ sk)) = true then 6 else 0) := rfl
  generalize lk sk mv = k at LK ⊢
  generalize riseB sk = b1 at C1 LK
  generalize riseB (mv.map Prod.fst) = b2 at C3 LK
  generalize sk.any noDay = b3 at C4 LK
  generalize mv.any (fun m => noDay m.1 || noDay m.2) = b4 at C5 LK
  generalize mv.any (fun m => decide (m.1 ∈ sk)) = b5 at C6 LK
  have x1 := Boxed.cell HB.out
  have CE : Hid (∀ W, Below w0.heap.size w0 W → W.cell? ⟨w.heap.size, 0, none⟩ = some (.slice sa sk.length sc)) := fun W h => cell_step x1 h
  have hsk : (sk.length : Int) ≤ 80000 := by omega
  have hmv : (mv.length : Int) ≤ 80000 := by omega
  clear HS HM HB hs2 hm2
  by_cases q1 : 20 < sk.length ∨ 20 < mv.length
  · rw [if_pos q1] at LK
    have EV : Hid (errV s k = .iface 250 (.pointer (some (s 6)))) := errV_of LK.out (by decide)
    have r6 := HG.out.c6
    clear C1 C2 C3 C4 C5 C6 LK HG CE
    have q2 : 20 < sk.length ∨ (¬ 20 < sk.length ∧ 20 < mv.length) := by omega
    clear q1
    rcases q2 with q1 | ⟨q1, q2⟩
    all_goals
      go_enter Tryz.func54, Tryz.ntmps54
      go_wp2
      go_ret
      exact ⟨(by rw [EV.out]; rfl), HA.out⟩
  · rw [if_neg q1] at LK
    obtain ⟨q2, q3⟩ : (sk.length : Int) ≤ 20 ∧ (mv.length : Int) ≤ 20 := by omega
    clear q1
    cases b1 with
    | false =>
      have EV : Hid (errV s k = .iface 250 (.pointer (some (s 7)))) := errV_of (show k = 8 from LK.out) (by decide)
      clear C2 C3 C4 C5 C6 LK CE
      go_enter Tryz.func54, Tryz.ntmps54
      go_wp2_with (go_at_call 78; refine (C1.out _ (Below.refl _ _)).mono ?_; rintro r w1 ⟨rfl, hb1⟩; have r7 := (HG.out.step hb1).c7)
      go_ret
      exact ⟨(by rw [EV.out]; rfl), below_then HA.out hb1⟩
    | true =>
    cases b2 with
    | false =>
      have EV : Hid (errV s k = .iface 250 (.pointer (some (s 7)))) := errV_of (show k = 8 from LK.out) (by decide)
      clear C4 C5 C6 LK CE
      go_enter Tryz.func54, Tryz.ntmps54
      go_wp2_with (first
        | (go_at_call_of 78 (Value.slice sa sk.length sc); refine (C1.out _ (Below.refl _ _)).mono ?_; rintro r w1 ⟨rfl, hb1⟩; clear C1)
        | (go_at_call 79; refine (C2.out _ hb1).mono ?_; rintro r w2 ⟨fa, fc, rfl, hf, hb2⟩)
        | (go_at_call 78; refine (C3.out _ _ _ hf).mono ?_; rintro r w3 ⟨rfl, hb3⟩; have r7 := (HG.out.step (below_then hb1 (below_then hb2 hb3))).c7))
      go_ret
      exact ⟨(by rw [EV.out]; rfl), below_then HA.out (below_then hb1 (below_then hb2 hb3))⟩
    | true =>
    have LK' : Hid (k = if b3 = true then 2 else if b4 = true then 2 else if b5 = true then 6 else 0) := LK.out
    clear LK
    cases b3 with
    | true =>
      have EV : Hid (errV s k = .iface 250 (.pointer (some (s 1)))) := errV_of (show k = 2 from LK'.out) (by decide)
      clear C5 C6 LK'
      go_enter Tryz.func54, Tryz.ntmps54
      go_wp2_with (first
        | (go_at_call_of 78 (Value.slice sa sk.length sc); refine (C1.out _ (Below.refl _ _)).mono ?_; rintro r w1 ⟨rfl, hb1⟩; clear C1)
        | (go_at_call 79; refine (C2.out _ hb1).mono ?_; rintro r w2 ⟨fa, fc, rfl, hf, hb2⟩)
        | (go_at_call 78; refine (C3.out _ _ _ hf).mono ?_; rintro r w3 ⟨rfl, hb3⟩; have h3 := below_then hb1 (below_then hb2 hb3); have x3 := CE.out _ h3)
        | (go_at_call 80; refine (C4.out _ h3).mono ?_; rintro r w4 ⟨rfl, hb4⟩; have h4 := below_then h3 hb4; have r1 := (HG.out.step h4).c1))
      go_ret
      exact ⟨(by rw [EV.out]; rfl), below_then HA.out h4⟩
    | false =>
    have LK2 : Hid (k = if b4 = true then 2 else if b5 = true then 6 else 0) := LK'.out
    clear LK'
    cases b4 with
    | true =>
      have EV : Hid (errV s k = .iface 250 (.pointer (some (s 1)))) := errV_of (show k = 2 from LK2.out) (by decide)
      clear C6 LK2
      go_enter Tryz.func54, Tryz.ntmps54
      go_wp2_with (first
        | (go_at_call_of 78 (Value.slice sa sk.length sc); refine (C1.out _ (Below.refl _ _)).mono ?_; rintro r w1 ⟨rfl, hb1⟩; clear C1)
        | (go_at_call 79; refine (C2.out _ hb1).mono ?_; rintro r w2 ⟨fa, fc, rfl, hf, hb2⟩)
        | (go_at_call 78; refine (C3.out _ _ _ hf).mono ?_; rintro r w3 ⟨rfl, hb3⟩; have h3 := below_then hb1 (below_then hb2 hb3); have x3 := CE.out _ h3)
        | (go_at_call 80; refine (C4.out _ h3).mono ?_; rintro r w4 ⟨rfl, hb4⟩; have h4 := below_then h3 hb4)
        | (go_at_call 82; refine (C5.out _ h4).mono ?_; rintro r w5 ⟨rfl, hb5⟩; have h5 := below_then h4 hb5; have r1 := (HG.out.step h5).c1))
      go_ret
      exact ⟨(by rw [EV.out]; rfl), below_then HA.out h5⟩
    | false =>
    have LK3 : Hid (k = if b5 = true then 6 else 0) := LK2.out
    clear LK2
    have EV : Hid (errV s k = if b5 = true then .iface 250 (.pointer (some (s 5))) else .nilIface) := by
      show _ = _
      rw [LK3.out]
      cases b5 <;> rfl
    cases b5
    all_goals
      clear LK3
      go_enter Tryz.func54, Tryz.ntmps54
      go_wp2_with (first
        | (go_at_call_of 78 (Value.slice sa sk.length sc); refine (C1.out _ (Below.refl _ _)).mono ?_; rintro r w1 ⟨rfl, hb1⟩; clear C1)
        | (go_at_call 79; refine (C2.out _ hb1).mono ?_; rintro r w2 ⟨fa, fc, rfl, hf, hb2⟩)
        | (go_at_call 78; refine (C3.out _ _ _ hf).mono ?_; rintro r w3 ⟨rfl, hb3⟩; have h3 := below_then hb1 (below_then hb2 hb3); have x3 := CE.out _ h3)
        | (go_at_call 80; refine (C4.out _ h3).mono ?_; rintro r w4 ⟨rfl, hb4⟩; have h4 := below_then h3 hb4)
        | (go_at_call 82; refine (C6.out _ h5).mono ?_; rintro r w6 ⟨rfl, hb6⟩; have h6 := below_then h5 hb6; have r5 := (HG.out.step h6).c5)
        | (go_at_call 82; refine (C5.out _ h4).mono ?_; rintro r w5 ⟨rfl, hb5⟩; have h5 := below_then h4 hb5))
      go_ret
      exact ⟨(by rw [EV.out]; rfl), below_then HA.out h6⟩
end Go.Proofs.YtekminpoiokgfaaGreatDoor
