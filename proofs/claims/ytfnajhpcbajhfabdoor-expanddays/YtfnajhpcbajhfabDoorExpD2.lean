/- Package expand's Days for any start and rule: the function that it hands back gives them. -/
import Derived.Test.YtfnajhpcbajhfabDoorExpD
import Derived.Test.YtfnajhpcbajhfabDoorExpO
import Derived.Lib.SliceRun
namespace Go.Proofs.YtfnajhpcbajhfabDoor
open Go Go.RowKit Go.Shelf Cal
attribute [local go_sem] Oper.semAt_some

/-- these are the days of a start and a rule -/
def IsDays (f : ByteArray) (e : Int) (ds : List Int) (c u s : Int) (xs : List Int) : Prop :=
  (Well (rd f e ds c u) ∧ 0 ≤ s ∧ s ≤ 73048 ∧ xs = cut c u (cds f.toList s e ds)) ∨ (¬ (Well (rd f e ds c u) ∧ 0 ≤ s ∧ s ≤ 73048) ∧ xs = [])
theorem cut_len (c u : Int) (l : List Int) : (cut c u l).length ≤ l.length := by
  have h : (cutU u l).length ≤ l.length := by
    unfold cutU
    split
    · exact (List.takeWhile_sublist _).length_le
    · exact Nat.le_refl _
  unfold cut
  split
  · exact Nat.le_trans (List.length_take_le' _ _) h
  · exact h
theorem IsDays.len {f : ByteArray} {e : Int} {ds : List Int} {c u s : Int} {xs : List Int} (h : IsDays f e ds c u s xs) : xs.length ≤ 73049 := by
  rcases h with ⟨_, h0, _, rfl⟩ | ⟨_, rfl⟩
  · exact Nat.le_trans (cut_len _ _ _) (From_len h0)
  · simp
theorem IsDays.rise {f : ByteArray} {e : Int} {ds : List Int} {c u s : Int} {xs : List Int} (h : IsDays f e ds c u s xs) : xs.Pairwise (· < ·) := by
  rcases h with ⟨_, _, _, rfl⟩ | ⟨_, rfl⟩
  · exact cut_rise (From_rise _ _)
  · exact List.Pairwise.nil

set_option maxHeartbeats 2000000 in
set_option maxRecDepth 100000 in
theorem cloneI_any (ds : List Int) (sl : Value) (w : World) (hd : Days w sl ds) :
    Calls Tryd.prog 32 #[sl] w fun r w' => ∃ v, r = .returned v ∧ Ow w.heap.size w' v ds ∧ Below w.heap.size w w' := by
  obtain ⟨a, cap, rfl, h20, hcap, hc⟩ := hd
  obtain ⟨i0, hi, hz0, hz1, hz2⟩ := info_parts info_int
  have q22 : ∀ (w : World) (a : Option Addr) (n c n' c' : Nat), (binOp .eql 22 (.slice a n c) (.slice none n' c')).run Tryd.prog w = .ok (.bool a.isNone) w := fun w a n c n' c' => Lib.run_eql_slice_nil w _ _ a n c n' c' Tryd.underlying22
  cases a with
  | none =>
    have h0 : ds = [] := by
      cases ds with
      | nil => rfl
      | cons x r => obtain ⟨b, e, _⟩ := hc 0 (by simp); cases e
    subst h0
    clear hc
    go_enter Tryd.func32, Tryd.ntmps32
    go_wp2
    go_ret
    exact ⟨_, rfl, Ow.nil _ _, Below.refl _ _⟩
  | some ad =>
    have HC : Hid (∀ j v, (ds.map (Value.int .i64))[j]? = some v → (w.alloc (.cells #[] 3)).cell? (ad.add j) = some v) := fun j v hv => by
      rw [List.getElem?_map] at hv
      obtain ⟨d, hd, rfl⟩ := Option.map_eq_some_iff.1 hv
      obtain ⟨hj, rfl⟩ := List.getElem?_eq_some_iff.1 hd
      obtain ⟨b, e, hl, hcc⟩ := hc j hj
      cases e
      rw [Addr.add_lit, Nat.zero_add]
      exact cell_alloc _ hcc
    clear hc
    go_enter Tryd.func32, Tryd.ntmps32
    go_wp2_with (at_builtin; refine wpList_append_own _ rfl _ _ 22 rfl w.heap.size 3 i0 (.int .i64 0) 1 8 Tryd.underlying22 hi hz0 hz1 hz2 rfl (by decide) _ _ _ rfl (World.ownsRow_made w #[] 0 (Nat.le_refl _) (Nat.zero_le _) rfl) ad ds.length cap (ds.map (Value.int .i64)) rfl (by simp) HC.out (fun v hv => by obtain ⟨x, _, rfl⟩ := List.mem_map.1 hv; rfl) (by unfold maxLen; omega) (by omega) (by simp) ?_; intro v' w1 hown hgrow _)
    have OW : Hid (Ow w.heap.size w1 v' ds) := by
      show World.ownsRow _ _ _ _ _ _ _
      simpa using hown
    have HB : Hid (Below w.heap.size w w1) := (below_alloc w (.cells #[] 3)).grown (show (w.alloc (.cells #[] 3)).grownBy w1 (Value.slice (some ⟨w.heap.size, 0, none⟩) 0 0).ownBlock from hgrow) (by simp) (fun k q => (World.ownsRow.lt (World.ownsRow_made (e := 3) (size := 1) w #[] 0 (Nat.le_refl _) (Nat.zero_le _) rfl) k q).1)
    obtain ⟨va, vc, rfl⟩ := ow_form OW.out
    clear hown hgrow HC
    go_wp2
    go_ret
    exact ⟨_, rfl, OW.out, HB.out⟩

/-- Days has handed back an iterator over boxes of its own -/
def Made (f : ByteArray) (e : Int) (ds : List Int) (c u s : Int) (n : Nat) (W : World) (sl : Value) : Prop :=
  Boxed W n 3 (.int .i64 s) ∧ RB W (n + 1) f e sl c u ∧ Ow (n + 2) W sl ds ∧ ds.length ≤ 20
theorem days_any (f : ByteArray) (e : Int) (sl : Value) (ds : List Int) (c u s : Int) (w : World) (hd : Days w sl ds) : Calls Tryd.prog 21 #[.int .i64 s, rv f e sl c u] w fun r w' =>
    r = .returned (.func (.func 33) #[] #[.pointer (some ⟨w.heap.size, 0, none⟩), .pointer (some ⟨w.heap.size + 1, 0, none⟩)]) ∧ Below w.heap.size w w' ∧ w.heap.size + 2 ≤ w'.heap.size ∧ ∃ sl', Made f e ds c u s w.heap.size w' sl' := by
  have hA := below_box2 w (.cells #[.int .i64 s] 3) (.cells #[.string f, .int .i64 e, sl, .int .i64 c, .int .i64 u] 24)
  have b1 : Boxed ((w.alloc (.cells #[.int .i64 s] 3)).alloc (.cells #[.string f, .int .i64 e, sl, .int .i64 c, .int .i64 u] 24)) w.heap.size 3 (.int .i64 s) := block_alloc _ (block_at _ rfl)
  have b2 : RB ((w.alloc (.cells #[.int .i64 s] 3)).alloc (.cells #[.string f, .int .i64 e, sl, .int .i64 c, .int .i64 u] 24)) (w.heap.size + 1) f e sl c u := block_at _ (by simp)
  have hz : ((w.alloc (.cells #[.int .i64 s] 3)).alloc (.cells #[.string f, .int .i64 e, sl, .int .i64 c, .int .i64 u] 24)).heap.size = w.heap.size + 2 := by simp
  have CL := cloneI_any ds sl _ (hd.step hA)
  obtain ⟨a, cap, rfl, h20, _⟩ := hd
  unfold rv
  have HZ : Hid (_) := hz
  generalize hw0 : (w.alloc (.cells #[.int .i64 s] 3)).alloc (.cells #[.string f, .int .i64 e, .slice a ds.length cap, .int .i64 c, .int .i64 u] 24) = w0 at hA b1 b2 HZ CL
  have HC : Hid (_) := CL
  have HA : Hid (_) := hA
  have B1 : Hid (_) := b1
  have B2 : Hid (RB w0 (w.heap.size + 1) f e (.slice a ds.length cap) c u) := b2
  obtain ⟨x0, x1, x2, x3, x4⟩ := blk5 b2
  clear CL hA b1 b2 hz
  go_enter Tryd.func21, Tryd.ntmps21
  go_wp2_with (go_at_call 32; refine Calls.mono HC.out ?_; rintro r w1 ⟨v, rfl, ho, hb⟩; obtain ⟨va, vc, rfl⟩ := ow_form ho; have k1 : RB w1 (w.heap.size + 1) f e (.slice a ds.length cap) c u := (hb.block _ (by rw [HZ.out]; omega)).trans B2.out; have y2 := blk5_frozen k1 2; obtain ⟨y0, y1, y3, y4, y5⟩ := blk5 k1; have K1 : Hid (RB w1 (w.heap.size + 1) f e (.slice a ds.length cap) c u) := k1; have HO : Hid (_) := ho; have HB : Hid (_) := hb; clear k1 ho hb)
  go_ret
  have hs1 := HB.out.size
  rw [HZ.out] at hs1
  refine ⟨rfl, (HA.out.trans (HB.out.mono HA.out.size)).setCell (p := ⟨w.heap.size + 1, 2, none⟩) (by show _ ≤ w.heap.size + 1; omega) _, by rw [set_size]; exact hs1, .slice va ds.length vc, ?_, ?_, ?_, h20⟩
  · exact (Below.heap_setCell w1 ⟨w.heap.size + 1, 2, none⟩ _ w.heap.size (fun e => by have e' : w.heap.size = w.heap.size + 1 := e; omega)).trans ((HB.out.block _ (by rw [HZ.out]; omega)).trans B1.out)
  · exact set_block _ K1.out
  · have := HO.out
    rw [HZ.out] at this
    exact Ow.grown this (grown_set w1 ⟨w.heap.size + 1, 2, none⟩ _) (by show w.heap.size + 1 < _; omega)

set_option maxHeartbeats 1000000 in
theorem none_iter {aa bb : Nat} (hab : bb + 6 ≤ aa) (f : ByteArray) (e : Int) (sl : Value) (c u : Int) (ds : List Int) (s : Int) (hw : ¬ (Well (rd f e ds c u) ∧ 0 ≤ s ∧ s ≤ 73048))
    (Bs Br : Nat) (O : Nat → Prop) (W0 : World) (b1 : Boxed W0 Bs 3 (.int .i64 s)) (b2 : RB W0 Br f e sl c u) :
    Gives aa bb 33 #[.pointer (some ⟨Bs, 0, none⟩), .pointer (some ⟨Br, 0, none⟩)] O (RdC sl ds) [] W0 := by
  intro n l J0 J Jx hna hJ0 h01 hJ hJx hRd0 hRd hY h00
  have h1 : 1 ≤ n := by omega
  obtain ⟨hg, hd⟩ := hRd0 _ h00
  have hA := below_alloc W0 (.cells #[.func (.yield l) #[] #[]] 32)
  have CK : Hid (_) := echeck_no f e sl c u ds s _ (hg.step hA) (hd.step hA) hw
  obtain ⟨ad, cap, rfl, _, _, _⟩ := id hd
  have x1 := (Boxed.alloc b1 (.cells #[.func (.yield l) #[] #[]] 32)).cell
  obtain ⟨x2, x3, x4, x5, x6⟩ := blk5 (block_alloc (.cells #[.func (.yield l) #[] #[]] 32) b2)
  have HA : Hid (_) := hA
  have G0 : Hid (_) := h00
  have K0 : Hid (_) := hJ0
  have K1 : Hid (_) := h01
  clear b1 b2 hA hd hw h00 hJ0 h01 hJ hJx hRd0 hRd hY hg
  refine callsIn_of_wp_marks Tryd.func33 rfl trivial ?_ rfl
  simp only [Tryd.ntmps33, List.size_toArray, List.length_cons, List.length_nil, Nat.reduceAdd, Nat.reduceSub, Array.replicate_succ, Array.replicate_zero, List.push_toArray, List.append_toArray, List.nil_append, List.cons_append]
  unfold rv at CK
  gi_wp2_with (refine ⟨trivial, ?_⟩; gi_at_call 20; refine (callsIn_wide.2 CK.out).mono ?_; rintro r w1 ⟨⟨p, rfl⟩, hb1⟩)
  have hB := below_then HA.out hb1
  exact ⟨_, results_none rfl _ _ _, ⟨_, rfl⟩, w1.heap.size, hB.size, Nat.le_refl _, .inl (K1.out _ (K0.out _ _ G0.out ((Steps.below hB).mono (fun k hk => hk.2))) hB.size)⟩

theorem days_gives {aa bb : Nat} (hab : bb + 6 ≤ aa) {f : ByteArray} {e : Int} {sl : Value} {c u : Int} {ds : List Int} {s : Int} {xs : List Int} (hx : IsDays f e ds c u s xs) (Bs Br : Nat) (O : Nat → Prop) (hO : O Br) (W0 : World)
    (b1 : Boxed W0 Bs 3 (.int .i64 s)) (b2 : RB W0 Br f e sl c u) : Gives aa bb 33 #[.pointer (some ⟨Bs, 0, none⟩), .pointer (some ⟨Br, 0, none⟩)] O (RdC sl ds) xs W0 := by
  rcases hx with ⟨hw, h0, h1, rfl⟩ | ⟨hw, rfl⟩
  · exact days_iter hab f e sl c u ds s hw h0 h1 Bs Br O hO W0 b1 b2
  · exact none_iter hab f e sl c u ds s hw Bs Br O W0 b1 b2

theorem Made.gives {aa bb : Nat} (hab : bb + 6 ≤ aa) {f : ByteArray} {e : Int} {sl : Value} {c u : Int} {ds : List Int} {s : Int} {xs : List Int} {n : Nat} {W : World} (hm : Made f e ds c u s n W sl) (hx : IsDays f e ds c u s xs) (O : Nat → Prop) (hO : O (n + 1)) :
    Gives aa bb 33 #[.pointer (some ⟨n, 0, none⟩), .pointer (some ⟨n + 1, 0, none⟩)] O (RdC sl ds) xs W := days_gives hab hx _ _ O hO W hm.1 hm.2.1
theorem Made.step {f : ByteArray} {e : Int} {sl : Value} {c u : Int} {ds : List Int} {s : Int} {n : Nat} {W W' : World} (hm : Made f e ds c u s n W sl) (hb : Below W.heap.size W W') : Made f e ds c u s n W' sl :=
  ⟨(hb.block _ (Boxed.lt hm.1)).trans hm.1, (hb.block _ (Array.getElem?_eq_some_iff.1 hm.2.1).1).trans hm.2.1, Ow.step hm.2.2.1 hb, hm.2.2.2⟩
/-- the rule's days, as the iterator reads them, under steps that keep what lies behind its boxes -/
theorem Made.days {f : ByteArray} {e : Int} {sl : Value} {c u : Int} {ds : List Int} {s : Int} {n : Nat} {W W' : World} (hm : Made f e ds c u s n W sl) (hk : ∀ k, n + 2 ≤ k → k < W.heap.size → W'.heap[k]? = W.heap[k]?) : Days W' sl ds :=
  ow_days (Ow.steps hm.2.2.1 hk) hm.2.2.2

/-- a row of days whose block lies from lo on, below hi -/
def DaysIn (lo hi : Nat) (W : World) (sl : Value) (ds : List Int) : Prop :=
  ds.length ≤ 20 ∧ ∃ (a : Option Addr) (c : Nat), sl = .slice a ds.length c ∧ ds.length ≤ c ∧ (ds = [] ∨ ∃ (b : Nat) (cs : Array Value) (t : TypeId) (fr : Nat × Nat), a = some ⟨b, 0, none⟩ ∧ lo ≤ b ∧ b < hi ∧ W.heap[b]? = some (.cells cs t fr) ∧ ∀ (j : Nat) (h : j < ds.length), W.cell? ⟨b, j, none⟩ = some (.int .i64 ds[j]))
theorem DaysIn.days {lo hi : Nat} {W : World} {sl : Value} {ds : List Int} (h : DaysIn lo hi W sl ds) : Days W sl ds := by
  obtain ⟨h1, a, c, h2, h3, h4⟩ := h
  refine ⟨a, c, h2, h1, h3, fun j hj => ?_⟩
  rcases h4 with rfl | ⟨b, cs, t, fr, e, _, _, hb, hc⟩
  · exact absurd hj (by simp)
  · exact ⟨b, e, (Array.getElem?_eq_some_iff.1 hb).1, hc j hj⟩
theorem DaysIn.steps {lo hi : Nat} {W W' : World} {sl : Value} {ds : List Int} (h : DaysIn lo hi W sl ds) (hk : ∀ k, lo ≤ k → k < hi → k < W.heap.size → W'.heap[k]? = W.heap[k]?) : DaysIn lo hi W' sl ds := by
  obtain ⟨h1, a, c, h2, h3, h4⟩ := h
  refine ⟨h1, a, c, h2, h3, ?_⟩
  rcases h4 with h4 | ⟨b, cs, t, fr, e, p1, p2, hb, hc⟩
  · exact .inl h4
  · have hk' := hk b p1 p2 (Array.getElem?_eq_some_iff.1 hb).1
    exact .inr ⟨b, cs, t, fr, e, p1, p2, hk'.trans hb, fun j hj => (World.cell?_of_block (a := ⟨b, j, none⟩) hk').trans (hc j hj)⟩
theorem Made.row {f : ByteArray} {e : Int} {sl : Value} {c u : Int} {ds : List Int} {s : Int} {n : Nat} {W : World} (hm : Made f e ds c u s n W sl) : DaysIn (n + 2) W.heap.size W sl ds := by
  obtain ⟨_, _, h, h20⟩ := hm
  rcases h.2 with ⟨rfl, h0⟩ | ⟨g, cap, cur, rfl, hb, hg, hcap, hmax, hsz, htake⟩
  · exact ⟨h20, none, 0, by rw [h0], by omega, .inl (List.length_eq_zero_iff.1 h0)⟩
  · refine ⟨h20, _, cap, rfl, hcap, .inr ⟨g, cur, 3, (0, 0), rfl, hb, (Array.getElem?_eq_some_iff.1 hg).1, hg, fun j hj => ?_⟩⟩
    have := World.ownsRow.cellAt h j (by omega)
    rw [this, List.getElem?_map, List.getElem?_eq_getElem hj]; rfl
end Go.Proofs.YtfnajhpcbajhfabDoor
