/- The document's own answer to what comes again: the contract of IsOne. -/
import Derived.Test.YtdhggknmefonkabDoorExpA
namespace Go.Proofs.YtdhggknmefonkabDoor
open Go.RowKit Cal

theorem fr_add {p : Int → Bool} : ∀ (n m : Nat) (a : Int), fr p a (n + m) = fr p a n ++ fr p (a + n) m
  | 0, m, a => by simp [fr]
  | n + 1, m, a => by
    have e1 : fr p a (n + 1 + m) = if p a = true then a :: fr p (a + 1) (n + m) else fr p (a + 1) (n + m) := by
      rw [show n + 1 + m = (n + m) + 1 by omega]; rfl
    have e2 : fr p a (n + 1) = if p a = true then a :: fr p (a + 1) n else fr p (a + 1) n := rfl
    rw [e1, e2, fr_add n m (a + 1), show a + 1 + (n : Int) = a + ((n + 1 : Nat) : Int) by omega]
    split <;> rfl
theorem cds_rise (f : List UInt8) (s e : Int) (ds : List Int) : (cds f s e ds).Pairwise (· < ·) := From_rise _ _
theorem From_split {p : Int → Bool} {a d : Int} (h : a ≤ d) (hd : d ≤ 73048) : From p a = upTo p a d ++ From p (d + 1) := by
  unfold From upTo
  have := fr_add (p := p) (d + 1 - a).toNat (73049 - (d + 1)).toNat a
  rw [show (73049 - a).toNat = (d + 1 - a).toNat + (73049 - (d + 1)).toNat by omega, this, show a + ((d + 1 - a).toNat : Int) = d + 1 by omega]
theorem inB_iff {xs : List Int} {d : Int} : inB xs d = true ↔ d ∈ xs := by unfold inB; rw [List.contains_iff_mem]
/-- of a count's first ones: a day is one of those up to it -/
theorem take_in {p : Int → Bool} {a d : Int} (c : Nat) (h : a ≤ d) (hd : d ≤ 73048) : inB ((upTo p a d).take c) d = inB ((From p a).take c) d := by
  rw [Bool.eq_iff_iff, inB_iff, inB_iff, From_split h hd, List.take_append, List.mem_append]
  constructor
  · exact fun q => .inl q
  · rintro (q | q)
    · exact q
    · have := (mem_From.1 (List.mem_of_mem_take q)).1
      omega
theorem ow_two {base : Nat} {W : World} {v : Value} {o : List Int} (h : Ow base W v o) : (v = .slice none 0 0 ∧ o = []) ∨ ∃ ad cap, v = .slice (some ad) o.length cap ∧ Gcl W ad o := by
  obtain ⟨a, cap, rfl, hn, hs⟩ := ow_got h
  cases a with
  | none =>
    obtain ⟨h1, rfl⟩ := hn rfl
    rw [h1]
    exact .inl ⟨rfl, List.length_eq_zero_iff.1 h1⟩
  | some ad => exact .inr ⟨ad, cap, rfl, fun j hj => (hs ad rfl j hj).2⟩
theorem isIn_ow {base : Nat} {W : World} {v : Value} {o : List Int} (x : Int) (h : Ow base W v o) (hl : o.length ≤ 100000) :
    Calls Tryd.prog 26 #[.int .i64 x, v] W fun r w' => r = .returned (.bool (inB o x)) ∧ w' = W := by
  rcases ow_two h with ⟨rfl, rfl⟩ | ⟨ad, cap, rfl, hc⟩
  · exact isIn_none x W
  · exact isIn_some x ad cap o W hl hc
theorem cut_lenA (c u : Int) (l : List Int) : (cut c u l).length ≤ l.length := by
  have h : (cutU u l).length ≤ l.length := by
    unfold cutU
    split
    · exact (List.takeWhile_sublist _).length_le
    · exact Nat.le_refl _
  unfold cut
  split
  · exact Nat.le_trans (List.length_take_le' _ _) h
  · exact h
theorem upTo_len {p : Int → Bool} {a b : Int} (h0 : 0 ≤ a) (h : b ≤ 73048) : (upTo p a b).length ≤ 73049 := by
  unfold upTo
  have := fr_len (p := p) (b + 1 - a).toNat a
  omega

set_option maxHeartbeats 2000000 in
theorem isOne_any (f : ByteArray) (e : Int) (sl : Value) (c u : Int) (ds : List Int) (s d : Int) (w : World) (hg : Got w sl ds) (hw : Well (rd f e ds c u)) (h20 : ds.length ≤ 20) (hs0 : 0 ≤ s) (hs1 : s ≤ 73048) :
    Calls Tryd.prog 18 #[.int .i64 s, rv f e sl c u, .int .i64 d] w fun r w' => r = .returned (.bool (inB (cut c u (cds f.toList s e ds)) d)) ∧ Below w.heap.size w w' := by
  have HG : Hid (Got w sl ds) := hg
  obtain ⟨a, cap, rfl, _, _⟩ := hg
  have hc0 : 0 ≤ c := hw.co.1
  have hcu : c = 0 ∨ u = -1 := hw.cu
  have hu0 : -1 ≤ u := hw.un.1
  have IC : Hid (∀ (W : World), Below w.heap.size w W → s ≤ d → d ≤ 73048 → Calls Tryd.prog 24 #[.int .i64 s, .agg #[.string f, .int .i64 e, .slice a ds.length cap, .int .i64 c, .int .i64 u], .int .i64 d] W fun r w' => r = .returned (.bool (cnd f.toList s e ds d)) ∧ Below W.heap.size W w') :=
    fun W h h1 h2 => isCand_any f e _ c u ds s d W (HG.out.step h) hw h20 hs0 h1 h2
  have AD : Hid (∀ (W : World), Below w.heap.size w W → d ≤ 73048 → Calls Tryd.prog 16 #[.int .i64 s, .agg #[.string f, .int .i64 e, .slice a ds.length cap, .int .i64 c, .int .i64 u], .int .i64 d] W fun r w' => ∃ v, r = .returned v ∧ Ow W.heap.size w' v (cut c u (upTo (cnd f.toList s e ds) s d)) ∧ Below W.heap.size W w') :=
    fun W h h2 => allDays_any f e _ c u ds s d W (HG.out.step h) hw h20 hs0 hs1 h2
  have MEM : Hid (∀ x, x ∈ cut c u (cds f.toList s e ds) → s ≤ x ∧ x ≤ 73048 ∧ cnd f.toList s e ds x = true ∧ (0 ≤ u → x ≤ u)) := fun x hx => by
    have h1 : x ∈ cutU u (cds f.toList s e ds) := by
      unfold cut at hx
      split at hx
      · exact List.mem_of_mem_take hx
      · exact hx
    have h2 : x ∈ cds f.toList s e ds ∧ (0 ≤ u → x ≤ u) := by
      unfold cutU at h1
      split at h1
      · rw [take_rise (cds_rise _ _ _ _)] at h1
        have := List.mem_filter.1 h1
        exact ⟨this.1, fun _ => by simpa using this.2⟩
      · exact ⟨h1, fun q => by omega⟩
    have h3 := mem_From.1 h2.1
    exact ⟨h3.1, h3.2.1, h3.2.2, h2.2⟩
  have YES : Hid (c = 0 → s ≤ d → d ≤ 73048 → cnd f.toList s e ds d = true → (0 ≤ u → d ≤ u) → inB (cut c u (cds f.toList s e ds)) d = true) := fun h1 h2 h3 h4 h5 => by
    rw [inB_iff]
    have hm : d ∈ cds f.toList s e ds := mem_From.2 ⟨h2, h3, h4⟩
    unfold cut cutU
    rw [if_neg (by omega)]
    split
    · rw [take_rise (cds_rise _ _ _ _), List.mem_filter]
      exact ⟨hm, by simpa using h5 (by assumption)⟩
    · exact hm
  have TK : Hid (0 < c → s ≤ d → d ≤ 73048 → inB (cut c u (upTo (cnd f.toList s e ds) s d)) d = inB (cut c u (cds f.toList s e ds)) d) := fun h1 h2 h3 => by
    have hu : u = -1 := by omega
    rw [hu, cut_count h1, cut_count h1]
    exact take_in _ h2 h3
  have LEN : Hid (d ≤ 73048 → (cut c u (upTo (cnd f.toList s e ds) s d)).length ≤ 100000) := fun h => by
    have h1 := cut_lenA c u (upTo (cnd f.toList s e ds) s d)
    have h2 := upTo_len (p := cnd f.toList s e ds) hs0 h
    omega
  have NO : Hid (d ∉ cut c u (cds f.toList s e ds) → inB (cut c u (cds f.toList s e ds)) d = false) := fun h => by
    rw [← Bool.not_eq_true, inB_iff]; exact h
  clear hw hcu
  generalize cut c u (upTo (cnd f.toList s e ds) s d) = L at AD TK LEN
  generalize cut c u (cds f.toList s e ds) = X at MEM YES TK NO ⊢
  generalize cnd f.toList s e ds = p at IC MEM YES
  have k0 : RB (w.alloc (.cells #[.string f, .int .i64 e, .slice a ds.length cap, .int .i64 c, .int .i64 u] 24)) w.heap.size f e (.slice a ds.length cap) c u := block_at _ rfl
  have K0 : Hid (_) := k0
  have HA : Hid (Below w.heap.size w (w.alloc (.cells #[.string f, .int .i64 e, .slice a ds.length cap, .int .i64 c, .int .i64 u] 24))) := below_alloc _ _
  clear k0
  unfold rv
  by_cases g1 : d < s
  · have R : Hid (inB X d = false) := NO.out (fun h => by have := (MEM.out d h).1; omega)
    go_enter Tryd.func18, Tryd.ntmps18
    go_wp2
    go_ret
    exact ⟨ret_bool R.out.symm, below_alloc _ _⟩
  · by_cases g2 : 73048 < d
    · have R : Hid (inB X d = false) := NO.out (fun h => by have := (MEM.out d h).2.1; omega)
      go_enter Tryd.func18, Tryd.ntmps18
      go_wp2
      go_ret
      exact ⟨ret_bool R.out.symm, below_alloc _ _⟩
    · have ic := IC.out _ HA.out (by omega) (by omega)
      cases hp : p d with
      | false =>
        have R : Hid (inB X d = false) := NO.out (fun h => by have := (MEM.out d h).2.2.1; rw [hp] at this; exact absurd this (by decide))
        rw [hp] at ic
        have HIC : Hid (_) := ic
        clear ic hp
        go_enter Tryd.func18, Tryd.ntmps18
        go_wp2_with (go_at_call 24; refine Calls.mono HIC.out ?_; rintro r w1 ⟨rfl, hb1⟩)
        go_ret
        exact ⟨ret_bool R.out.symm, below_then (below_alloc _ _) hb1⟩
      | true =>
        rw [hp] at ic
        have HIC : Hid (_) := ic
        have HP : Hid (_) := hp
        clear ic hp
        by_cases g3 : 0 ≤ u ∧ u < d
        · have R : Hid (inB X d = false) := NO.out (fun h => by have := (MEM.out d h).2.2.2 g3.1; omega)
          obtain ⟨g3, g4⟩ := g3
          go_enter Tryd.func18, Tryd.ntmps18
          go_wp2_with (go_at_call 24; refine Calls.mono HIC.out ?_; rintro r w1 ⟨rfl, hb1⟩; obtain ⟨x0, x1, x2, x3, x4⟩ := blk5 ((hb1.block _ (by simp)).trans K0.out))
          go_ret
          exact ⟨ret_bool R.out.symm, below_then (below_alloc _ _) hb1⟩
        · have hu3 : u < 0 ∨ (0 ≤ u ∧ d ≤ u) := by omega
          by_cases g5 : c = 0
          · have R : Hid (inB X d = true) := YES.out g5 (by omega) (by omega) HP.out (by omega)
            have g5' : (c == 0) = true := by rw [g5]; rfl
            clear g5 g3
            rcases hu3 with g6 | ⟨g6, g7⟩
            all_goals
              go_enter Tryd.func18, Tryd.ntmps18
              go_wp2_with (go_at_call 24; refine Calls.mono HIC.out ?_; rintro r w1 ⟨rfl, hb1⟩; obtain ⟨x0, x1, x2, x3, x4⟩ := blk5 ((hb1.block _ (by simp)).trans K0.out))
              go_ret
              exact ⟨ret_bool R.out.symm, below_then (below_alloc _ _) hb1⟩
          · have g5' : (c == 0) = false := by rw [beq_eq_false_iff_ne]; exact g5
            have R : Hid (inB L d = inB X d) := TK.out (by omega) (by omega) (by omega)
            have hll := LEN.out (by omega)
            clear g5 g3
            rcases hu3 with g6 | ⟨g6, g7⟩
            all_goals
              go_enter Tryd.func18, Tryd.ntmps18
              go_wp2_with (first
                | (go_at_call 24; refine Calls.mono HIC.out ?_; rintro r w1 ⟨rfl, hb1⟩; obtain ⟨x0, x1, x2, x3, x4⟩ := blk5 ((hb1.block _ (by simp)).trans K0.out))
                | (go_at_call 16; refine Calls.mono (AD.out w1 (below_then HA.out hb1) (by omega)) ?_; rintro r w2 ⟨v, rfl, hov, hb2⟩; have HOV : Hid (_) := hov; clear hov)
                | (go_at_call 26; refine Calls.mono (isIn_ow d HOV.out hll) ?_; rintro r w3 ⟨rfl, rfl⟩))
              go_ret
              exact ⟨ret_bool R.out, below_then (below_alloc _ _) (below_then hb1 hb2)⟩
end Go.Proofs.YtdhggknmefonkabDoor
