/- Names of commits: Drop. -/
import Derived.Test.YtcaeafgkogfgdaaGreatDoorRsCR
import Derived.Test.YtcaeafgkogfgdaaGreatDoorRaAF
import Derived.Lib.Join
namespace Go.Proofs.YtcaeafgkogfgdaaGreatDoor
open Go Go.RowKit Go.Maps Go.Sort Cal
attribute [local go_sem] Oper.semAt_some

set_option maxHeartbeats 4000000 in
set_option maxRecDepth 100000 in
theorem rdrop_any (lo rb mb n : Nat) (ns : List ByteArray) (L : ByteArray → List (Int × Int)) (nm : ByteArray) (old at_ : Int) (s : Nat → Addr) (w : World) (g : GlobF s w) (h : RefsAt lo w rb mb n ns L) (hn : n ≤ 80000) (hsz : nm.size ≤ 60) (hl : ∀ x, (L x).length ≤ 70000) (k : Nat) (hk : k = dropK L nm old at_) :
    Calls Tryz.prog 9 #[.pointer (some ⟨rb, 0, none⟩), .string nm, .int .i64 old, .int .i64 at_] w fun r w' => r = .returned (rerr s k) ∧ ((k ≠ 0 ∧ Below w.heap.size w w') ∨ (k = 0 ∧ SetTo lo rb mb n w ns L nm (at_, -1) w')) := by
  classical
  obtain ⟨v, LK, hv⟩ := h.look nm (by omega)
  have hc := h.cell
  have LA : Hid (Calls _ _ _ _ _) := lastOf_any (L nm) v w (hv.movs (Nat.le_trans (hl nm) (by decide)))
  have IB : Hid (∀ x W, _) := fun x W => rInB_any x W
  have IA : Hid (∀ x y z W, _) := fun x y z W => rIsAt_any x y z W
  have HR : Hid (RefsAt lo w rb mb n ns L) := h
  have HG : Hid (GlobF s w) := g
  have HLK : Hid (_) := LK
  unfold dropK at hk
  by_cases c1 : okID nm
  case neg =>
    rw [if_pos c1] at hk
    subst hk
    have ID : Hid (∀ W, Calls Tryz.prog 21 #[.string nm] W fun r w' => r = .returned (.bool false) ∧ w' = W) := fun W => isID_any nm W (by omega) false (by simp [c1])
    generalize lst (L nm) = e at LA
    clear h g hv
    go_enter Tryz.func9, Tryz.ntmps9
    go_upto_region 2 with (go_at_call 17; refine Calls.mono LA.out ?_; rintro r w1 ⟨rfl, hb1⟩)
    have hb2 := below_then hb1 (below_alloc w1 (.cells #[.int .i64 e.1, .int .i64 e.2] 48))
    have ge := (HG.out.step hb2).name
    go_wp2_with (go_at_call 21; refine Calls.mono (ID.out _) ?_; rintro r w2 ⟨rfl, rfl⟩)
    go_ret
    exact ⟨rfl, .inl ⟨by decide, hb2⟩⟩
  case pos =>
  rw [if_neg (fun q => q c1)] at hk
  have ID : Hid (∀ W, Calls Tryz.prog 21 #[.string nm] W fun r w' => r = .returned (.bool true) ∧ w' = W) := fun W => isID_any nm W (by omega) true (by simp [c1])
  obtain ⟨ba, hba⟩ : ∃ b : Bool, b = decide (0 ≤ at_ ∧ at_ ≤ 1099511627776) := ⟨_, rfl⟩
  have IBa : Hid (∀ W, Calls Tryz.prog 22 #[.int .i64 at_] W fun r w' => r = .returned (.bool ba) ∧ w' = W) := fun W => by rw [hba]; exact rInB_any at_ W
  by_cases c2 : 0 ≤ at_ ∧ at_ ≤ 1099511627776
  case neg =>
    rw [if_pos c2] at hk
    subst hk
    generalize lst (L nm) = e at LA
    clear h g hv
    have hta : ba = false := by rw [hba]; exact decide_eq_false c2
    subst hta
    clear hba
    go_enter Tryz.func9, Tryz.ntmps9
    go_upto_region 2 with (go_at_call 17; refine Calls.mono LA.out ?_; rintro r w1 ⟨rfl, hb1⟩)
    have hb2 := below_then hb1 (below_alloc w1 (.cells #[.int .i64 e.1, .int .i64 e.2] 48))
    have ge := (HG.out.step hb2).bound
    go_wp2_with (first
      | (go_at_call 21; refine Calls.mono (ID.out _) ?_; rintro r w2 ⟨rfl, rfl⟩)
      | (go_at_call 22; refine Calls.mono (IBa.out _) ?_; rintro r w3 ⟨rfl, rfl⟩))
    go_ret
    exact ⟨rfl, .inl ⟨by decide, hb2⟩⟩
  case pos =>
  rw [if_neg (fun q => q c2)] at hk
  have hta : ba = true := by rw [hba]; exact decide_eq_true c2
  subst hta
  clear hba
  have hFIN : Hid (∀ (W W2 w3 : World) (gb capb H : Nat), Below w.heap.size w W → Below W.heap.size W W2 → w3.ownsRow lo 48 2 (.slice (some ⟨gb, 0, none⟩) ((L nm).length + 1) capb) ((L nm).length + 1) (mcells (L nm) ++ [.int .i64 at_, .int .i64 (-1)]) → W2.grownBy w3 v.ownBlock → (v.ownBlock = some gb ∨ gb = H) → W.heap.size ≤ H →
      ∃ w4, (Instr.mapUpdate 43 (.map (some mb)) (.string nm) (.slice (some ⟨gb, 0, none⟩) ((L nm).length + 1) capb)).run Tryz.prog w3 = .ok () w4 ∧ w3.cell? ⟨rb, 0, none⟩ = some (.map (some mb)) ∧ w4.cell? ⟨rb, 0, none⟩ = some (.map (some mb)) ∧ SetTo lo rb mb n w ns L nm (at_, -1) w4) := fun W W2 w3 gb capb H hW hW2 h1 h2 h3 h4 => by
    obtain ⟨w4, z1, z2, z3, z4, z5⟩ := refs_put (HR.out.step hW) hW2 (by omega) nm (by omega) (at_, -1) v (rlook_step HR.out (by omega) HLK.out hW).1 h1 h2 h3 h4
    exact ⟨w4, z1, z2, z3, z4, rkept_from hW z5 (fun x cur q1 q2 q3 => (hW.block x q3).symm.trans q1)⟩
  have hLKs : Hid (∀ W, Below w.heap.size w W → (Instr.lookup 43 (.map (some mb)) (.string nm) false).run Tryz.prog W = .ok v W ∧ EnR lo W v (L nm)) := fun W hW => rlook_step HR.out (by omega) HLK.out hW
  have hle := h.le
  have hlm : (L nm).length ≤ 70000 := hl nm
  generalize L nm = l at *
  generalize hlst : lst l = e at *
  obtain ⟨e1, e2⟩ := e
  dsimp only at hk
  obtain ⟨bi, hbi⟩ : ∃ b : Bool, b = decide (e2 = max old (-1)) := ⟨_, rfl⟩
  have IAt : Hid (∀ W, Calls Tryz.prog 23 #[.agg #[.int .i64 e1, .int .i64 e2], .int .i64 old] W fun r w' => r = .returned (.bool bi) ∧ Below W.heap.size W w') := fun W => by rw [hbi]; exact rIsAt_any e1 e2 old W
  clear IA IB
  by_cases c3 : e2 = max old (-1)
  case neg =>
    rw [if_pos c3] at hk
    subst hk
    have : bi = false := by rw [hbi]; exact decide_eq_false c3
    subst this
    clear h g hv hbi c3 hFIN hLKs
    go_enter Tryz.func9, Tryz.ntmps9
    go_upto_region 2 with (go_at_call 17; refine Calls.mono LA.out ?_; rintro r w1 ⟨rfl, hb1⟩)
    have hb2 := below_then hb1 (below_alloc w1 (.cells #[.int .i64 e1, .int .i64 e2] 48))
    have ge := (HG.out.step hb2).stale
    go_wp2_with (first
      | (go_at_call 21; refine Calls.mono (ID.out _) ?_; rintro r w2 ⟨rfl, rfl⟩)
      | (go_at_call 22; refine Calls.mono (IBa.out _) ?_; rintro r w3 ⟨rfl, rfl⟩)
      | (go_at_call 23; refine Calls.mono (IAt.out _) ?_; rintro r w4 ⟨rfl, hb4⟩; have ge := cell_step ge hb4))
    go_ret
    exact ⟨rfl, .inl ⟨by decide, below_then hb2 hb4⟩⟩
  case pos =>
  rw [if_neg (fun q => q c3)] at hk
  have : bi = true := by rw [hbi]; exact decide_eq_true c3
  subst this
  clear hbi
  by_cases c4 : at_ < e1
  case pos =>
    rw [if_pos c4] at hk
    subst hk
    clear h g hv c3 hFIN hLKs
    go_enter Tryz.func9, Tryz.ntmps9
    go_upto_region 2 with (go_at_call 17; refine Calls.mono LA.out ?_; rintro r w1 ⟨rfl, hb1⟩)
    have hb2 := below_then hb1 (below_alloc w1 (.cells #[.int .i64 e1, .int .i64 e2] 48))
    have ge := (HG.out.step hb2).order
    go_upto_region 8 with (first
      | (go_at_call 21; refine Calls.mono (ID.out _) ?_; rintro r w2 ⟨rfl, rfl⟩)
      | (go_at_call 22; refine Calls.mono (IBa.out _) ?_; rintro r w3 ⟨rfl, rfl⟩)
      | (go_at_call 23; refine Calls.mono (IAt.out _) ?_; rintro r w4 ⟨rfl, hb4⟩))
    have ge := cell_step ge hb4
    obtain ⟨d0, d1⟩ := ent_cells (show (w1.alloc (.cells #[.int .i64 e1, .int .i64 e2] 48)).heap[w1.heap.size]? = _ from block_at _ rfl)
    have d0 := cell_step d0 hb4
    have d1 := cell_step d1 hb4
    go_wp2
    go_ret
    exact ⟨rfl, .inl ⟨by decide, below_then hb2 hb4⟩⟩
  case neg =>
  rw [if_neg c4] at hk
  by_cases c5 : e2 = -1
  case pos =>
    rw [if_pos c5] at hk
    subst hk
    subst c5
    clear h g hv c3 hFIN hLKs
    go_enter Tryz.func9, Tryz.ntmps9
    go_upto_region 2 with (go_at_call 17; refine Calls.mono LA.out ?_; rintro r w1 ⟨rfl, hb1⟩)
    have hb2 := below_then hb1 (below_alloc w1 (.cells #[.int .i64 e1, .int .i64 (-1)] 48))
    have ge := (HG.out.step hb2).none_
    go_upto_region 8 with (first
      | (go_at_call 21; refine Calls.mono (ID.out _) ?_; rintro r w2 ⟨rfl, rfl⟩)
      | (go_at_call 22; refine Calls.mono (IBa.out _) ?_; rintro r w3 ⟨rfl, rfl⟩)
      | (go_at_call 23; refine Calls.mono (IAt.out _) ?_; rintro r w4 ⟨rfl, hb4⟩))
    have ge := cell_step ge hb4
    obtain ⟨d0, d1⟩ := ent_cells (show (w1.alloc (.cells #[.int .i64 e1, .int .i64 (-1)] 48)).heap[w1.heap.size]? = _ from block_at _ rfl)
    have d0 := cell_step d0 hb4
    have d1 := cell_step d1 hb4
    go_wp2
    go_ret
    exact ⟨rfl, .inl ⟨by decide, below_then hb2 hb4⟩⟩
  case neg =>
  rw [if_neg c5] at hk
  subst hk
  have hW8 : Hid (∀ W, Below w.heap.size w W → W.cell? ⟨rb, 0, none⟩ = some (.map (some mb))) := fun W hW => (HR.out.step hW).cell
  clear h g hv c3
  go_enter Tryz.func9, Tryz.ntmps9
  go_upto_region 2 with (go_at_call 17; refine Calls.mono LA.out ?_; rintro r w1 ⟨rfl, hb1⟩)
  have hb2 := below_then hb1 (below_alloc w1 (.cells #[.int .i64 e1, .int .i64 e2] 48))
  go_upto_region 8 with (first
    | (go_at_call 21; refine Calls.mono (ID.out _) ?_; rintro r w2 ⟨rfl, rfl⟩)
    | (go_at_call 22; refine Calls.mono (IBa.out _) ?_; rintro r w3 ⟨rfl, rfl⟩)
    | (go_at_call 23; refine Calls.mono (IAt.out _) ?_; rintro r w4 ⟨rfl, hb4⟩))
  obtain ⟨d0, d1⟩ := ent_cells (show (w1.alloc (.cells #[.int .i64 e1, .int .i64 e2] 48)).heap[w1.heap.size]? = _ from block_at _ rfl)
  have d0 := cell_step d0 hb4
  have d1 := cell_step d1 hb4
  have hb24 : Hid (Below w.heap.size w w4) := below_then hb2 hb4
  clear ID IBa IAt LA
  obtain ⟨i0, hi, hz0, hz1, hz2⟩ := info_parts info_entry
  have c7 : (e2 == -1) = false := by rw [beq_eq_false_iff_ne]; exact c5
  go_upto_region 12 with fail
  have HB5 : Hid (Below w.heap.size w w4) := hb24.out
  have hb5d : Hid (Below w.heap.size w (World.drew w4)) := below_then HB5.out (drew_below _)
  have hb5a : Hid (Below w.heap.size w (World.drew (w4.alloc (.cells #[.int .i64 at_, .int .i64 (-1)] 48)))) := below_then HB5.out (below_then (below_alloc _ _) (drew_below _))
  have lk1 := (hLKs.out _ hb5d.out).1
  have lk2 := (hLKs.out _ hb5a.out).1
  have hc0 := hW8.out _ HB5.out
  have hc1 := hW8.out _ hb5d.out
  have hc2 := hW8.out _ hb5a.out
  have OW : Hid (EnR lo (World.drew (w4.alloc (.cells #[.int .i64 at_, .int .i64 (-1)] 48))) v l) := (hLKs.out _ hb5a.out).2
  have HONE : Hid (∀ u ∈ ([.int .i64 at_, .int .i64 (-1)] : List Value), u.oneCell' = true) := fun u hu => by
    simp only [List.mem_cons, List.not_mem_nil, or_false] at hu
    rcases hu with rfl | rfl <;> rfl
  have HMAX : Hid (l.length + 1 ≤ maxLen) := by show l.length + 1 ≤ maxLen; unfold maxLen; omega
  have HBY : Hid ((l.length + 1) * 16 ≤ 140737488355328) := by show (l.length + 1) * 16 ≤ _; omega
  have HLO : Hid (lo ≤ (World.drew (w4.alloc (.cells #[.int .i64 at_, .int .i64 (-1)] 48))).heap.size) := Nat.le_trans hle hb5a.out.size
  have HFN : Hid (∀ (w6 : World) (gb capb : Nat), w6.ownsRow lo 48 2 (.slice (some ⟨gb, 0, none⟩) (l.length + 1) capb) (l.length + 1) (mcells l ++ [.int .i64 at_, .int .i64 (-1)]) → (World.drew (w4.alloc (.cells #[.int .i64 at_, .int .i64 (-1)] 48))).grownBy w6 v.ownBlock → (v.ownBlock = some gb ∨ gb = (World.drew (w4.alloc (.cells #[.int .i64 at_, .int .i64 (-1)] 48))).heap.size) →
      ∃ w7, (Instr.mapUpdate 43 (.map (some mb)) (.string nm) (.slice (some ⟨gb, 0, none⟩) (l.length + 1) capb)).run Tryz.prog w6 = .ok () w7 ∧ w6.cell? ⟨rb, 0, none⟩ = some (.map (some mb)) ∧ w7.cell? ⟨rb, 0, none⟩ = some (.map (some mb)) ∧ SetTo lo rb mb n w ns L nm (at_, -1) w7) := fun w6 gb capb z1 z2 z3 => hFIN.out w4 _ w6 gb capb _ HB5.out (below_then (below_alloc _ _) (drew_below _)) z1 z2 z3 (by show _ ≤ (w4.alloc _).heap.size; rw [World.size_alloc]; omega)
  clear hFIN hLKs hW8 hb5d hb5a HB5
  go_region_held3 (fun w' => w'.cell? ⟨rb, 0, none⟩ = some (.map (some mb))) (first | with_reducible assumption | with_reducible exact hc1 | with_reducible exact hc2)
    ((refine step_append_lies _ (by rfl) _ _ 50 (by rfl) lo 48 i0 (.agg #[.int .i64 0, .int .i64 0]) 2 16 Tryz.underlying50 hi hz0 hz1 hz2 rfl (by decide) v l.length (mcells l) (by rfl) OW.out ⟨w4.heap.size, 0, none⟩ 1 1 [.int .i64 at_, .int .i64 (-1)] (by rfl) rfl (World.news_of_block (cs := #[.int .i64 at_, .int .i64 (-1)]) (block_at _ rfl)) HONE.out (by decide) HMAX.out HBY.out HLO.out _ rfl ?_; intro gb capb w6 hown hgrow hat hlt3; obtain ⟨w7, hst, hc6, hc7, hfin⟩ := HFN.out w6 gb capb hown hgrow hat; have HFI : Hid (SetTo lo rb mb n w ns L nm (at_, -1) w7) := hfin; clear hfin hown hgrow hat hlt3))
  all_goals
    go_wp2
    go_ret
    exact ⟨rfl, .inr ⟨trivial, HFI.out⟩⟩
end Go.Proofs.YtcaeafgkogfgdaaGreatDoor

/- Names of commits as a text, in plain words. -/
namespace Go.Proofs.YtcaeafgkogfgdaaGreatDoor
open Go Go.RowKit Cal

theorem itoa_lenR (n : Int) (h : 0 ≤ n) (h1 : n ≤ 1099511627776) : (Lib.itoa n).length ≤ 13 := by
  obtain ⟨u, rfl⟩ : ∃ u : Nat, n = u := ⟨n.toNat, by omega⟩
  rw [Lib.itoa_nonneg, Lib.decDigits_length]
  have hu : u < 10000000000000 := by omega
  by_cases h6 : 13 < Lib.nDigits u
  · exfalso
    have : ∀ (k v : Nat), k < Lib.nDigits v → 10 ^ k ≤ v ∨ k = 0 := by
      intro k
      induction k with
      | zero => intro v _; exact Or.inr rfl
      | succ k ih =>
        intro v hv
        by_cases h10 : v < 10
        · rw [Lib.nDigits_small h10] at hv; omega
        · rw [Lib.nDigits_big h10] at hv
          rcases ih (v / 10) (by omega) with hk | hk
          · refine Or.inl ?_
            rw [Nat.pow_succ]; omega
          · refine Or.inl ?_
            subst hk; simpa using Nat.le_of_not_lt h10
    rcases this 13 u h6 with q | q
    · have : (10 : Nat) ^ 13 = 10000000000000 := by decide
      omega
    · omega
  · omega
theorem numOf_itoaR (n : Int) (h0 : 0 ≤ n) (h1 : n ≤ 1099511627776) : numOfC (Lib.itoa n) = some n := by
  unfold numOfC
  have := itoa_lenR n h0 h1
  rw [if_pos (by omega), itoa_atoi n h0]
  dsimp only
  rw [if_pos ⟨h0, rfl⟩]
/-- an entry's text -/
noncomputable def entT (e : Int × Int) : List UInt8 := Lib.itoa e.1 ++ [58] ++ (if e.2 = -1 then [45] else Lib.itoa e.2)
noncomputable def logT (l : List (Int × Int)) : List UInt8 := l.flatMap fun e => 32 :: entT e
/-- a name's line, without its end -/
noncomputable def rln (s : ByteArray) (l : List (Int × Int)) : List UInt8 := s.data.toList ++ logT l
/-- the text of refs -/
noncomputable def rfT (ns : List ByteArray) (L : ByteArray → List (Int × Int)) : List UInt8 := ns.flatMap fun s => rln s (L s) ++ [10]
theorem logT_snoc (l : List (Int × Int)) (e : Int × Int) : logT (l ++ [e]) = logT l ++ [32] ++ entT e := by
  unfold logT
  rw [List.flatMap_append, List.flatMap_cons, List.flatMap_nil, List.append_nil, List.append_assoc]; rfl
theorem rfT_snoc (ns : List ByteArray) (L : ByteArray → List (Int × Int)) (s : ByteArray) : rfT (ns ++ [s]) L = rfT ns L ++ rln s (L s) ++ [10] := by
  unfold rfT
  rw [List.flatMap_append, List.flatMap_cons, List.flatMap_nil, List.append_nil, List.append_assoc]
/-- an entry within its bounds -/
def EnB (e : Int × Int) : Prop := 0 ≤ e.1 ∧ e.1 ≤ 1099511627776 ∧ -1 ≤ e.2 ∧ e.2 ≤ 1099511627776
theorem entT_signs {e : Int × Int} (h : EnB e) : ∀ c ∈ entT e, 45 ≤ c.toNat ∧ c.toNat ≤ 58 := by
  obtain ⟨h1, h2, h3, h4⟩ := h
  intro c hc
  unfold entT at hc
  rcases List.mem_append.1 hc with hc | hc
  · rcases List.mem_append.1 hc with hc | hc
    · have := itoa_digs e.1 h1 c hc; omega
    · rw [List.mem_singleton.1 hc]; decide
  · split at hc
    · rw [List.mem_singleton.1 hc]; decide
    · have := itoa_digs e.2 (by omega) c hc; omega
theorem entT_no {e : Int × Int} (h : EnB e) (c : UInt8) (hc : c.toNat < 45) : c ∉ entT e := fun q => by
  have := entT_signs h c q
  omega
theorem entT_len {e : Int × Int} (h : EnB e) : (entT e).length ≤ 27 := by
  obtain ⟨h1, h2, h3, h4⟩ := h
  unfold entT
  have a := itoa_lenR e.1 h1 h2
  rw [List.length_append, List.length_append]
  split
  · simp; omega
  · have b := itoa_lenR e.2 (by omega) h4
    simp; omega
theorem logT_len : ∀ {l : List (Int × Int)}, (∀ e ∈ l, EnB e) → (logT l).length ≤ l.length * 28
  | [], _ => by simp [logT]
  | e :: r, h => by
    have h1 := entT_len (h e (List.mem_cons_self))
    have h2 := logT_len (l := r) (fun x hx => h x (List.mem_cons_of_mem _ hx))
    have e1 : logT (e :: r) = 32 :: (entT e ++ logT r) := rfl
    rw [e1]
    simp only [List.length_cons, List.length_append]
    omega
theorem okID_no {s : ByteArray} (h : okID s) (c : UInt8) (hc : c.toNat < 48) : c ∉ s.data.toList := fun q => by
  obtain ⟨j, hj, e⟩ := List.mem_iff_getElem.1 q
  have hj' : j < s.size := by rw [Lib.size_eq]; exact hj
  have := h.1 j hj'
  have e2 : s[j] = c := by rw [← e]; rfl
  rw [e2] at this
  unfold okc at this
  omega
theorem logT_no {l : List (Int × Int)} (h : ∀ e ∈ l, EnB e) (c : UInt8) (hc : c.toNat < 45) (h32 : c ≠ 32) : c ∉ logT l := fun q => by
  unfold logT at q
  obtain ⟨e, he, hq⟩ := List.mem_flatMap.1 q
  rcases List.mem_cons.1 hq with z | z
  · exact h32 z
  · exact entT_no (h e he) c hc z
theorem rln_join (s : ByteArray) : ∀ (l : List (Int × Int)) (x : List UInt8), x ++ logT l = Lib.join (x :: l.map entT) [32]
  | [], x => by rw [List.map_nil, Lib.join_one]; simp [logT]
  | e :: r, x => by
    have ih := rln_join s r (entT e)
    have e1 : logT (e :: r) = [32] ++ (entT e ++ logT r) := rfl
    rw [e1, ih, List.map_cons]
    simp only [Lib.join, List.intercalate, List.intersperse]
    simp
theorem rln_pieces {s : ByteArray} {l : List (Int × Int)} (hs : okID s) (h : ∀ e ∈ l, EnB e) : pieces 32 (rln s l) = s.data.toList :: l.map entT := by
  unfold rln
  rw [rln_join s]
  refine pieces_join 32 _ (by simp) (fun x hx => ?_)
  rcases List.mem_cons.1 hx with rfl | hx
  · exact okID_no hs 32 (by decide)
  · obtain ⟨e, he, rfl⟩ := List.mem_map.1 hx
    exact entT_no (h e he) 32 (by decide)
theorem rln_no {s : ByteArray} {l : List (Int × Int)} (hs : okID s) (h : ∀ e ∈ l, EnB e) : (10 : UInt8) ∉ rln s l := fun q => by
  unfold rln at q
  rcases List.mem_append.1 q with q | q
  · exact okID_no hs 10 (by decide) q
  · exact logT_no h 10 (by decide) (by decide) q
theorem rln_len {s : ByteArray} {l : List (Int × Int)} (hs : okID s) (h : ∀ e ∈ l, EnB e) : (rln s l).length ≤ 12 + l.length * 28 := by
  unfold rln
  have := logT_len h
  have := hs.2.2
  rw [Lib.size_eq] at this
  rw [List.length_append]
  omega
theorem rfT_len : ∀ {ns : List ByteArray} {L : ByteArray → List (Int × Int)} {k : Nat}, (∀ s ∈ ns, okID s) → (∀ s, ∀ e ∈ L s, EnB e) → (∀ s, (L s).length ≤ k) → (rfT ns L).length ≤ ns.length * (13 + k * 28)
  | [], _, _, _, _, _ => by simp [rfT]
  | s :: r, L, k, h1, h2, h3 => by
    have a := rln_len (h1 s (List.mem_cons_self)) (h2 s)
    have b := rfT_len (ns := r) (L := L) (k := k) (fun x hx => h1 x (List.mem_cons_of_mem _ hx)) h2 h3
    have c := h3 s
    have e1 : rfT (s :: r) L = rln s (L s) ++ [10] ++ rfT r L := rfl
    rw [e1]
    simp only [List.length_append, List.length_cons, List.length_nil]
    have : (L s).length * 28 ≤ k * 28 := Nat.mul_le_mul_right _ c
    rw [Nat.add_mul, Nat.one_mul]
    omega
/-- the lines -/
noncomputable def rlns (ns : List ByteArray) (L : ByteArray → List (Int × Int)) : List (List UInt8) := ns.map fun s => rln s (L s) ++ [10]
theorem rlns_flat (ns : List ByteArray) (L : ByteArray → List (Int × Int)) : (rlns ns L).flatten = rfT ns L := by
  unfold rlns rfT
  rw [List.flatMap_def]
theorem rlns_ok {ns : List ByteArray} {L : ByteArray → List (Int × Int)} (h1 : ∀ s ∈ ns, okID s) (h2 : ∀ s, ∀ e ∈ L s, EnB e) : ∀ x ∈ rlns ns L, ∃ y, x = y ++ [10] ∧ (10 : UInt8) ∉ y := fun x hx => by
  obtain ⟨s, hs, rfl⟩ := List.mem_map.1 hx
  exact ⟨_, rfl, rln_no (h1 s hs) (h2 s)⟩
end Go.Proofs.YtcaeafgkogfgdaaGreatDoor
