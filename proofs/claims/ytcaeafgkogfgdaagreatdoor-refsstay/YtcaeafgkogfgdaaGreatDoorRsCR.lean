/- Names of commits: Set and Drop. -/
import Derived.Test.YtcaeafgkogfgdaaGreatDoorRaAK
import Derived.Deep.RegionLaw
import Derived.Deep.RegionHeld3
namespace Go.Proofs.YtcaeafgkogfgdaaGreatDoor
open Go Go.RowKit Go.Maps Go.Sort Cal
attribute [local go_sem] Oper.semAt_some

/-- the errors' cells -/
structure GlobF (s : Nat → Addr) (w : World) : Prop where
  bound : w.cell? ⟨1, 0, none⟩ = some (.iface 152 (.pointer (some (s 1))))
  name : w.cell? ⟨0, 0, none⟩ = some (.iface 152 (.pointer (some (s 3))))
  none_ : w.cell? ⟨5, 0, none⟩ = some (.iface 152 (.pointer (some (s 4))))
  full : w.cell? ⟨4, 0, none⟩ = some (.iface 152 (.pointer (some (s 6))))
  order : w.cell? ⟨3, 0, none⟩ = some (.iface 152 (.pointer (some (s 7))))
  stale : w.cell? ⟨2, 0, none⟩ = some (.iface 152 (.pointer (some (s 8))))
theorem GlobF.step {s : Nat → Addr} {w w' : World} (h : GlobF s w) (hb : Below w.heap.size w w') : GlobF s w' := ⟨cell_step h.bound hb, cell_step h.name hb, cell_step h.none_ hb, cell_step h.full hb, cell_step h.order hb, cell_step h.stale hb⟩
/-- an error of refs -/
def rerr (s : Nat → Addr) (k : Nat) : Value := if k = 0 then .nilIface else .iface 152 (.pointer (some (s (k - 1))))
theorem RowV.form {base : Nat} {W : World} {v : Value} {l : List ByteArray} (h : RowV base W v l) : ∃ a c, v = .slice a l.length c := by
  rcases h with ⟨rfl, rfl⟩ | ⟨B, cap, rfl, _⟩
  · exact ⟨none, 0, rfl⟩
  · exact ⟨_, _, rfl⟩
/-- the number of Set's error -/
noncomputable def setK (ns : List ByteArray) (L : ByteArray → List (Int × Int)) (nm : ByteArray) (old to_ at_ : Int) : Nat :=
  open Classical in
  if ¬ okID nm then 4 else if ¬ ((0 ≤ at_ ∧ at_ ≤ 1099511627776) ∧ (0 ≤ to_ ∧ to_ ≤ 1099511627776)) then 2 else if ¬ (lst (L nm)).2 = max old (-1) then 9 else if at_ < (lst (L nm)).1 then 8 else if (lst (L nm)).2 = -1 ∧ 20 ≤ (lvs ns L).length then 7 else 0
/-- the number of Drop's error -/
noncomputable def dropK (L : ByteArray → List (Int × Int)) (nm : ByteArray) (old at_ : Int) : Nat :=
  open Classical in
  if ¬ okID nm then 4 else if ¬ (0 ≤ at_ ∧ at_ ≤ 1099511627776) then 2 else if ¬ (lst (L nm)).2 = max old (-1) then 9 else if at_ < (lst (L nm)).1 then 8 else if (lst (L nm)).2 = -1 then 5 else 0
/-- what Set and Drop leave: all but the map and one row of entries -/
def RKept (lo : Nat) (w w' : World) (mb : Nat) : Prop :=
  w'.os = w.os ∧ w'.tape = w.tape ∧ w'.output = w.output ∧ w.heap.size ≤ w'.heap.size ∧
    ∃ g : Option Nat, (∀ x, g = some x → lo ≤ x ∧ ∃ cur, w.heap[x]? = some (.cells cur 48 (0, 0))) ∧ ∀ b, b < w.heap.size → b ≠ mb → some b ≠ g → w'.heap[b]? = w.heap[b]?
theorem mcells_snoc : ∀ (l : List (Int × Int)) (e : Int × Int), mcells (l ++ [e]) = mcells l ++ [.int .i64 e.1, .int .i64 e.2]
  | [], _ => rfl
  | m :: r, e => by
    show _ :: _ :: mcells (r ++ [e]) = _
    rw [mcells_snoc r e]; rfl
theorem rkey_ne {a b : ByteArray} (h : a ≠ b) : key a ≠ key b := fun q => h (rs_ext (by unfold key at q; exact Lit.string.inj q))
theorem rkey_lit (a : ByteArray) : WideAt.IsKeyLit (key a) := trivial
theorem EnR.blk {base : Nat} {W : World} {v : Value} {l : List (Int × Int)} (h : EnR base W v l) {g : Nat} (hg : v.ownBlock = some g) : base ≤ g ∧ g < W.heap.size ∧ ∃ cur, W.heap[g]? = some (.cells cur 48 (0, 0)) := by
  have hl := World.ownsRow.lt h g hg
  refine ⟨hl.1, hl.2, ?_⟩
  rcases h.2 with ⟨rfl, _⟩ | ⟨b, cap, cur, rfl, _, hb, _⟩
  · cases hg
  · have e : b = g := Option.some.inj hg
    subst e
    exact ⟨cur, hb⟩
/-- behind the store into the map -/
theorem refs_put {lo rb mb n : Nat} {W W2 w3 : World} {ns : List ByteArray} {L : ByteArray → List (Int × Int)} (h : RefsAt lo W rb mb n ns L) (hb : Below W.heap.size W W2) (hn : n ≤ 100000) (nm : ByteArray) (hs : nm.size ≤ 1000) (e : Int × Int) (v : Value)
    (LK : (Instr.lookup 43 (.map (some mb)) (.string nm) false).run Tryz.prog W = .ok v W) {gb capb H : Nat} (hown : w3.ownsRow lo 48 2 (.slice (some ⟨gb, 0, none⟩) ((L nm).length + 1) capb) ((L nm).length + 1) (mcells (L nm) ++ [.int .i64 e.1, .int .i64 e.2])) (hgrow : W2.grownBy w3 v.ownBlock) (hat : v.ownBlock = some gb ∨ gb = H) (hH : W.heap.size ≤ H) :
    ∃ w4, (Instr.mapUpdate 43 (.map (some mb)) (.string nm) (.slice (some ⟨gb, 0, none⟩) ((L nm).length + 1) capb)).run Tryz.prog w3 = .ok () w4 ∧ w3.cell? ⟨rb, 0, none⟩ = some (.map (some mb)) ∧ w4.cell? ⟨rb, 0, none⟩ = some (.map (some mb)) ∧ RefsAt lo w4 rb mb (n + 1) (insN nm ns) (setL L nm e) ∧ RKept lo W w4 mb := by
  obtain ⟨D, vf, q1, q2, q3, q4, q5⟩ := h.ex
  have hv : v = vf nm := by
    have := rlook_eq q1 hs (q3 nm)
    rw [LK] at this
    cases this
    rfl
  have hlo := h.le
  have hr := h.hr
  have hm := h.hm
  have hrW : rb < W.heap.size := by omega
  have hvb : ∀ g, v.ownBlock = some g → lo ≤ g ∧ g < W.heap.size := fun g hg => by rw [hv] at hg; have := (q4 nm).blk hg; exact ⟨this.1, this.2.1⟩
  have m2 : W2.ownsMap Tryz.prog 9 hld mb n D := q1.kept (grown_below hb none) (by simp)
  have m3 : w3.ownsMap Tryz.prog 9 hld mb n D := m2.kept hgrow (fun q => by have := (hvb mb q.symm).1; omega)
  obtain ⟨w4, hst, m4, t4⟩ := m3.store law Tryz.underlying43 (by unfold maxLen; omega) (key_of hs) (show hld (.slice (some ⟨gb, 0, none⟩) ((L nm).length + 1) capb) = some (.held (.slice (some ⟨gb, 0, none⟩) ((L nm).length + 1) capb), []) from rfl)
  have g4 := t4.grown
  have b3 : w3.heap[rb]? = some (.cells #[.map (some mb)] 45 (0, 0)) := (hgrow.block rb (Nat.lt_of_lt_of_le hrW hb.size) (fun q => by have := (hvb rb q.symm).1; omega)).trans ((hb.block rb hrW).trans h.blk)
  have b4 : w4.heap[rb]? = some (.cells #[.map (some mb)] 45 (0, 0)) := (g4.block rb (Array.getElem?_eq_some_iff.1 b3).1 (fun q => h.ne (Option.some.inj q).symm)).trans b3
  refine ⟨w4, hst, by simp [World.cell?, b3], by simp [World.cell?, b4], ⟨b4, h.hr, h.hm, h.ne, Nat.le_trans h.le (Nat.le_trans hb.size (Nat.le_trans hgrow.size g4.size)), insN_up nm h.ups, fun x => ?_, D.put (key nm) (.held (.slice (some ⟨gb, 0, none⟩) ((L nm).length + 1) capb)), fun x => if x = nm then .slice (some ⟨gb, 0, none⟩) ((L nm).length + 1) capb else vf x, m4, fun x => ?_, fun x => ?_, fun x => ?_, fun x y g hx hy => ?_⟩, ?_⟩
  · rw [mem_insN]
    by_cases q : x = nm
    · subst q; rw [setL_same]; simp
    · rw [setL_other q, h.mem]; simp [q]
  · rw [mem_insN]
    by_cases q : x = nm
    · subst q
      exact ⟨fun _ => .inl rfl, fun _ => has_put_same q1.isMap (rkey_lit _) _⟩
    · rw [has_put_other (rkey_ne q), q2]
      simp [q]
  · by_cases q : x = nm
    · subst q
      simp only [if_pos]
      exact atKey_put_same q1.isMap (rkey_lit _) _ _
    · simp only [if_neg q]
      rw [atKey_put_other (rkey_ne q)]
      exact q3 x
  · by_cases q : x = nm
    · subst q
      simp only [if_pos]
      rw [setL_same]
      unfold EnR
      rw [List.length_append, mcells_snoc]
      refine World.ownsRow.kept hown g4 (.inr (fun z => ?_))
      have := (World.ownsRow.lt hown _ z).1
      omega
    · simp only [if_neg q]
      rw [setL_other q]
      have o2 : EnR lo W2 (vf x) (L x) := (q4 x).step hb
      have o3 : EnR lo w3 (vf x) (L x) := World.ownsRow.kept o2 hgrow (by
        cases hq : (vf x).ownBlock with
        | none => exact .inl rfl
        | some g => exact .inr (fun z => q (q5 x nm g hq (by rw [← hv, ← z]))))
      refine World.ownsRow.kept o3 g4 (.inr (fun z => ?_))
      have := (World.ownsRow.lt o3 _ z).1
      omega
  · have key1 : ∀ (x y : ByteArray), x = nm → y ≠ nm → (vf y).ownBlock = some g → gb = g → False := fun x y hx hy h1 h2 => by
      have hlt := ((q4 y).blk h1).2.1
      rcases hat with z | z
      · exact hy (q5 y nm g h1 (by rw [← hv, z, h2]))
      · omega
    dsimp only at hx hy
    by_cases qx : x = nm
    · by_cases qy : y = nm
      · rw [qx, qy]
      · rw [if_pos qx] at hx
        rw [if_neg qy] at hy
        exact (key1 x y qx qy hy (Option.some.inj hx)).elim
    · by_cases qy : y = nm
      · rw [if_neg qx] at hx
        rw [if_pos qy] at hy
        exact (key1 y x qy qx hx (Option.some.inj hy)).elim
      · rw [if_neg qx] at hx
        rw [if_neg qy] at hy
        exact q5 x y g hx hy
  · refine ⟨g4.os.trans (hgrow.os.trans hb.os), g4.tape.trans (hgrow.tape.trans hb.tape), g4.output.trans (hgrow.output.trans hb.output), Nat.le_trans hb.size (Nat.le_trans hgrow.size g4.size), v.ownBlock, fun x hx => ?_, fun b hb1 hb2 hb3 => ?_⟩
    · rw [hv] at hx
      have := (q4 nm).blk hx
      exact ⟨this.1, this.2.2⟩
    · have hbs := hb.size
      have hgs := hgrow.size
      exact (g4.block b (by omega) (fun q => hb2 (Option.some.inj q))).trans ((hgrow.block b (by omega) hb3).trans (hb.block b hb1))

theorem rlook_step {lo rb mb n : Nat} {W W' : World} {ns : List ByteArray} {L : ByteArray → List (Int × Int)} (h : RefsAt lo W rb mb n ns L) {nm : ByteArray} (hs : nm.size ≤ 1000) {v : Value} (lk : (Instr.lookup 43 (.map (some mb)) (.string nm) false).run Tryz.prog W = .ok v W) (hb : Below W.heap.size W W') :
    (Instr.lookup 43 (.map (some mb)) (.string nm) false).run Tryz.prog W' = .ok v W' ∧ EnR lo W' v (L nm) := by
  obtain ⟨D, vf, q1, q2, q3, q4, q5⟩ := h.ex
  have hv : v = vf nm := by
    have := rlook_eq q1 hs (q3 nm)
    rw [lk] at this
    cases this
    rfl
  rw [hv]
  exact ⟨rlook_eq (q1.kept (grown_below hb none) (by simp)) hs (q3 nm), (q4 nm).step hb⟩

/-- what Set's last statement owes -/
def SetTo (lo rb mb n : Nat) (W : World) (ns : List ByteArray) (L : ByteArray → List (Int × Int)) (nm : ByteArray) (e : Int × Int) (w4 : World) : Prop := RefsAt lo w4 rb mb (n + 1) (insN nm ns) (setL L nm e) ∧ RKept lo W w4 mb
theorem rkept_from {lo mb : Nat} {w W W' : World} (hb : Below w.heap.size w W) (h : RKept lo W W' mb) (hl : ∀ x cur, W.heap[x]? = some (.cells cur 48 (0, 0)) → lo ≤ x → x < w.heap.size → w.heap[x]? = some (.cells cur 48 (0, 0))) : RKept lo w W' mb := by
  obtain ⟨h1, h2, h3, h4, g, h5, h6⟩ := h
  refine ⟨h1.trans hb.os, h2.trans hb.tape, h3.trans hb.output, Nat.le_trans hb.size h4, (match g with | none => none | some x => if x < w.heap.size then some x else none), fun x hx => ?_, fun b q1 q2 q3 => ?_⟩
  · cases g with
    | none => cases hx
    | some y =>
      dsimp only at hx
      split at hx
      · rename_i hy
        cases hx
        obtain ⟨z1, cur, z2⟩ := h5 _ rfl
        exact ⟨z1, cur, hl _ cur z2 z1 hy⟩
      · cases hx
  · have hbs := hb.size
    refine (h6 b (by omega) q2 (fun q => ?_)).trans (hb.block b q1)
    subst q
    dsimp only at q3
    rw [if_pos q1] at q3
    exact q3 rfl

set_option maxHeartbeats 4000000 in
set_option maxRecDepth 100000 in
theorem rset_any (lo rb mb n : Nat) (ns : List ByteArray) (L : ByteArray → List (Int × Int)) (nm : ByteArray) (old to_ at_ : Int) (s : Nat → Addr) (w : World) (g : GlobF s w) (h : RefsAt lo w rb mb n ns L) (hn : n ≤ 80000) (hsz : nm.size ≤ 60) (hs : ∀ x ∈ ns, x.size ≤ 1000) (hl : ∀ x, (L x).length ≤ 70000) (h8 : ns.length ≤ 80000) (k : Nat) (hk : k = setK ns L nm old to_ at_) :
    Calls Tryz.prog 8 #[.pointer (some ⟨rb, 0, none⟩), .string nm, .int .i64 old, .int .i64 to_, .int .i64 at_] w fun r w' => r = .returned (rerr s k) ∧ ((k ≠ 0 ∧ Below w.heap.size w w') ∨ (k = 0 ∧ SetTo lo rb mb n w ns L nm (at_, to_) w')) := by
  classical
  obtain ⟨v, LK, hv⟩ := h.look nm (by omega)
  have hc := h.cell
  have LA : Hid (Calls _ _ _ _ _) := lastOf_any (L nm) v w (hv.movs (Nat.le_trans (hl nm) (by decide)))
  have IB : Hid (∀ x W, _) := fun x W => rInB_any x W
  have IA : Hid (∀ x y z W, _) := fun x y z W => rIsAt_any x y z W
  have HR : Hid (RefsAt lo w rb mb n ns L) := h
  have HG : Hid (GlobF s w) := g
  have HLK : Hid (_) := LK
  unfold setK at hk
  by_cases c1 : okID nm
  case neg =>
    rw [if_pos c1] at hk
    subst hk
    have ID : Hid (∀ W, Calls Tryz.prog 21 #[.string nm] W fun r w' => r = .returned (.bool false) ∧ w' = W) := fun W => isID_any nm W (by omega) false (by simp [c1])
    generalize lst (L nm) = e at LA
    clear h g hv
    go_enter Tryz.func8, Tryz.ntmps8
    go_upto_region 2 with (go_at_call 17; refine Calls.mono LA.out ?_; rintro r w1 ⟨rfl, hb1⟩)
    have hb2 := below_then hb1 (below_alloc w1 (.cells #[.int .i64 e.1, .int .i64 e.2] 48))
    have ge := (HG.out.step hb2).name
    go_wp2_with (go_at_call 21; refine Calls.mono (ID.out _) ?_; rintro r w2 ⟨rfl, rfl⟩)
    go_ret
    exact ⟨rfl, .inl ⟨by decide, hb2⟩⟩
  case pos =>
  rw [if_neg (fun q => q c1)] at hk
  have ID : Hid (∀ W, Calls Tryz.prog 21 #[.string nm] W fun r w' => r = .returned (.bool true) ∧ w' = W) := fun W => isID_any nm W (by omega) true (by simp [c1])
  obtain ⟨ba, hba⟩ : ∃ b : Bool, b = decide (0 ≤ at_ ∧ at_ ≤ 1099511627776) := ⟨_, rfl⟩
  obtain ⟨bt, hbt⟩ : ∃ b : Bool, b = decide (0 ≤ to_ ∧ to_ ≤ 1099511627776) := ⟨_, rfl⟩
  have IBa : Hid (∀ W, Calls Tryz.prog 22 #[.int .i64 at_] W fun r w' => r = .returned (.bool ba) ∧ w' = W) := fun W => by rw [hba]; exact rInB_any at_ W
  have IBt : Hid (∀ W, Calls Tryz.prog 22 #[.int .i64 to_] W fun r w' => r = .returned (.bool bt) ∧ w' = W) := fun W => by rw [hbt]; exact rInB_any to_ W
  by_cases c2 : (0 ≤ at_ ∧ at_ ≤ 1099511627776) ∧ (0 ≤ to_ ∧ to_ ≤ 1099511627776)
  case neg =>
    rw [if_pos c2] at hk
    subst hk
    generalize lst (L nm) = e at LA
    clear h g hv
    cases ba with
    | false =>
      clear hba hbt
      go_enter Tryz.func8, Tryz.ntmps8
      go_upto_region 2 with (go_at_call 17; refine Calls.mono LA.out ?_; rintro r w1 ⟨rfl, hb1⟩)
      have hb2 := below_then hb1 (below_alloc w1 (.cells #[.int .i64 e.1, .int .i64 e.2] 48))
      have ge := (HG.out.step hb2).bound
      go_wp2_with (first
        | (go_at_call 21; refine Calls.mono (ID.out _) ?_; rintro r w2 ⟨rfl, rfl⟩)
        | (go_at_call 22; refine Calls.mono (IBa.out _) ?_; rintro r w3 ⟨rfl, rfl⟩))
      go_ret
      exact ⟨rfl, .inl ⟨by decide, hb2⟩⟩
    | true =>
      cases bt with
      | true => exact absurd ⟨of_decide_eq_true hba.symm, of_decide_eq_true hbt.symm⟩ c2
      | false =>
        clear hba hbt
        go_enter Tryz.func8, Tryz.ntmps8
        go_upto_region 2 with (go_at_call 17; refine Calls.mono LA.out ?_; rintro r w1 ⟨rfl, hb1⟩)
        have hb2 := below_then hb1 (below_alloc w1 (.cells #[.int .i64 e.1, .int .i64 e.2] 48))
        have ge := (HG.out.step hb2).bound
        go_wp2_with (first
          | (go_at_call 21; refine Calls.mono (ID.out _) ?_; rintro r w2 ⟨rfl, rfl⟩)
          | (go_at_call_of 22 (Value.int .i64 at_); refine Calls.mono (IBa.out _) ?_; rintro r w3 ⟨rfl, rfl⟩)
          | (go_at_call_of 22 (Value.int .i64 to_); refine Calls.mono (IBt.out _) ?_; rintro r w3 ⟨rfl, rfl⟩))
        go_ret
        exact ⟨rfl, .inl ⟨by decide, hb2⟩⟩
  case pos =>
  rw [if_neg (fun q => q c2)] at hk
  have hta : ba = true := by rw [hba]; exact decide_eq_true c2.1
  have htt : bt = true := by rw [hbt]; exact decide_eq_true c2.2
  subst hta htt
  clear hba hbt
  have hl8 : ∀ x, (L x).length ≤ 80000 := fun x => Nat.le_trans (hl x) (by decide)
  have NM : Hid (∀ W, Below w.heap.size w W → Calls Tryz.prog 6 #[.pointer (some ⟨rb, 0, none⟩)] W fun r w' => ∃ a c, r = .returned (.slice a (lvs ns L).length c) ∧ Below W.heap.size W w') := fun W hW => by
    refine Calls.mono (names_any lo rb mb n ns L W (HR.out.step hW) hn hs hl8 h8) ?_
    rintro r w' ⟨v', rfl, hrv, hb⟩
    obtain ⟨a, c, rfl⟩ := hrv.form
    exact ⟨a, c, rfl, hb⟩
  have hFIN : Hid (∀ (W W2 w3 : World) (gb capb H : Nat), Below w.heap.size w W → Below W.heap.size W W2 → w3.ownsRow lo 48 2 (.slice (some ⟨gb, 0, none⟩) ((L nm).length + 1) capb) ((L nm).length + 1) (mcells (L nm) ++ [.int .i64 at_, .int .i64 to_]) → W2.grownBy w3 v.ownBlock → (v.ownBlock = some gb ∨ gb = H) → W.heap.size ≤ H →
      ∃ w4, (Instr.mapUpdate 43 (.map (some mb)) (.string nm) (.slice (some ⟨gb, 0, none⟩) ((L nm).length + 1) capb)).run Tryz.prog w3 = .ok () w4 ∧ w3.cell? ⟨rb, 0, none⟩ = some (.map (some mb)) ∧ w4.cell? ⟨rb, 0, none⟩ = some (.map (some mb)) ∧ SetTo lo rb mb n w ns L nm (at_, to_) w4) := fun W W2 w3 gb capb H hW hW2 h1 h2 h3 h4 => by
    obtain ⟨w4, z1, z2, z3, z4, z5⟩ := refs_put (HR.out.step hW) hW2 (by omega) nm (by omega) (at_, to_) v (rlook_step HR.out (by omega) HLK.out hW).1 h1 h2 h3 h4
    exact ⟨w4, z1, z2, z3, z4, rkept_from hW z5 (fun x cur q1 q2 q3 => (hW.block x q3).symm.trans q1)⟩
  have hLKs : Hid (∀ W, Below w.heap.size w W → (Instr.lookup 43 (.map (some mb)) (.string nm) false).run Tryz.prog W = .ok v W ∧ EnR lo W v (L nm)) := fun W hW => rlook_step HR.out (by omega) HLK.out hW
  have hle := h.le
  have hlm : (L nm).length ≤ 70000 := hl nm
  generalize L nm = l at *
  generalize hlst : lst l = e at *
  obtain ⟨e1, e2⟩ := e
  dsimp only at hk
  obtain ⟨bi, hbi⟩ : ∃ b : Bool, b = decide (e2 = max old (-1)) := ⟨_, rfl⟩
  have IAt : Hid (∀ W, Calls Tryz.prog 23 #[.agg #[.int .i64 e1, .int .i64 e2], .int .i64 old] W fun r w' => r = .returned (.bool bi) ∧ Below W.heap.size W w') := fun W => by rw [hbi]; exact rIsAt_any e1 e2 old W
  clear IA IB
  by_cases c3 : e2 = max old (-1)
  case neg =>
    rw [if_pos c3] at hk
    subst hk
    have : bi = false := by rw [hbi]; exact decide_eq_false c3
    subst this
    clear h g hv hbi c3 NM hFIN hLKs
    go_enter Tryz.func8, Tryz.ntmps8
    go_upto_region 2 with (go_at_call 17; refine Calls.mono LA.out ?_; rintro r w1 ⟨rfl, hb1⟩)
    have hb2 := below_then hb1 (below_alloc w1 (.cells #[.int .i64 e1, .int .i64 e2] 48))
    have ge := (HG.out.step hb2).stale
    go_wp2_with (first
      | (go_at_call 21; refine Calls.mono (ID.out _) ?_; rintro r w2 ⟨rfl, rfl⟩)
      | (go_at_call_of 22 (Value.int .i64 at_); refine Calls.mono (IBa.out _) ?_; rintro r w3 ⟨rfl, rfl⟩)
      | (go_at_call_of 22 (Value.int .i64 to_); refine Calls.mono (IBt.out _) ?_; rintro r w3 ⟨rfl, rfl⟩)
      | (go_at_call 23; refine Calls.mono (IAt.out _) ?_; rintro r w4 ⟨rfl, hb4⟩; have ge := cell_step ge hb4))
    go_ret
    exact ⟨rfl, .inl ⟨by decide, below_then hb2 hb4⟩⟩
  case pos =>
  rw [if_neg (fun q => q c3)] at hk
  have : bi = true := by rw [hbi]; exact decide_eq_true c3
  subst this
  clear hbi
  by_cases c4 : at_ < e1
  case pos =>
    rw [if_pos c4] at hk
    subst hk
    clear h g hv c3 NM hFIN hLKs
    go_enter Tryz.func8, Tryz.ntmps8
    go_upto_region 2 with (go_at_call 17; refine Calls.mono LA.out ?_; rintro r w1 ⟨rfl, hb1⟩)
    have hb2 := below_then hb1 (below_alloc w1 (.cells #[.int .i64 e1, .int .i64 e2] 48))
    have ge := (HG.out.step hb2).order
    go_upto_region 8 with (first
      | (go_at_call 21; refine Calls.mono (ID.out _) ?_; rintro r w2 ⟨rfl, rfl⟩)
      | (go_at_call_of 22 (Value.int .i64 at_); refine Calls.mono (IBa.out _) ?_; rintro r w3 ⟨rfl, rfl⟩)
      | (go_at_call_of 22 (Value.int .i64 to_); refine Calls.mono (IBt.out _) ?_; rintro r w3 ⟨rfl, rfl⟩)
      | (go_at_call 23; refine Calls.mono (IAt.out _) ?_; rintro r w4 ⟨rfl, hb4⟩))
    have ge := cell_step ge hb4
    obtain ⟨d0, d1⟩ := ent_cells (show (w1.alloc (.cells #[.int .i64 e1, .int .i64 e2] 48)).heap[w1.heap.size]? = _ from block_at _ rfl)
    have d0 := cell_step d0 hb4
    have d1 := cell_step d1 hb4
    go_wp2
    go_ret
    exact ⟨rfl, .inl ⟨by decide, below_then hb2 hb4⟩⟩
  case neg =>
  rw [if_neg c4] at hk
  by_cases c5 : e2 = -1 ∧ 20 ≤ (lvs ns L).length
  case pos =>
    rw [if_pos c5] at hk
    subst hk
    obtain ⟨c5, c6⟩ := c5
    subst c5
    generalize hm : (lvs ns L).length = m at NM c6
    clear h g hv c3 hFIN hLKs
    go_enter Tryz.func8, Tryz.ntmps8
    go_upto_region 2 with (go_at_call 17; refine Calls.mono LA.out ?_; rintro r w1 ⟨rfl, hb1⟩)
    have hb2 := below_then hb1 (below_alloc w1 (.cells #[.int .i64 e1, .int .i64 (-1)] 48))
    have ge := (HG.out.step hb2).full
    go_upto_region 8 with (first
      | (go_at_call 21; refine Calls.mono (ID.out _) ?_; rintro r w2 ⟨rfl, rfl⟩)
      | (go_at_call_of 22 (Value.int .i64 at_); refine Calls.mono (IBa.out _) ?_; rintro r w3 ⟨rfl, rfl⟩)
      | (go_at_call_of 22 (Value.int .i64 to_); refine Calls.mono (IBt.out _) ?_; rintro r w3 ⟨rfl, rfl⟩)
      | (go_at_call 23; refine Calls.mono (IAt.out _) ?_; rintro r w4 ⟨rfl, hb4⟩))
    have ge := cell_step ge hb4
    obtain ⟨d0, d1⟩ := ent_cells (show (w1.alloc (.cells #[.int .i64 e1, .int .i64 (-1)] 48)).heap[w1.heap.size]? = _ from block_at _ rfl)
    have d0 := cell_step d0 hb4
    have d1 := cell_step d1 hb4
    have NM4 : Hid (Calls _ _ _ _ _) := NM.out w4 (below_then hb2 hb4)
    have c6I : (20 : Int) ≤ (m : Int) := by omega
    clear NM
    go_wp2_with (go_at_call 6; refine Calls.mono NM4.out ?_; rintro r w5 ⟨na, nc, rfl, hb5⟩; have ge := cell_step ge hb5)
    go_ret
    exact ⟨rfl, .inl ⟨by decide, below_then hb2 (below_then hb4 hb5)⟩⟩
  case neg =>
  rw [if_neg c5] at hk
  subst hk
  generalize hm : (lvs ns L).length = m at NM c5
  have hW8 : Hid (∀ W, Below w.heap.size w W → W.cell? ⟨rb, 0, none⟩ = some (.map (some mb))) := fun W hW => (HR.out.step hW).cell
  clear h g hv c3
  go_enter Tryz.func8, Tryz.ntmps8
  go_upto_region 2 with (go_at_call 17; refine Calls.mono LA.out ?_; rintro r w1 ⟨rfl, hb1⟩)
  have hb2 := below_then hb1 (below_alloc w1 (.cells #[.int .i64 e1, .int .i64 e2] 48))
  go_upto_region 8 with (first
    | (go_at_call 21; refine Calls.mono (ID.out _) ?_; rintro r w2 ⟨rfl, rfl⟩)
    | (go_at_call_of 22 (Value.int .i64 at_); refine Calls.mono (IBa.out _) ?_; rintro r w3 ⟨rfl, rfl⟩)
    | (go_at_call_of 22 (Value.int .i64 to_); refine Calls.mono (IBt.out _) ?_; rintro r w3 ⟨rfl, rfl⟩)
    | (go_at_call 23; refine Calls.mono (IAt.out _) ?_; rintro r w4 ⟨rfl, hb4⟩))
  obtain ⟨d0, d1⟩ := ent_cells (show (w1.alloc (.cells #[.int .i64 e1, .int .i64 e2] 48)).heap[w1.heap.size]? = _ from block_at _ rfl)
  have d0 := cell_step d0 hb4
  have d1 := cell_step d1 hb4
  have hb24 : Hid (Below w.heap.size w w4) := below_then hb2 hb4
  have NM4 : Hid (Calls _ _ _ _ _) := NM.out w4 hb24.out
  clear NM ID IBa IBt IAt LA
  obtain ⟨i0, hi, hz0, hz1, hz2⟩ := info_parts info_entry
  by_cases c6 : e2 = -1
  · subst c6
    have c7 : (m : Int) < 20 := by
      have : ¬ 20 ≤ m := fun q => c5 ⟨rfl, q⟩
      omega
    go_upto_region 12 with (go_at_call 6; refine Calls.mono NM4.out ?_; rintro r w5 ⟨na, nc, rfl, hb5⟩)
    have HB5 : Hid (Below w.heap.size w w5) := below_then hb24.out hb5
    have hb5d : Hid (Below w.heap.size w (World.drew w5)) := below_then HB5.out (drew_below _)
    have hb5a : Hid (Below w.heap.size w (World.drew (w5.alloc (.cells #[.int .i64 at_, .int .i64 to_] 48)))) := below_then HB5.out (below_then (below_alloc _ _) (drew_below _))
    have lk1 := (hLKs.out _ hb5d.out).1
    have lk2 := (hLKs.out _ hb5a.out).1
    have hc0 := hW8.out _ HB5.out
    have hc1 := hW8.out _ hb5d.out
    have hc2 := hW8.out _ hb5a.out
    have OW : Hid (EnR lo (World.drew (w5.alloc (.cells #[.int .i64 at_, .int .i64 to_] 48))) v l) := (hLKs.out _ hb5a.out).2
    have HONE : Hid (∀ u ∈ ([.int .i64 at_, .int .i64 to_] : List Value), u.oneCell' = true) := fun u hu => by
      simp only [List.mem_cons, List.not_mem_nil, or_false] at hu
      rcases hu with rfl | rfl <;> rfl
    have HMAX : Hid (l.length + 1 ≤ maxLen) := by show l.length + 1 ≤ maxLen; unfold maxLen; omega
    have HBY : Hid ((l.length + 1) * 16 ≤ 140737488355328) := by show (l.length + 1) * 16 ≤ _; omega
    have HLO : Hid (lo ≤ (World.drew (w5.alloc (.cells #[.int .i64 at_, .int .i64 to_] 48))).heap.size) := Nat.le_trans hle hb5a.out.size
    have HFN : Hid (∀ (w6 : World) (gb capb : Nat), w6.ownsRow lo 48 2 (.slice (some ⟨gb, 0, none⟩) (l.length + 1) capb) (l.length + 1) (mcells l ++ [.int .i64 at_, .int .i64 to_]) → (World.drew (w5.alloc (.cells #[.int .i64 at_, .int .i64 to_] 48))).grownBy w6 v.ownBlock → (v.ownBlock = some gb ∨ gb = (World.drew (w5.alloc (.cells #[.int .i64 at_, .int .i64 to_] 48))).heap.size) →
        ∃ w7, (Instr.mapUpdate 43 (.map (some mb)) (.string nm) (.slice (some ⟨gb, 0, none⟩) (l.length + 1) capb)).run Tryz.prog w6 = .ok () w7 ∧ w6.cell? ⟨rb, 0, none⟩ = some (.map (some mb)) ∧ w7.cell? ⟨rb, 0, none⟩ = some (.map (some mb)) ∧ SetTo lo rb mb n w ns L nm (at_, to_) w7) := fun w6 gb capb z1 z2 z3 => hFIN.out w5 _ w6 gb capb _ HB5.out (below_then (below_alloc _ _) (drew_below _)) z1 z2 z3 (by show _ ≤ (w5.alloc _).heap.size; rw [World.size_alloc]; omega)
    clear hFIN hLKs hW8 hb5d hb5a HB5
    go_region_held3 (fun w' => w'.cell? ⟨rb, 0, none⟩ = some (.map (some mb))) (first | with_reducible assumption | with_reducible exact hc1 | with_reducible exact hc2)
      ((refine step_append_lies _ (by rfl) _ _ 50 (by rfl) lo 48 i0 (.agg #[.int .i64 0, .int .i64 0]) 2 16 Tryz.underlying50 hi hz0 hz1 hz2 rfl (by decide) v l.length (mcells l) (by rfl) OW.out ⟨w5.heap.size, 0, none⟩ 1 1 [.int .i64 at_, .int .i64 to_] (by rfl) rfl (World.news_of_block (cs := #[.int .i64 at_, .int .i64 to_]) (block_at _ rfl)) HONE.out (by decide) HMAX.out HBY.out HLO.out _ rfl ?_; intro gb capb w6 hown hgrow hat hlt3; obtain ⟨w7, hst, hc6, hc7, hfin⟩ := HFN.out w6 gb capb hown hgrow hat; have HFI : Hid (SetTo lo rb mb n w ns L nm (at_, to_) w7) := hfin; clear hfin hown hgrow hat hlt3))
    all_goals
      go_wp2
      go_ret
      exact ⟨rfl, .inr ⟨trivial, HFI.out⟩⟩
  · have c7 : (e2 == -1) = false := by rw [beq_eq_false_iff_ne]; exact c6
    go_upto_region 12 with fail
    have HB5 : Hid (Below w.heap.size w w4) := hb24.out
    have hb5d : Hid (Below w.heap.size w (World.drew w4)) := below_then HB5.out (drew_below _)
    have hb5a : Hid (Below w.heap.size w (World.drew (w4.alloc (.cells #[.int .i64 at_, .int .i64 to_] 48)))) := below_then HB5.out (below_then (below_alloc _ _) (drew_below _))
    have lk1 := (hLKs.out _ hb5d.out).1
    have lk2 := (hLKs.out _ hb5a.out).1
    have hc0 := hW8.out _ HB5.out
    have hc1 := hW8.out _ hb5d.out
    have hc2 := hW8.out _ hb5a.out
    have OW : Hid (EnR lo (World.drew (w4.alloc (.cells #[.int .i64 at_, .int .i64 to_] 48))) v l) := (hLKs.out _ hb5a.out).2
    have HONE : Hid (∀ u ∈ ([.int .i64 at_, .int .i64 to_] : List Value), u.oneCell' = true) := fun u hu => by
      simp only [List.mem_cons, List.not_mem_nil, or_false] at hu
      rcases hu with rfl | rfl <;> rfl
    have HMAX : Hid (l.length + 1 ≤ maxLen) := by show l.length + 1 ≤ maxLen; unfold maxLen; omega
    have HBY : Hid ((l.length + 1) * 16 ≤ 140737488355328) := by show (l.length + 1) * 16 ≤ _; omega
    have HLO : Hid (lo ≤ (World.drew (w4.alloc (.cells #[.int .i64 at_, .int .i64 to_] 48))).heap.size) := Nat.le_trans hle hb5a.out.size
    have HFN : Hid (∀ (w6 : World) (gb capb : Nat), w6.ownsRow lo 48 2 (.slice (some ⟨gb, 0, none⟩) (l.length + 1) capb) (l.length + 1) (mcells l ++ [.int .i64 at_, .int .i64 to_]) → (World.drew (w4.alloc (.cells #[.int .i64 at_, .int .i64 to_] 48))).grownBy w6 v.ownBlock → (v.ownBlock = some gb ∨ gb = (World.drew (w4.alloc (.cells #[.int .i64 at_, .int .i64 to_] 48))).heap.size) →
        ∃ w7, (Instr.mapUpdate 43 (.map (some mb)) (.string nm) (.slice (some ⟨gb, 0, none⟩) (l.length + 1) capb)).run Tryz.prog w6 = .ok () w7 ∧ w6.cell? ⟨rb, 0, none⟩ = some (.map (some mb)) ∧ w7.cell? ⟨rb, 0, none⟩ = some (.map (some mb)) ∧ SetTo lo rb mb n w ns L nm (at_, to_) w7) := fun w6 gb capb z1 z2 z3 => hFIN.out w4 _ w6 gb capb _ HB5.out (below_then (below_alloc _ _) (drew_below _)) z1 z2 z3 (by show _ ≤ (w4.alloc _).heap.size; rw [World.size_alloc]; omega)
    clear hFIN hLKs hW8 hb5d hb5a HB5
    go_region_held3 (fun w' => w'.cell? ⟨rb, 0, none⟩ = some (.map (some mb))) (first | with_reducible assumption | with_reducible exact hc1 | with_reducible exact hc2)
      ((refine step_append_lies _ (by rfl) _ _ 50 (by rfl) lo 48 i0 (.agg #[.int .i64 0, .int .i64 0]) 2 16 Tryz.underlying50 hi hz0 hz1 hz2 rfl (by decide) v l.length (mcells l) (by rfl) OW.out ⟨w4.heap.size, 0, none⟩ 1 1 [.int .i64 at_, .int .i64 to_] (by rfl) rfl (World.news_of_block (cs := #[.int .i64 at_, .int .i64 to_]) (block_at _ rfl)) HONE.out (by decide) HMAX.out HBY.out HLO.out _ rfl ?_; intro gb capb w6 hown hgrow hat hlt3; obtain ⟨w7, hst, hc6, hc7, hfin⟩ := HFN.out w6 gb capb hown hgrow hat; have HFI : Hid (SetTo lo rb mb n w ns L nm (at_, to_) w7) := hfin; clear hfin hown hgrow hat hlt3))
    all_goals
      go_wp2
      go_ret
      exact ⟨rfl, .inr ⟨trivial, HFI.out⟩⟩
end Go.Proofs.YtcaeafgkogfgdaaGreatDoor
