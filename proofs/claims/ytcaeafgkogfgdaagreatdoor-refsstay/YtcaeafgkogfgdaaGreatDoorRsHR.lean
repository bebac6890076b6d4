/- Names of commits: Read of a text that refs made. -/
import Derived.Test.YtcaeafgkogfgdaaGreatDoorRaAN
namespace Go.Proofs.YtcaeafgkogfgdaaGreatDoor
open Go Go.RowKit Go.Maps Go.Sort Go.Shelf Cal
attribute [local go_sem] Oper.semAt_some

/-- one name more is laid into the map -/
theorem refs_lay {lo rb mb n B : Nat} {W W2 : World} {ns : List ByteArray} {L : ByteArray → List (Int × Int)} (h : RefsAt lo W rb mb n ns L) (hg : W.grownBy W2 (some B)) (hB : B < lo) (hB1 : B ≠ rb) (hB2 : B ≠ mb) (hn : n ≤ 100000) (nm : ByteArray) (hs : nm.size ≤ 1000) (hup : Ups (ns ++ [nm])) (l : List (Int × Int)) (hl : l ≠ []) (a : Option Addr) (c : Nat) (hv : EnR W.heap.size W2 (.slice a l.length c) l) :
    ∃ w4, (Instr.mapUpdate 43 (.map (some mb)) (.string nm) (.slice a l.length c)).run Tryz.prog W2 = .ok () w4 ∧ RefsAt lo w4 rb mb (n + 1) (ns ++ [nm]) (fun x => if x = nm then l else L x) ∧ W2.grownBy w4 (some mb) := by
  have h2 := h.grown hg hB hB1 hB2
  obtain ⟨D, vf, q1, q2, q3, q4, q5⟩ := h.ex
  have hlo := h.le
  have hm := h.hm
  have hnin : nm ∉ ns := fun q => by
    have := (List.pairwise_append.1 hup).2.2 nm q nm (by simp)
    exact List.lt_irrefl _ this
  have m2 : W2.ownsMap Tryz.prog 9 hld mb n D := q1.kept hg (fun q => hB2 (Option.some.inj q).symm)
  have q42 : ∀ s, EnR lo W2 (vf s) (L s) := fun s => World.ownsRow.kept (q4 s) hg (.inr (fun he => by have := (World.ownsRow.lt (q4 s) _ he).1; omega))
  obtain ⟨w4, hst, m4, t4⟩ := m2.store law Tryz.underlying43 (by unfold maxLen; omega) (key_of hs) (show hld (.slice a l.length c) = some (.held (.slice a l.length c), []) from rfl)
  have g4 := t4.grown
  have b4 : w4.heap[rb]? = some (.cells #[.map (some mb)] 45 (0, 0)) := (g4.block rb (Array.getElem?_eq_some_iff.1 h2.blk).1 (fun q => h.ne (Option.some.inj q).symm)).trans h2.blk
  have hvo : ∀ g, (Value.slice a l.length c).ownBlock = some g → W.heap.size ≤ g := fun g hq => (World.ownsRow.lt hv g hq).1
  refine ⟨w4, hst, ⟨b4, h.hr, h.hm, h.ne, Nat.le_trans h2.le g4.size, hup, fun x => ?_, D.put (key nm) (.held (.slice a l.length c)), fun x => if x = nm then .slice a l.length c else vf x, m4, fun x => ?_, fun x => ?_, fun x => ?_, fun x y g hx hy => ?_⟩, g4⟩
  · rw [List.mem_append, List.mem_singleton]
    by_cases q : x = nm
    · subst q; simp [hl]
    · simp [q, h.mem]
  · rw [List.mem_append, List.mem_singleton]
    by_cases q : x = nm
    · subst q
      exact ⟨fun _ => .inr rfl, fun _ => has_put_same q1.isMap (rkey_lit _) _⟩
    · rw [has_put_other (rkey_ne q), q2]
      simp [q]
  · by_cases q : x = nm
    · subst q
      simp only [if_pos]
      exact atKey_put_same q1.isMap (rkey_lit _) _ _
    · simp only [if_neg q]
      rw [atKey_put_other (rkey_ne q)]
      exact q3 x
  · by_cases q : x = nm
    · subst q
      simp only [if_pos]
      refine World.ownsRow.kept (own_base hv hlo) g4 (.inr (fun z => ?_))
      have := hvo _ z
      omega
    · simp only [if_neg q]
      refine World.ownsRow.kept (q42 x) g4 (.inr (fun z => ?_))
      have := (World.ownsRow.lt (q42 x) _ z).1
      omega
  · dsimp only at hx hy
    have key1 : ∀ (y : ByteArray), y ≠ nm → (vf y).ownBlock = some g → (Value.slice a l.length c).ownBlock = some g → False := fun y hy h1 h2 => by
      have hlt := ((q4 y).blk h1).2.1
      have := hvo g h2
      omega
    by_cases qx : x = nm
    · by_cases qy : y = nm
      · rw [qx, qy]
      · rw [if_pos qx] at hx
        rw [if_neg qy] at hy
        exact (key1 y qy hy hx).elim
    · by_cases qy : y = nm
      · rw [if_neg qx] at hx
        rw [if_pos qy] at hy
        exact (key1 x qx hx hy).elim
      · rw [if_neg qx] at hx
        rw [if_neg qy] at hy
        exact q5 x y g hx hy

/-- the last name -/
def lastN (l : List ByteArray) : ByteArray := match l.getLast? with
  | some s => s
  | none => ⟨#[]⟩
theorem lastN_snoc (l : List ByteArray) (s : ByteArray) : lastN (l ++ [s]) = s := by
  unfold lastN
  rw [List.getLast?_concat]
theorem lastN_lt {ns : List ByteArray} (h : Ups ns) (hw : ∀ s ∈ ns, okID s) {k : Nat} (hk : k < ns.length) : (lastN (ns.take k)).data.toList < ns[k].data.toList := by
  unfold lastN
  cases hq : (ns.take k).getLast? with
  | none =>
    have h1 := (hw ns[k] (List.getElem_mem hk)).2.1
    cases hb : ns[k].data.toList with
    | nil =>
      rw [Lib.size_eq, hb] at h1
      simp at h1
    | cons a r => exact List.nil_lt_cons _ _
  | some F =>
    obtain ⟨j, hj, rfl⟩ := List.mem_take_iff_getElem.1 (List.mem_of_getLast? hq)
    exact List.pairwise_iff_getElem.1 h j k (by omega) hk (by omega)
/-- the entries of the first k names -/
noncomputable def fstL (ns : List ByteArray) (L : ByteArray → List (Int × Int)) (k : Nat) (x : ByteArray) : List (Int × Int) := open Classical in if x ∈ ns.take k then L x else []
theorem fstL_0 (ns : List ByteArray) (L : ByteArray → List (Int × Int)) : fstL ns L 0 = fun _ => [] := by
  funext x
  unfold fstL
  simp
theorem fstL_succ (ns : List ByteArray) (L : ByteArray → List (Int × Int)) {k : Nat} (hk : k < ns.length) : fstL ns L (k + 1) = fun x => if x = ns[k] then L ns[k] else fstL ns L k x := by
  funext x
  unfold fstL
  by_cases q : x = ns[k]
  · subst q
    rw [if_pos (by rw [List.take_succ_eq_append_getElem hk, List.mem_append]; exact .inr (List.mem_singleton.2 rfl)), if_pos rfl]
  · rw [if_neg q]
    have : x ∈ ns.take (k + 1) ↔ x ∈ ns.take k := by
      rw [List.take_succ_eq_append_getElem hk, List.mem_append, List.mem_singleton]
      simp [q]
    by_cases z : x ∈ ns.take k
    · rw [if_pos z, if_pos (this.2 z)]
    · rw [if_neg z, if_neg (fun y => z (this.1 y))]
theorem fstL_all {ns : List ByteArray} {L : ByteArray → List (Int × Int)} (h : ∀ s, s ∈ ns ↔ L s ≠ []) : fstL ns L ns.length = L := by
  funext x
  unfold fstL
  rw [List.take_length]
  by_cases q : x ∈ ns
  · rw [if_pos q]
  · rw [if_neg q]
    cases hq : L x with
    | nil => rfl
    | cons a r => exact absurd ((h x).2 (by rw [hq]; simp)) q
theorem lvs_take {ns : List ByteArray} {L : ByteArray → List (Int × Int)} {k : Nat} (hk : k < ns.length) : (lvs (ns.take (k + 1)) L).length = (lvs (ns.take k) L).length + (if (lst (L ns[k])).2 = -1 then 0 else 1) := by
  unfold lvs
  rw [List.take_succ_eq_append_getElem hk, List.filter_append, List.length_append]
  congr 1
  unfold gn
  by_cases q : (lst (L ns[k])).2 = -1
  · simp [q]
  · simp [q]
theorem lvs_le (ns : List ByteArray) (L : ByteArray → List (Int × Int)) (k : Nat) : (lvs (ns.take k) L).length ≤ (lvs ns L).length := by
  unfold lvs
  exact (List.Sublist.filter _ (List.take_sublist k ns)).length_le

/-- where the loop over the lines begins -/
def RRk (w : World) (sb : ByteArray) : World :=
  ((((((((w.alloc (.cells #[.pointer none] 24)).alloc (.cells #[.nilIface] 34)).alloc (.map #[] 0)).alloc (.cells #[.map (some (w.heap.size + 1 + 1))] 45)).alloc (.cells #[.pointer (some ⟨w.heap.size + 1 + 1 + 1, 0, none⟩)] 24)).alloc (.cells #[.int .i64 0] 3)).alloc (.cells #[.string ⟨#[]⟩] 9)).alloc (.cells #[.int .i64 0] 3)).alloc (.cells #[.string sb] 9)

theorem rrk_size (w : World) (sb : ByteArray) : (RRk w sb).heap.size = w.heap.size + 9 := by
  unfold RRk
  simp
theorem rrk_below (w : World) (sb : ByteArray) : Below w.heap.size w (RRk w sb) := by
  unfold RRk
  exact below_then (below_alloc _ _) (below_then (below_alloc _ _) (below_then (below_alloc _ _) (below_then (below_alloc _ _) (below_then (below_alloc _ _) (below_then (below_alloc _ _) (below_then (below_alloc _ _) (below_then (below_alloc _ _) (below_alloc _ _))))))))
theorem rrk_boxes (w : World) (sb : ByteArray) :
    Boxed (RRk w sb) w.heap.size 24 (.pointer none) ∧ Boxed (RRk w sb) (w.heap.size + 1) 34 .nilIface ∧ Boxed (RRk w sb) (w.heap.size + 4) 24 (.pointer (some ⟨w.heap.size + 1 + 1 + 1, 0, none⟩)) ∧ Boxed (RRk w sb) (w.heap.size + 5) 3 (.int .i64 0) ∧ Boxed (RRk w sb) (w.heap.size + 6) 9 (.string ⟨#[]⟩) ∧ Boxed (RRk w sb) (w.heap.size + 7) 3 (.int .i64 0) ∧ Boxed (RRk w sb) (w.heap.size + 8) 9 (.string sb) := by
  unfold RRk
  refine ⟨?_, ?_, ?_, ?_, ?_, ?_, ?_⟩
  · exact block_alloc _ (block_alloc _ (block_alloc _ (block_alloc _ (block_alloc _ (block_alloc _ (block_alloc _ (block_alloc _ (block_at _ rfl))))))))
  · exact block_alloc _ (block_alloc _ (block_alloc _ (block_alloc _ (block_alloc _ (block_alloc _ (block_alloc _ (block_at _ (by simp))))))))
  · exact block_alloc _ (block_alloc _ (block_alloc _ (block_alloc _ (block_at _ (by simp)))))
  · exact block_alloc _ (block_alloc _ (block_alloc _ (block_at _ (by simp))))
  · exact block_alloc _ (block_alloc _ (block_at _ (by simp)))
  · exact block_alloc _ (block_at _ (by simp))
  · exact block_at _ (by simp)
theorem RefsAt.lift {lo lo' rb mb n : Nat} {W : World} (h : RefsAt lo W rb mb n [] (fun _ => [])) (hl : lo ≤ lo') (hl2 : lo' ≤ W.heap.size) : RefsAt lo' W rb mb n [] (fun _ => []) := by
  obtain ⟨D, vf, h1, h2, h3, h4, h5⟩ := h.ex
  refine ⟨h.blk, Nat.lt_of_lt_of_le h.hr hl, Nat.lt_of_lt_of_le h.hm hl, h.ne, hl2, h.ups, h.mem, D, fun _ => .slice none 0 0, h1, h2, fun s => ?_, fun s => EnR.nil _ _, fun s t g q => by cases q⟩
  rw [h3 s]
  rcases (h4 s).2 with ⟨e, _⟩ | ⟨g, cap, cur, e, _, hg, hcap, hmax, hs, ht⟩
  · rw [e]
  · exfalso
    have hh : Maps.has D (key s) = false := by
      cases hq : Maps.has D (key s) with
      | false => rfl
      | true => have := (h2 s).1 hq; simp at this
    have h6 := atKey_of_not_has hh (.held (.slice none 0 0))
    rw [h3 s, e] at h6
    cases h6
theorem rrk_refs (w : World) (sb : ByteArray) : RefsAt (w.heap.size + 4) (RRk w sb) (w.heap.size + 3) (w.heap.size + 2) 0 [] (fun _ => []) := by
  have h0 := refs_made ((w.alloc (.cells #[.pointer none] 24)).alloc (.cells #[.nilIface] 34))
  have hz : ((w.alloc (.cells #[.pointer none] 24)).alloc (.cells #[.nilIface] 34)).heap.size = w.heap.size + 2 := by rw [World.size_alloc, World.size_alloc]
  rw [hz] at h0
  unfold RRk
  exact ((((h0.step (below_alloc _ _)).step (below_alloc _ _)).step (below_alloc _ _)).step (below_alloc _ _)).step (below_alloc _ _)
/-- the loop's own variables -/
structure RQ (w W : World) (r : Loop) (k : Int) (ah : ByteArray) (hr : Int) : Prop where
  b0 : Boxed W w.heap.size 24 (.pointer none)
  b1 : Boxed W (w.heap.size + 1) 34 .nilIface
  b4 : Boxed W (w.heap.size + 4) 24 (.pointer (some ⟨w.heap.size + 1 + 1 + 1, 0, none⟩))
  b5 : Boxed W (w.heap.size + 5) 3 (.int .i64 k)
  b6 : Boxed W (w.heap.size + 6) 9 (.string ah)
  b7 : Boxed W (w.heap.size + 7) 3 (.int .i64 hr)
  d : W.heap[w.heap.size + 9]? = some (.deferred (some []))
  l : W.heap[w.heap.size + 10]? = some (.loop r)
  bw : Below w.heap.size w W
  sz : w.heap.size + 11 ≤ W.heap.size
theorem RQ.move {w W W' : World} {r r' : Loop} {k k' : Int} {ah ah' : ByteArray} {hr hr' : Int} (h : RQ w W r k ah hr) (hF : ∀ b, b < w.heap.size + 11 → b ≠ w.heap.size + 2 → b ≠ w.heap.size + 5 → b ≠ w.heap.size + 6 → b ≠ w.heap.size + 7 → b ≠ w.heap.size + 8 → b ≠ w.heap.size + 10 → W'.heap[b]? = W.heap[b]?) (h5 : Boxed W' (w.heap.size + 5) 3 (.int .i64 k')) (h6 : Boxed W' (w.heap.size + 6) 9 (.string ah')) (h7 : Boxed W' (w.heap.size + 7) 3 (.int .i64 hr')) (hl : W'.heap[w.heap.size + 10]? = some (.loop r')) (ho : W'.os = W.os ∧ W'.tape = W.tape ∧ W'.output = W.output) (hs : W.heap.size ≤ W'.heap.size) : RQ w W' r' k' ah' hr' :=
  ⟨(hF _ (by omega) (by omega) (by omega) (by omega) (by omega) (by omega) (by omega)).trans h.b0, (hF _ (by omega) (by omega) (by omega) (by omega) (by omega) (by omega) (by omega)).trans h.b1, (hF _ (by omega) (by omega) (by omega) (by omega) (by omega) (by omega) (by omega)).trans h.b4, h5, h6, h7, (hF _ (by omega) (by omega) (by omega) (by omega) (by omega) (by omega) (by omega)).trans h.d, hl,
    ⟨ho.1.trans h.bw.os, ho.2.1.trans h.bw.tape, ho.2.2.trans h.bw.output, Nat.le_trans h.bw.size hs, fun b hb => (hF b (by omega) (by omega) (by omega) (by omega) (by omega) (by omega) (by omega)).trans (h.bw.block b hb)⟩, Nat.le_trans h.sz hs⟩
/-- .. where nothing of them is written -/
theorem RQ.same {w W W' : World} {r r' : Loop} {k : Int} {ah : ByteArray} {hr : Int} (h : RQ w W r k ah hr) (hF : ∀ b, b < w.heap.size + 11 → b ≠ w.heap.size + 2 → b ≠ w.heap.size + 8 → b ≠ w.heap.size + 10 → W'.heap[b]? = W.heap[b]?) (hl : W'.heap[w.heap.size + 10]? = some (.loop r')) (ho : W'.os = W.os ∧ W'.tape = W.tape ∧ W'.output = W.output) (hs : W.heap.size ≤ W'.heap.size) : RQ w W' r' k ah hr :=
  h.move (fun b q1 q2 _ _ _ q3 q4 => hF b q1 q2 q3 q4) ((hF _ (by omega) (by omega) (by omega) (by omega)).trans h.b5) ((hF _ (by omega) (by omega) (by omega) (by omega)).trans h.b6) ((hF _ (by omega) (by omega) (by omega) (by omega)).trans h.b7) hl ho hs

set_option maxHeartbeats 4000000 in
set_option maxRecDepth 100000 in
theorem rread_any (ns : List ByteArray) (L : ByteArray → List (Int × Int)) (w : World) (g : GlobN w) (hw : RW ns L) (h8 : ns.length ≤ 100) (hl : ∀ x, (L x).length ≤ 100) :
    Calls Tryz.prog 10 #[.string (bs (rfT ns L))] w fun r w' => ∃ lo rb mb n, r = .returned (.tuple #[.pointer (some ⟨rb, 0, none⟩), .nilIface]) ∧ w.heap.size ≤ rb ∧ RefsAt lo w' rb mb n ns L ∧ n ≤ 100 ∧ Below w.heap.size w w' := by
  have hEB : ∀ s, ∀ e ∈ L s, EnB e := fun s e he => (hw.en s).bd e he
  have hsz : (bs (rfT ns L)).size ≤ 1000000 := by
    rw [Lib.size_eq, bs_data]
    have := rfT_len (ns := ns) (L := L) (k := 100) (fun s hs => hw.nm s hs) hEB hl
    have : ns.length * (13 + 100 * 28) ≤ 100 * (13 + 100 * 28) := Nat.mul_le_mul_right _ h8
    omega
  have hfl : (bs (rfT ns L)).data.toList = (rlns ns L).flatten := by rw [bs_data, rlns_flat]
  have hlk : (rlns ns L).length = ns.length := by unfold rlns; rw [List.length_map]
  generalize bs (rfT ns L) = sb at hsz hfl
  have HFL : Hid (sb.data.toList = (rlns ns L).flatten) := hfl
  have G : Hid (GlobN w) := g
  have HW : Hid (RW ns L) := hw
  have HE : Hid (∀ s, ∀ e ∈ L s, EnB e) := hEB
  have HLL : Hid (∀ x, (L x).length ≤ 100) := hl
  have LN : Hid (∀ w, _) := fun w => lines_any sb w
  have NW : Hid (∀ w, _) := fun w => rnew_any w
  clear hfl g hw hEB hl
  refine (callsIn_wide (n := 10)).1 ?_
  refine callsIn_of_wp_marks Tryz.func10 rfl trivial ?_ rfl
  simp only [Tryz.ntmps10, List.size_toArray, List.length_cons, List.length_nil, Nat.reduceAdd, Nat.reduceSub, Array.replicate_succ, Array.replicate_zero, List.push_toArray, List.append_toArray, List.nil_append, List.cons_append]
  gi_wp2_with (first
    | (refine ⟨trivial, ?_⟩; gi_at_call 24; refine (callsIn_wide.2 (LN.out _)).mono ?_; rintro r w' ⟨rfl, rfl⟩)
    | (refine ⟨trivial, ?_⟩; gi_at_call 5; refine (callsIn_wide.2 (NW.out _)).mono ?_; rintro r w' ⟨rfl, rfl⟩))
  change Code.wpIn _ _ _ _ _ _ (RRk w sb)
  obtain ⟨b0, b1, b4, b5, b6, b7, b8⟩ := rrk_boxes w sb
  have hrf := rrk_refs w sb
  have hbw := rrk_below w sb
  have hs6 := rrk_size w sb
  generalize RRk w sb = W6 at b0 b1 b4 b5 b6 b7 b8 hrf hbw hs6
  refine rangeFunc_of rfl (enters_of Tryz.func32 (by kernel_rfl) rfl) (fun r0 hr0 => ?_)
  have hl10 : W6.heap.size + 1 = w.heap.size + 10 := by omega
  rw [hl10]
  refine (lines_iter 9 (w.heap.size + 10) (w.heap.size + 8) (rlns ns L)
    (fun k W => RefsAt (w.heap.size + 11) W (w.heap.size + 3) (w.heap.size + 2) k (ns.take k) (fstL ns L k) ∧ RQ w W r0 k (lastN (ns.take k)) (lvs (ns.take k) L).length)
    (fun _ _ => False) (by omega) (rlns_ok (fun s hs => HW.out.nm s hs) HE.out) ?hJs ?hY _ sb (by omega) HFL.out ?hBox ?h0).mono ?post
  case hJs =>
    rintro k W W' ⟨q1, q3⟩ hg
    refine ⟨q1.grown hg (by omega) (by omega) (by omega), q3.same (fun b hb _ h8 _ => hg.block b (by have := q3.sz; omega) (fun q => h8 (Option.some.inj q))) ((hg.block _ (by have := q3.sz; omega) (fun q => by have := Option.some.inj q; omega)).trans q3.l) ⟨hg.os, hg.tape, hg.output⟩ hg.size⟩
  case hBox =>
    have hb := below_then (below_alloc W6 (.deferred (some []))) (below_alloc _ (.loop r0))
    exact (hb.block _ (by omega)).trans b8
  case h0 =>
    have hb := below_then (below_alloc W6 (.deferred (some []))) (below_alloc _ (.loop r0))
    have hsz2 : ((W6.alloc (.deferred (some []))).alloc (.loop r0)).heap.size = w.heap.size + 11 := by rw [World.size_alloc, World.size_alloc, hs6]
    have hd9 : ((W6.alloc (.deferred (some []))).alloc (.loop r0)).heap[w.heap.size + 9]? = some (.deferred (some [])) := block_alloc _ (block_at _ hs6)
    have hl : ((W6.alloc (.deferred (some []))).alloc (.loop r0)).heap[w.heap.size + 10]? = some (.loop r0) := by rw [← hl10]; exact rec_start _ _
    refine ⟨?_, (hb.block _ (by omega)).trans b0, (hb.block _ (by omega)).trans b1, (hb.block _ (by omega)).trans b4, (hb.block _ (by omega)).trans b5, (hb.block _ (by omega)).trans b6, (hb.block _ (by omega)).trans b7, hd9, hl, below_then hbw hb, by omega⟩
    rw [List.take_zero, fstL_0]
    exact (hrf.step hb).lift (by omega) (by omega)
  case hY =>
    rintro k hk W ⟨q1, q3⟩
    have hkC : k < ns.length := by omega
    have hmem : ns[k] ∈ ns := List.getElem_mem hkC
    have hok := HW.out.nm _ hmem
    have hln : (rlns ns L)[k] = rln ns[k] (L ns[k]) ++ [10] := by simp [rlns]
    have hne : L ns[k] ≠ [] := (HW.out.mem _).1 hmem
    have h1l : 1 ≤ (L ns[k]).length := by
      cases hq : L ns[k] with
      | nil => exact absurd hq hne
      | cons a r => simp
    have hgb := grownBy_putObj' W (w.heap.size + 10) (.loop { r0 with state := .busy })
    have q1b := q1.grown hgb (by omega) (by omega) (by omega)
    have lrec : (W.putObj (w.heap.size + 10) (.loop { r0 with state := .busy })).heap[w.heap.size + 10]? = some (.loop { r0 with state := .busy }) := World.putObj_heap_same (Array.getElem?_eq_some_iff.1 q3.l).1
    have q3b : RQ w (W.putObj (w.heap.size + 10) (.loop { r0 with state := .busy })) { r0 with state := .busy } k (lastN (ns.take k)) (lvs (ns.take k) L).length := q3.same (fun b hb _ _ h10 => World.putObj_heap_other h10) lrec ⟨hgb.os, hgb.tape, hgb.output⟩ hgb.size
    have e8 : (W.putObj (w.heap.size + 10) (.loop { r0 with state := .busy })).heap[w.heap.size + 8]? = W.heap[w.heap.size + 8]? := World.putObj_heap_other (by omega)
    have hlt := lastN_lt HW.out.up HW.out.nm hkC
    have hlv := lvs_take (L := L) hkC
    have hlive : (lvs (ns.take (k + 1)) L).length ≤ 20 := Nat.le_trans (lvs_le _ _ _) HW.out.live
    have htk : ns.take (k + 1) = ns.take k ++ [ns[k]] := List.take_succ_eq_append_getElem hkC
    have hlast : lastN (ns.take (k + 1)) = ns[k] := by rw [htk, lastN_snoc]
    have hup : Ups (ns.take k ++ [ns[k]]) := by rw [← htk]; exact HW.out.up.sublist (List.take_sublist _ _)
    have hfs := fstL_succ ns L hkC
    have hLm := HLL.out ns[k]
    rw [hln]
    have HQ4 : Hid (_) := q3.l
    change YieldAt _ _ _ _ #[.string (bs (rln ns[k] (L ns[k]) ++ [10]))] _ _
    generalize hWb : W.putObj (w.heap.size + 10) (.loop { r0 with state := .busy }) = Wb at q1b q3b lrec e8
    have RL : Hid (Calls _ _ _ _ _) := rline_ok ns[k] (lastN (ns.take k)) (L ns[k]) Wb (G.out.step q3b.bw) hok (HW.out.en _) h1l (by omega) hlt
    have LAY : Hid (∀ (W2 : World) (a : Option Addr) (c : Nat), Wb.grownBy W2 (some (w.heap.size + 7)) → EnR Wb.heap.size W2 (.slice a (L ns[k]).length c) (L ns[k]) → ∃ w4, (Instr.mapUpdate 43 (.map (some (w.heap.size + 2))) (.string ns[k]) (.slice a (L ns[k]).length c)).run Tryz.prog W2 = .ok () w4 ∧ RefsAt (w.heap.size + 11) w4 (w.heap.size + 3) (w.heap.size + 2) (k + 1) (ns.take (k + 1)) (fstL ns L (k + 1)) ∧ W2.grownBy w4 (some (w.heap.size + 2))) := fun W2 a c hg2 hv2 => by
      have := refs_lay q1b hg2 (by omega) (by omega) (by omega) (by omega) ns[k] (by have := hok.2.2; omega) hup (L ns[k]) hne a c hv2
      rw [← htk, ← hfs] at this
      exact this
    have HRF : Hid (RefsAt (w.heap.size + 11) Wb (w.heap.size + 3) (w.heap.size + 2) k (ns.take k) (fstL ns L k)) := q1b
    have LAST : Hid (∀ (W2 : World) (v : Value), EnR Wb.heap.size W2 v (L ns[k]) → Calls Tryz.prog 17 #[v] W2 fun r w' => r = .returned (.agg #[.int .i64 (lst (L ns[k])).1, .int .i64 (lst (L ns[k])).2]) ∧ Below W2.heap.size W2 w') := fun W2 v hv2 => lastOf_any _ v W2 (hv2.movs (by omega))
    have FIN : Hid (∀ (W2 w4 : World), Wb.grownBy W2 (some (w.heap.size + 7)) → Boxed W2 (w.heap.size + 7) 3 (.int .i64 (lvs (ns.take (k + 1)) L).length) → RefsAt (w.heap.size + 11) w4 (w.heap.size + 3) (w.heap.size + 2) (k + 1) (ns.take (k + 1)) (fstL ns L (k + 1)) → W2.grownBy w4 (some (w.heap.size + 2)) →
        w4.cell? ⟨w.heap.size + 1 + 1 + 1 + 1 + 1, 0, none⟩ = some (.int .i64 k) ∧ w4.frozen? ⟨w.heap.size + 1 + 1 + 1 + 1 + 1, 0, none⟩ = false ∧ w4.cell? ⟨w.heap.size + 1 + 1 + 1 + 1 + 1 + 1, 0, none⟩ = some (.string (lastN (ns.take k))) ∧ w4.frozen? ⟨w.heap.size + 1 + 1 + 1 + 1 + 1 + 1, 0, none⟩ = false ∧
        ((w4.setCell ⟨w.heap.size + 1 + 1 + 1 + 1 + 1, 0, none⟩ (.int .i64 ((k + 1 : Nat) : Int))).setCell ⟨w.heap.size + 1 + 1 + 1 + 1 + 1 + 1, 0, none⟩ (.string ns[k])).heap[w.heap.size + 10]? = some (.loop { r0 with state := .busy }) ∧
        (RefsAt (w.heap.size + 11) (((w4.setCell ⟨w.heap.size + 1 + 1 + 1 + 1 + 1, 0, none⟩ (.int .i64 ((k + 1 : Nat) : Int))).setCell ⟨w.heap.size + 1 + 1 + 1 + 1 + 1 + 1, 0, none⟩ (.string ns[k])).putObj (w.heap.size + 10) (.loop { r0 with state := .ready, pending := none })) (w.heap.size + 3) (w.heap.size + 2) (k + 1) (ns.take (k + 1)) (fstL ns L (k + 1)) ∧ RQ w (((w4.setCell ⟨w.heap.size + 1 + 1 + 1 + 1 + 1, 0, none⟩ (.int .i64 ((k + 1 : Nat) : Int))).setCell ⟨w.heap.size + 1 + 1 + 1 + 1 + 1 + 1, 0, none⟩ (.string ns[k])).putObj (w.heap.size + 10) (.loop { r0 with state := .ready, pending := none })) r0 ((k + 1 : Nat) : Int) (lastN (ns.take (k + 1))) (lvs (ns.take (k + 1)) L).length) ∧
        (((w4.setCell ⟨w.heap.size + 1 + 1 + 1 + 1 + 1, 0, none⟩ (.int .i64 ((k + 1 : Nat) : Int))).setCell ⟨w.heap.size + 1 + 1 + 1 + 1 + 1 + 1, 0, none⟩ (.string ns[k])).putObj (w.heap.size + 10) (.loop { r0 with state := .ready, pending := none })).heap[w.heap.size + 8]? = W.heap[w.heap.size + 8]?) := fun W2 w4 hg2 hb7 hrf4 hg4 => by
      have hz := q3b.sz
      have hz2 := hg2.size
      have hz4 := hg4.size
      have F4 : ∀ b, b < w.heap.size + 11 → b ≠ w.heap.size + 2 → b ≠ w.heap.size + 7 → w4.heap[b]? = Wb.heap[b]? := fun b hb h2 h7 => (hg4.block b (by omega) (fun q => h2 (Option.some.inj q))).trans (hg2.block b (by omega) (fun q => h7 (Option.some.inj q)))
      have B5 : Boxed w4 (w.heap.size + 5) 3 (.int .i64 k) := (F4 _ (by omega) (by omega) (by omega)).trans q3b.b5
      have B6 : Boxed w4 (w.heap.size + 6) 9 (.string (lastN (ns.take k))) := (F4 _ (by omega) (by omega) (by omega)).trans q3b.b6
      have B7 : Boxed w4 (w.heap.size + 7) 3 (.int .i64 (lvs (ns.take (k + 1)) L).length) := (hg4.block _ (by omega) (fun q => by have := Option.some.inj q; omega)).trans hb7
      have gA := grown_set w4 ⟨w.heap.size + 1 + 1 + 1 + 1 + 1, 0, none⟩ (.int .i64 ((k + 1 : Nat) : Int))
      have gB := grown_set (w4.setCell ⟨w.heap.size + 1 + 1 + 1 + 1 + 1, 0, none⟩ (.int .i64 ((k + 1 : Nat) : Int))) ⟨w.heap.size + 1 + 1 + 1 + 1 + 1 + 1, 0, none⟩ (.string ns[k])
      have gP := grownBy_putObj' ((w4.setCell ⟨w.heap.size + 1 + 1 + 1 + 1 + 1, 0, none⟩ (.int .i64 ((k + 1 : Nat) : Int))).setCell ⟨w.heap.size + 1 + 1 + 1 + 1 + 1 + 1, 0, none⟩ (.string ns[k])) (w.heap.size + 10) (.loop { r0 with state := .ready, pending := none })
      have FS : ∀ b, b < w.heap.size + 11 → b ≠ w.heap.size + 5 → b ≠ w.heap.size + 6 → ((w4.setCell ⟨w.heap.size + 1 + 1 + 1 + 1 + 1, 0, none⟩ (.int .i64 ((k + 1 : Nat) : Int))).setCell ⟨w.heap.size + 1 + 1 + 1 + 1 + 1 + 1, 0, none⟩ (.string ns[k])).heap[b]? = w4.heap[b]? := fun b hb h5 h6 => (gB.block b (by have := gA.size; omega) (fun q => h6 (by have := Option.some.inj q; omega))).trans (gA.block b (by omega) (fun q => h5 (by have := Option.some.inj q; omega)))
      have C5 : Boxed ((w4.setCell ⟨w.heap.size + 1 + 1 + 1 + 1 + 1, 0, none⟩ (.int .i64 ((k + 1 : Nat) : Int))).setCell ⟨w.heap.size + 1 + 1 + 1 + 1 + 1 + 1, 0, none⟩ (.string ns[k])) (w.heap.size + 5) 3 (.int .i64 ((k + 1 : Nat) : Int)) := (B5.set _).other (by omega) _
      have C6 : Boxed ((w4.setCell ⟨w.heap.size + 1 + 1 + 1 + 1 + 1, 0, none⟩ (.int .i64 ((k + 1 : Nat) : Int))).setCell ⟨w.heap.size + 1 + 1 + 1 + 1 + 1 + 1, 0, none⟩ (.string ns[k])) (w.heap.size + 6) 9 (.string ns[k]) := Boxed.set _ (B6.other (by omega) _)
      have hl4 := (FS (w.heap.size + 10) (by omega) (by omega) (by omega)).trans ((F4 (w.heap.size + 10) (by omega) (by omega) (by omega)).trans lrec)
      have PO : ∀ b, b ≠ w.heap.size + 10 → (((w4.setCell ⟨w.heap.size + 1 + 1 + 1 + 1 + 1, 0, none⟩ (.int .i64 ((k + 1 : Nat) : Int))).setCell ⟨w.heap.size + 1 + 1 + 1 + 1 + 1 + 1, 0, none⟩ (.string ns[k])).putObj (w.heap.size + 10) (.loop { r0 with state := .ready, pending := none })).heap[b]? = ((w4.setCell ⟨w.heap.size + 1 + 1 + 1 + 1 + 1, 0, none⟩ (.int .i64 ((k + 1 : Nat) : Int))).setCell ⟨w.heap.size + 1 + 1 + 1 + 1 + 1 + 1, 0, none⟩ (.string ns[k])).heap[b]? := fun b hb => World.putObj_heap_other hb
      refine ⟨B5.cell, B5.frozen, B6.cell, B6.frozen, hl4, ⟨?_, ?_⟩, (PO _ (by omega)).trans ((FS _ (by omega) (by omega) (by omega)).trans ((F4 _ (by omega) (by omega) (by omega)).trans e8))⟩
      · exact ((hrf4.grown (B := w.heap.size + 1 + 1 + 1 + 1 + 1) gA (by omega) (by omega) (by omega)).grown (B := w.heap.size + 1 + 1 + 1 + 1 + 1 + 1) gB (by omega) (by omega) (by omega)).grown gP (by omega) (by omega) (by omega)
      · rw [hlast]
        refine q3b.move (fun b h0 h2 h5 h6 h7 h8 h10 => (PO b h10).trans ((FS b h0 h5 h6).trans (F4 b h0 h2 h7))) ((PO _ (by omega)).trans C5) ((PO _ (by omega)).trans C6) ((PO _ (by omega)).trans ((FS _ (by omega) (by omega) (by omega)).trans B7)) ?_ ⟨gP.os.trans (gB.os.trans (gA.os.trans (hg4.os.trans hg2.os))), gP.tape.trans (gB.tape.trans (gA.tape.trans (hg4.tape.trans hg2.tape))), gP.output.trans (gB.output.trans (gA.output.trans (hg4.output.trans hg2.output)))⟩ (Nat.le_trans hz2 (Nat.le_trans hz4 (Nat.le_trans gA.size (Nat.le_trans gB.size gP.size))))
        rw [hr0.again]
        exact World.putObj_heap_same (Array.getElem?_eq_some_iff.1 hl4).1
    have HB7 : Hid (Boxed Wb (w.heap.size + 7) 3 (.int .i64 (lvs (ns.take k) L).length)) := q3b.b7
    have HB6 : Hid (Boxed Wb (w.heap.size + 6) 9 (.string (lastN (ns.take k)))) := q3b.b6
    have HB4 : Hid (Boxed Wb (w.heap.size + 4) 24 (.pointer (some ⟨w.heap.size + 1 + 1 + 1, 0, none⟩))) := q3b.b4
    have hsz11 : w.heap.size + 11 ≤ Wb.heap.size := q3b.sz
    have FT := fun x y w => fld_to x y w
    have hkz : (k : Int) < 1000 := by omega
    clear q1 q1b q3 q3b lrec e8 hlt hlast hup hfs hln b0 b1 b4 b5 b6 b7 b8 hgb hmem hok hne htk hrf
    generalize bs (rln ns[k] (L ns[k]) ++ [10]) = x at RL
    generalize L ns[k] = l at RL LAY LAST hlv h1l hLm
    generalize ns[k] = nm at RL LAY FIN
    generalize lastN (ns.take k) = ah at RL FIN HB6
    generalize hh1 : (lvs (ns.take (k + 1)) L).length = h1 at FIN hlv hlive
    generalize hh0 : (lvs (ns.take k) L).length = h0 at hlv HB7
    clear hh1 hh0
    generalize lst l = e at LAST hlv
    obtain ⟨e1, e2⟩ := e
    dsimp only at LAST hlv
    have c4 : Wb.cell? ⟨w.heap.size + 1 + 1 + 1 + 1, 0, none⟩ = some (.pointer (some ⟨w.heap.size + 1 + 1 + 1, 0, none⟩)) := HB4.out.cell
    have c6 : Wb.cell? ⟨w.heap.size + 1 + 1 + 1 + 1 + 1 + 1, 0, none⟩ = some (.string ah) := HB6.out.cell
    have c7 : Wb.cell? ⟨w.heap.size + 1 + 1 + 1 + 1 + 1 + 1 + 1, 0, none⟩ = some (.int .i64 h0) := HB7.out.cell
    have cr : Wb.cell? ⟨w.heap.size + 1 + 1 + 1, 0, none⟩ = some (.map (some (w.heap.size + 2))) := HRF.out.cell
    refine yieldAt_of hr0 ({ tmps := #[.string sb, undef, .pointer (some ⟨w.heap.size, 0, none⟩), .pointer (some ⟨w.heap.size + 1, 0, none⟩), .pointer (some ⟨w.heap.size + 1 + 1 + 1 + 1, 0, none⟩), .pointer (some ⟨w.heap.size + 1 + 1 + 1 + 1 + 1, 0, none⟩), .pointer (some ⟨w.heap.size + 1 + 1 + 1 + 1 + 1 + 1, 0, none⟩), .pointer (some ⟨w.heap.size + 1 + 1 + 1 + 1 + 1 + 1 + 1, 0, none⟩), .string x, undef, undef, undef, .pointer (some ⟨w.heap.size + 1 + 1 + 1, 0, none⟩), .string sb, .func (.func 32) #[] #[.pointer (some ⟨w.heap.size + 1 + 1 + 1 + 1 + 1 + 1 + 1 + 1, 0, none⟩)], .string x, undef, undef, undef, undef, undef, undef, undef, undef, undef, undef, undef, undef, undef, undef, undef, undef, undef, undef, undef, undef, undef, undef, undef, undef, undef, undef, undef, undef, undef, undef, undef, undef, undef, undef, undef, undef, undef], defers := [] }) HQ4.out rfl ?assign ?body
    case assign =>
      intro K hK
      gi_wp2
      exact hK
    case body =>
      rw [hWb]
      gi_upto_region 6 with (refine ⟨trivial, ?_⟩; gi_at_call 25; refine (CallsIn.inRound (w.heap.size + 10) (callsIn_wide.2 RL.out)).mono ?_; rintro r w1 ⟨a, c, rfl, hv1, hb1⟩)
      have LA1 : Hid (Calls _ _ _ _ _) := LAST.out w1 _ hv1
      by_cases q : e2 = -1
      · subst q
        have hh : h1 = h0 := by rw [if_pos rfl] at hlv; omega
        clear hlv
        subst hh
        gi_upto_region 8 with (refine ⟨trivial, ?_⟩; gi_at_call 17; refine (CallsIn.inRound (w.heap.size + 10) (callsIn_wide.2 LA1.out)).mono ?_; rintro r w2 ⟨rfl, hb2⟩)
        have hb12 := below_then hb1 hb2
        obtain ⟨w4, hst, hrf4, hg4⟩ := LAY.out w2 a c (grown_below hb12 _) (hv1.step hb2)
        obtain ⟨z5, f5, z6, f6, z1, z2, z3⟩ := FIN.out w2 w4 (grown_below hb12 _) ((hb12.block _ (by omega)).trans HB7.out) hrf4 hg4
        have d4 := cell_step c4 hb12
        have d7 := cell_step c7 hb12
        have dr := cell_step cr hb12
        have hliveI : (h1 : Int) ≤ 20 := by omega
        have HZ1 : Hid (_) := z1
        have HZ2 : Hid (_) := z2
        have HZ3 : Hid (_) := z3
        clear z1 z2 z3 c4 c6 c7 cr hrf4 hg4 LAY FIN LAST LA1 RL hv1 HRF HB7 HB6 HB4
        gi_wp2
        exact ⟨HZ1.out, Or.inl ⟨rfl, HZ2.out, HZ3.out⟩⟩
      · have q1 : (e2 == -1) = false := by rw [beq_eq_false_iff_ne]; exact q
        have hh : h1 = h0 + 1 := by rw [if_neg q] at hlv; exact hlv
        clear hlv
        subst hh
        gi_upto_region 7 with (refine ⟨trivial, ?_⟩; gi_at_call 17; refine (CallsIn.inRound (w.heap.size + 10) (callsIn_wide.2 LA1.out)).mono ?_; rintro r w2 ⟨rfl, hb2⟩)
        have hb12 := below_then hb1 hb2
        have B7 : Boxed w2 (w.heap.size + 7) 3 (.int .i64 h0) := (hb12.block _ (by omega)).trans HB7.out
        have d7 : w2.cell? ⟨w.heap.size + 1 + 1 + 1 + 1 + 1 + 1 + 1, 0, none⟩ = some (.int .i64 h0) := B7.cell
        have f7 : w2.frozen? ⟨w.heap.size + 1 + 1 + 1 + 1 + 1 + 1 + 1, 0, none⟩ = false := B7.frozen
        have gS : w2.grownBy (w2.setCell ⟨w.heap.size + 1 + 1 + 1 + 1 + 1 + 1 + 1, 0, none⟩ (.int .i64 ((h0 : Int) + 1))) (some (w.heap.size + 7)) := grown_set w2 ⟨w.heap.size + 1 + 1 + 1 + 1 + 1 + 1 + 1, 0, none⟩ (.int .i64 ((h0 : Int) + 1))
        have hg2 : Wb.grownBy (w2.setCell ⟨w.heap.size + 1 + 1 + 1 + 1 + 1 + 1 + 1, 0, none⟩ (.int .i64 ((h0 : Int) + 1))) (some (w.heap.size + 7)) := grown_then (grown_below hb12 _) gS
        have hv2 : EnR Wb.heap.size (w2.setCell ⟨w.heap.size + 1 + 1 + 1 + 1 + 1 + 1 + 1, 0, none⟩ (.int .i64 ((h0 : Int) + 1))) (.slice a l.length c) l := World.ownsRow.kept (hv1.step hb2) gS (.inr (fun z => by have := (World.ownsRow.lt (hv1.step hb2) _ z).1; omega))
        obtain ⟨w4, hst, hrf4, hg4⟩ := LAY.out _ a c hg2 hv2
        obtain ⟨z5, f5, z6, f6, z1, z2, z3⟩ := FIN.out _ w4 hg2 (B7.set _) hrf4 hg4
        have d4 : (w2.setCell ⟨w.heap.size + 1 + 1 + 1 + 1 + 1 + 1 + 1, 0, none⟩ (.int .i64 ((h0 : Int) + 1))).cell? ⟨w.heap.size + 1 + 1 + 1 + 1, 0, none⟩ = some (.pointer (some ⟨w.heap.size + 1 + 1 + 1, 0, none⟩)) := grown_cell gS (cell_step c4 hb12) (by omega)
        have dr : (w2.setCell ⟨w.heap.size + 1 + 1 + 1 + 1 + 1 + 1 + 1, 0, none⟩ (.int .i64 ((h0 : Int) + 1))).cell? ⟨w.heap.size + 1 + 1 + 1, 0, none⟩ = some (.map (some (w.heap.size + 2))) := grown_cell gS (cell_step cr hb12) (by omega)
        have d77 : (w2.setCell ⟨w.heap.size + 1 + 1 + 1 + 1 + 1 + 1 + 1, 0, none⟩ (.int .i64 ((h0 : Int) + 1))).cell? ⟨w.heap.size + 1 + 1 + 1 + 1 + 1 + 1 + 1, 0, none⟩ = some (.int .i64 ((h0 : Int) + 1)) := (B7.set _).cell
        have hliveI : (h0 : Int) + 1 ≤ 20 := by omega
        have hl2 : (h0 : Int) ≤ 19 := by omega
        have HZ1 : Hid (_) := z1
        have HZ2 : Hid (_) := z2
        have HZ3 : Hid (_) := z3
        clear z1 z2 z3 c4 c6 c7 cr hrf4 hg4 LAY FIN LAST LA1 RL hv1 HRF HB7 HB6 HB4 hv2 hg2 gS B7
        gi_wp2
        exact ⟨HZ1.out, Or.inl ⟨rfl, HZ2.out, HZ3.out⟩⟩
  case post =>
    rintro e2 W2 ⟨hv, (⟨q1, q3⟩ | ⟨k, hx⟩)⟩
    · rw [hlk, List.take_length, fstL_all HW.out.mem] at q1
      rw [hlk] at q3
      refine ⟨hv, _, q3.l, by rw [hr0.state]; decide, .inl ⟨hr0.pending, ?_⟩⟩
      have gP := grownBy_putObj' W2 (w.heap.size + 10) (.loop { r0 with state := .exhausted })
      have q1' := q1.grown gP (by omega) (by omega) (by omega)
      have PO : ∀ b, b ≠ w.heap.size + 10 → (W2.putObj (w.heap.size + 10) (.loop { r0 with state := .exhausted })).heap[b]? = W2.heap[b]? := fun b hb => World.putObj_heap_other hb
      have c0 : Boxed (W2.putObj (w.heap.size + 10) (.loop { r0 with state := .exhausted })) w.heap.size 24 (.pointer none) := (PO _ (by omega)).trans q3.b0
      have c1 : Boxed (W2.putObj (w.heap.size + 10) (.loop { r0 with state := .exhausted })) (w.heap.size + 1) 34 .nilIface := (PO _ (by omega)).trans q3.b1
      have c4 : Boxed (W2.putObj (w.heap.size + 10) (.loop { r0 with state := .exhausted })) (w.heap.size + 4) 24 (.pointer (some ⟨w.heap.size + 1 + 1 + 1, 0, none⟩)) := (PO _ (by omega)).trans q3.b4
      have cd : (W2.putObj (w.heap.size + 10) (.loop { r0 with state := .exhausted })).heap[w.heap.size + 9]? = some (.deferred (some [])) := (PO _ (by omega)).trans q3.d
      have bw3 : Below w.heap.size w (W2.putObj (w.heap.size + 10) (.loop { r0 with state := .exhausted })) := ⟨gP.os.trans q3.bw.os, gP.tape.trans q3.bw.tape, gP.output.trans q3.bw.output, Nat.le_trans q3.bw.size gP.size, fun b hb => (PO b (by omega)).trans (q3.bw.block b hb)⟩
      have z3 : w.heap.size + 11 ≤ (W2.putObj (w.heap.size + 10) (.loop { r0 with state := .exhausted })).heap.size := Nat.le_trans q3.sz gP.size
      generalize W2.putObj (w.heap.size + 10) (.loop { r0 with state := .exhausted }) = W3 at q1' c0 c1 c4 cd bw3 z3 ⊢
      rw [show W6.heap.size = w.heap.size + 9 from hs6]
      have FIN : Hid (((W3.setCell ⟨w.heap.size, 0, none⟩ (.pointer (some ⟨w.heap.size + 1 + 1 + 1, 0, none⟩))).setCell ⟨w.heap.size + 1, 0, none⟩ .nilIface).heap[w.heap.size + 9]? = some (.deferred (some [])) ∧ Boxed (((W3.setCell ⟨w.heap.size, 0, none⟩ (.pointer (some ⟨w.heap.size + 1 + 1 + 1, 0, none⟩))).setCell ⟨w.heap.size + 1, 0, none⟩ .nilIface).putObj (w.heap.size + 9) (.deferred none)) w.heap.size 24 (.pointer (some ⟨w.heap.size + 1 + 1 + 1, 0, none⟩)) ∧ Boxed (((W3.setCell ⟨w.heap.size, 0, none⟩ (.pointer (some ⟨w.heap.size + 1 + 1 + 1, 0, none⟩))).setCell ⟨w.heap.size + 1, 0, none⟩ .nilIface).putObj (w.heap.size + 9) (.deferred none)) (w.heap.size + 1) 34 .nilIface ∧ RefsAt (w.heap.size + 11) (((W3.setCell ⟨w.heap.size, 0, none⟩ (.pointer (some ⟨w.heap.size + 1 + 1 + 1, 0, none⟩))).setCell ⟨w.heap.size + 1, 0, none⟩ .nilIface).putObj (w.heap.size + 9) (.deferred none)) (w.heap.size + 3) (w.heap.size + 2) ns.length ns L ∧ Below w.heap.size w (((W3.setCell ⟨w.heap.size, 0, none⟩ (.pointer (some ⟨w.heap.size + 1 + 1 + 1, 0, none⟩))).setCell ⟨w.heap.size + 1, 0, none⟩ .nilIface).putObj (w.heap.size + 9) (.deferred none))) := by
        have gA := grown_set W3 ⟨w.heap.size, 0, none⟩ (.pointer (some ⟨w.heap.size + 1 + 1 + 1, 0, none⟩))
        have gB := grown_set (W3.setCell ⟨w.heap.size, 0, none⟩ (.pointer (some ⟨w.heap.size + 1 + 1 + 1, 0, none⟩))) ⟨w.heap.size + 1, 0, none⟩ .nilIface
        have gD := grownBy_putObj' ((W3.setCell ⟨w.heap.size, 0, none⟩ (.pointer (some ⟨w.heap.size + 1 + 1 + 1, 0, none⟩))).setCell ⟨w.heap.size + 1, 0, none⟩ .nilIface) (w.heap.size + 9) (.deferred none)
        have F4 : ∀ b, b < w.heap.size + 11 → b ≠ w.heap.size → b ≠ w.heap.size + 1 → ((W3.setCell ⟨w.heap.size, 0, none⟩ (.pointer (some ⟨w.heap.size + 1 + 1 + 1, 0, none⟩))).setCell ⟨w.heap.size + 1, 0, none⟩ .nilIface).heap[b]? = W3.heap[b]? := fun b hb h4 h5 => (gB.block b (by have := gA.size; omega) (fun q => h5 (by have := Option.some.inj q; omega))).trans (gA.block b (by omega) (fun q => h4 (by have := Option.some.inj q; omega)))
        have hd := (F4 (w.heap.size + 9) (by omega) (by omega) (by omega)).trans cd
        have b0' : Boxed ((W3.setCell ⟨w.heap.size, 0, none⟩ (.pointer (some ⟨w.heap.size + 1 + 1 + 1, 0, none⟩))).setCell ⟨w.heap.size + 1, 0, none⟩ .nilIface) w.heap.size 24 (.pointer (some ⟨w.heap.size + 1 + 1 + 1, 0, none⟩)) := (c0.set (.pointer (some ⟨w.heap.size + 1 + 1 + 1, 0, none⟩))).other (by omega) _
        have b1' : Boxed ((W3.setCell ⟨w.heap.size, 0, none⟩ (.pointer (some ⟨w.heap.size + 1 + 1 + 1, 0, none⟩))).setCell ⟨w.heap.size + 1, 0, none⟩ .nilIface) (w.heap.size + 1) 34 .nilIface := Boxed.set _ (c1.other (by omega) _)
        have PD : ∀ b, b ≠ w.heap.size + 9 → (((W3.setCell ⟨w.heap.size, 0, none⟩ (.pointer (some ⟨w.heap.size + 1 + 1 + 1, 0, none⟩))).setCell ⟨w.heap.size + 1, 0, none⟩ .nilIface).putObj (w.heap.size + 9) (.deferred none)).heap[b]? = ((W3.setCell ⟨w.heap.size, 0, none⟩ (.pointer (some ⟨w.heap.size + 1 + 1 + 1, 0, none⟩))).setCell ⟨w.heap.size + 1, 0, none⟩ .nilIface).heap[b]? := fun b hb => World.putObj_heap_other hb
        refine ⟨hd, (PD _ (by omega)).trans b0', (PD _ (by omega)).trans b1', ((q1'.grown (B := w.heap.size) gA (by omega) (by omega) (by omega)).grown (B := w.heap.size + 1) gB (by omega) (by omega) (by omega)).grown (B := w.heap.size + 9) gD (by omega) (by omega) (by omega), ?_⟩
        exact ⟨gD.os.trans (gB.os.trans (gA.os.trans bw3.os)), gD.tape.trans (gB.tape.trans (gA.tape.trans bw3.tape)), gD.output.trans (gB.output.trans (gA.output.trans bw3.output)), Nat.le_trans bw3.size (Nat.le_trans gA.size (Nat.le_trans gB.size gD.size)), fun b hb => (PD b (by omega)).trans ((F4 b (by omega) (by omega) (by omega)).trans (bw3.block b hb))⟩
      have d0 := c0.cell
      have e0 := c0.frozen
      have d1 := c1.cell
      have e1 := c1.frozen
      have d4 : W3.cell? ⟨w.heap.size + 1 + 1 + 1 + 1, 0, none⟩ = some (.pointer (some ⟨w.heap.size + 1 + 1 + 1, 0, none⟩)) := c4.cell
      clear q1 q3 q1' c0 c1 c4 cd bw3 gP PO b0 b1 b4 b5 b6 b7 b8 LN NW hrf
      gi_wp2
      obtain ⟨fd, fb0, fb1, fbk, fbw⟩ := FIN.out
      refine ⟨by simp, .inl ⟨_, _, rfl, run_takeDeferred fd, ?_⟩⟩
      have c0 := fb0.cell
      have c1 := fb1.cell
      refine ⟨.tuple #[.pointer (some ⟨w.heap.size + 1 + 1 + 1, 0, none⟩), .nilIface], ?_, w.heap.size + 11, w.heap.size + 1 + 1 + 1, rfl, by omega, w.heap.size + 2, ns.length, fbk, by omega, fbw⟩
      simp [results, Tryz.f10, go_sem, c0, c1]
    · exact hx.elim
end Go.Proofs.YtcaeafgkogfgdaaGreatDoor
