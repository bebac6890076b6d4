/- Names of commits: one act along the law's road; the closed fact. -/
import Derived.Test.YtcaeafgkogfgdaaGreatDoorRsHR
import Derived.Test.YtcaeafgkogfgdaaGreatDoorRaAK
import Derived.BigQuiet
import Derived.Deep.DeepCutAuto
import Derived.Test.YtcaeafgkogfgdaaGreatDoorRaAH
namespace Go.Proofs.YtcaeafgkogfgdaaGreatDoor
open Go Go.RowKit Go.Maps Go.Sort Go.Shelf Cal
attribute [local go_sem] Oper.semAt_some

theorem setK_zero {ns : List ByteArray} {L : ByteArray → List (Int × Int)} {nm : ByteArray} {old to_ at_ : Int} : setK ns L nm old to_ at_ = 0 ↔ okID nm ∧ ((0 ≤ at_ ∧ at_ ≤ 1099511627776) ∧ (0 ≤ to_ ∧ to_ ≤ 1099511627776)) ∧ (lst (L nm)).2 = max old (-1) ∧ (lst (L nm)).1 ≤ at_ ∧ ((lst (L nm)).2 = -1 → (lvs ns L).length < 20) := by
  unfold setK
  constructor
  · intro h
    split at h
    · cases h
    split at h
    · cases h
    split at h
    · cases h
    split at h
    · cases h
    split at h
    · cases h
    rename_i h1 h2 h3 h4 h5
    exact ⟨Classical.not_not.1 h1, Classical.not_not.1 h2, Classical.not_not.1 h3, by omega, fun q => by
      rcases Nat.lt_or_ge (lvs ns L).length 20 with z | z
      · exact z
      · exact absurd ⟨q, z⟩ h5⟩
  · rintro ⟨h1, h2, h3, h4, h5⟩
    rw [if_neg (fun q => q h1), if_neg (fun q => q h2), if_neg (fun q => q h3), if_neg (by omega), if_neg (fun q => by have := h5 q.1; omega)]
theorem dropK_zero {L : ByteArray → List (Int × Int)} {nm : ByteArray} {old at_ : Int} (h : dropK L nm old at_ = 0) : okID nm ∧ (0 ≤ at_ ∧ at_ ≤ 1099511627776) ∧ (lst (L nm)).1 ≤ at_ ∧ (lst (L nm)).2 ≠ -1 := by
  unfold dropK at h
  split at h
  · cases h
  split at h
  · cases h
  split at h
  · cases h
  split at h
  · cases h
  split at h
  · cases h
  rename_i h1 h2 h3 h4 h5
  exact ⟨Classical.not_not.1 h1, Classical.not_not.1 h2, by omega, h5⟩
/-- rows that are none of entries stay -/
def KeepS (W W' : World) : Prop := ∀ (b : Nat) (cur : Array Value) (T : TypeId), W.heap[b]? = some (Obj.cells cur T (0, 0)) → T ≠ 48 → W'.heap[b]? = some (Obj.cells cur T (0, 0))
theorem KeepS.below {W W' : World} (h : Below W.heap.size W W') : KeepS W W' := fun b _ _ hb _ => (h.block b (Array.getElem?_eq_some_iff.1 hb).1).trans hb
theorem KeepS.then {W W' W'' : World} (h : KeepS W W') (k : KeepS W' W'') : KeepS W W'' := fun b cur T hb ht => k b cur T (h b cur T hb ht) ht
theorem RowV.keptS {base : Nat} {W W' : World} {v : Value} {l : List ByteArray} (h : RowV base W v l) (hk : KeepS W W') : RowV base W' v l := by
  rcases h with h | ⟨B, cap, h1, h2, h3⟩
  · exact .inl h
  · obtain ⟨⟨cur, q1, q2, q3⟩, q4⟩ := h3
    exact .inr ⟨B, cap, h1, h2, ⟨cur, hk B cur _ q1 (by decide), q2, q3⟩, q4⟩
theorem ints_keptS {base n : Nat} {W W' : World} {v : Value} {xs : List Value} (h : W.ownsRow base 3 1 v n xs) (hk : KeepS W W') : W'.ownsRow base 3 1 v n xs := by
  obtain ⟨h1, h2⟩ := h
  refine ⟨h1, h2.imp id ?_⟩
  rintro ⟨g, cap, cur, q1, q2, q3, q4⟩
  exact ⟨g, cap, cur, q1, q2, hk g cur _ q3 (by decide), q4⟩
theorem rkept_below {lo mb : Nat} {w W W' : World} (h : RKept lo W W' mb) (hb : Below w.heap.size w W) (hl : w.heap.size ≤ lo) (hm : w.heap.size ≤ mb) : Below w.heap.size w W' := by
  obtain ⟨h1, h2, h3, h4, g, h5, h6⟩ := h
  have hbs := hb.size
  exact ⟨h1.trans hb.os, h2.trans hb.tape, h3.trans hb.output, Nat.le_trans hb.size h4, fun b q => (h6 b (by omega) (by omega) (fun z => by have := (h5 b z.symm).1; omega)).trans (hb.block b q)⟩
theorem RefsAt.mapBlk {lo rb mb n : Nat} {W : World} {ns : List ByteArray} {L : ByteArray → List (Int × Int)} (h : RefsAt lo W rb mb n ns L) : ∃ es c, W.heap[mb]? = some (.map es c) := by
  obtain ⟨D, vf, ⟨es, c, hb, _⟩, _⟩ := h.ex
  exact ⟨es, c, hb⟩
theorem keepS_rkept {lo rb mb n : Nat} {W W' : World} {ns : List ByteArray} {L : ByteArray → List (Int × Int)} (hr : RefsAt lo W rb mb n ns L) (h : RKept lo W W' mb) : KeepS W W' := fun b cur T hb ht => by
  obtain ⟨_, _, _, _, g, h5, h6⟩ := h
  obtain ⟨es, c, hm⟩ := hr.mapBlk
  refine (h6 b (Array.getElem?_eq_some_iff.1 hb).1 (fun q => ?_) (fun q => ?_)).trans hb
  · subst q; rw [hm] at hb; cases hb
  · obtain ⟨_, cur', z⟩ := h5 b q.symm
    rw [z] at hb
    cases hb
    exact ht rfl
/-- refs along the law's road: at most m entries and names so far -/
structure RSt (w W : World) (lo rb mb n : Nat) (ns : List ByteArray) (L : ByteArray → List (Int × Int)) (m : Nat) : Prop where
  r : RefsAt lo W rb mb n ns L
  wl : RW ns L
  n1 : n ≤ m
  n2 : ns.length ≤ m
  n3 : ∀ x, (L x).length ≤ m
  b : Below w.heap.size w W
  h1 : w.heap.size ≤ lo
  h2 : w.heap.size ≤ mb
theorem RSt.step {w W W' : World} {lo rb mb n m : Nat} {ns : List ByteArray} {L : ByteArray → List (Int × Int)} (h : RSt w W lo rb mb n ns L m) (hb : Below W.heap.size W W') : RSt w W' lo rb mb n ns L m := ⟨h.r.step hb, h.wl, h.n1, h.n2, h.n3, below_then h.b hb, h.h1, h.h2⟩
theorem RSt.more {w W : World} {lo rb mb n m : Nat} {ns : List ByteArray} {L : ByteArray → List (Int × Int)} (h : RSt w W lo rb mb n ns L m) : RSt w W lo rb mb n ns L (m + 1) := ⟨h.r, h.wl, by have := h.n1; omega, by have := h.n2; omega, fun x => by have := h.n3 x; omega, h.b, h.h1, h.h2⟩
theorem RSt.set {w W W' : World} {lo rb mb n m : Nat} {ns : List ByteArray} {L : ByteArray → List (Int × Int)} (h : RSt w W lo rb mb n ns L m) {nm : ByteArray} {e : Int × Int} (hs : SetTo lo rb mb n W ns L nm e W') (hok : okID nm) (h1 : EnB e) (h3 : (lst (L nm)).1 ≤ e.1) (h4 : e.2 = -1 → (lst (L nm)).2 ≠ -1) (h5 : (lst (L nm)).2 = -1 → (lvs ns L).length < 20) : RSt w W' lo rb mb (n + 1) (insN nm ns) (setL L nm e) (m + 1) :=
  ⟨hs.1, h.wl.add hok h1 h3 h4 h5, by have := h.n1; omega, Nat.le_trans (insN_len _ _) (by have := h.n2; omega), setL_len h.n3, rkept_below hs.2 h.b h.h1 h.h2, h.h1, h.h2⟩
theorem asOf_setL {L : ByteArray → List (Int × Int)} {nm : ByteArray} {e : Int × Int} {t : Int} (h : t < e.1) (x : ByteArray) : asOf (setL L nm e x) t = asOf (L x) t := by
  unfold setL
  split
  · exact asOf_snoc h
  · rfl
theorem okID_size {x : ByteArray} (h : okID x) : x.size ≤ 12 := h.2.2

theorem rset_st (w W : World) (lo rb mb n m : Nat) (ns : List ByteArray) (L : ByteArray → List (Int × Int)) (h : RSt w W lo rb mb n ns L m) (s : Nat → Addr) (g : GlobF s W) (hm : m ≤ 60) (nm : ByteArray) (old to_ at_ : Int) (hz : nm.size ≤ 60) :
    Calls Tryz.prog 8 #[.pointer (some ⟨rb, 0, none⟩), .string nm, .int .i64 old, .int .i64 to_, .int .i64 at_] W fun r w' => ∃ v n' ns' L', r = .returned v ∧ RSt w w' lo rb mb n' ns' L' (m + 1) ∧ (∀ x t, t < at_ → asOf (L' x) t = asOf (L x) t) ∧ KeepS W w' := by
  have a1 := h.n1
  have a2 := h.n2
  refine Calls.mono (rset_any lo rb mb n ns L nm old to_ at_ s W g h.r (by omega) (by omega) (fun x hx => by have := okID_size (h.wl.nm x hx); omega) (fun x => by have := h.n3 x; omega) (by omega) _ rfl) ?_
  rintro r w' ⟨rfl, ⟨_, hb⟩ | ⟨hk, hs⟩⟩
  · exact ⟨_, n, ns, L, rfl, (h.step hb).more, fun x t _ => rfl, KeepS.below hb⟩
  · obtain ⟨q1, q2, q3, q4, q5⟩ := setK_zero.1 hk
    exact ⟨_, _, _, _, rfl, h.set hs q1 ⟨q2.1.1, q2.1.2, by dsimp only; omega, q2.2.2⟩ q4 (fun z => by dsimp only at z; omega) q5, fun x t ht => asOf_setL ht x, keepS_rkept h.r hs.2⟩
theorem rdrop_st (w W : World) (lo rb mb n m : Nat) (ns : List ByteArray) (L : ByteArray → List (Int × Int)) (h : RSt w W lo rb mb n ns L m) (s : Nat → Addr) (g : GlobF s W) (hm : m ≤ 60) (nm : ByteArray) (old at_ : Int) (hz : nm.size ≤ 60) :
    Calls Tryz.prog 9 #[.pointer (some ⟨rb, 0, none⟩), .string nm, .int .i64 old, .int .i64 at_] W fun r w' => ∃ v n' ns' L', r = .returned v ∧ RSt w w' lo rb mb n' ns' L' (m + 1) ∧ (∀ x t, t < at_ → asOf (L' x) t = asOf (L x) t) ∧ KeepS W w' := by
  have a1 := h.n1
  refine Calls.mono (rdrop_any lo rb mb n ns L nm old at_ s W g h.r (by omega) (by omega) (fun x => by have := h.n3 x; omega) _ rfl) ?_
  rintro r w' ⟨rfl, ⟨_, hb⟩ | ⟨hk, hs⟩⟩
  · exact ⟨_, n, ns, L, rfl, (h.step hb).more, fun x t _ => rfl, KeepS.below hb⟩
  · obtain ⟨q1, q2, q4, q5⟩ := dropK_zero hk
    exact ⟨_, _, _, _, rfl, h.set hs q1 ⟨q2.1, q2.2, by dsimp only; omega, by dsimp only; omega⟩ q4 (fun _ => q5) (fun z => absurd z q5), fun x t ht => asOf_setL ht x, keepS_rkept h.r hs.2⟩
theorem rsnew_st (w : World) : Calls Tryz.prog 5 #[] w fun r w' => r = .returned (.pointer (some ⟨w.heap.size + 1, 0, none⟩)) ∧ RSt w w' (w.heap.size + 2) (w.heap.size + 1) w.heap.size 0 [] (fun _ => []) 0 ∧ Below w.heap.size w w' := by
  refine Calls.mono (rnew_any w) ?_
  rintro r w' ⟨rfl, rfl⟩
  have hb := below_then (below_alloc w (.map #[] 0)) (below_alloc _ (.cells #[.map (some w.heap.size)] 45))
  exact ⟨rfl, ⟨refs_made w, RW.none, Nat.le_refl _, Nat.le_refl _, fun _ => Nat.le_refl _, hb, by omega, Nat.le_refl _⟩, hb⟩
theorem rsnew_from (v w : World) (hv : Below v.heap.size v w) : Calls Tryz.prog 5 #[] w fun r w' => ∃ lo rb mb, r = .returned (.pointer (some ⟨rb, 0, none⟩)) ∧ RSt v w' lo rb mb 0 [] (fun _ => []) 0 ∧ Below w.heap.size w w' := by
  refine Calls.mono (rsnew_st w) ?_
  rintro r w' ⟨rfl, h, hb⟩
  have := hv.size
  exact ⟨_, _, _, rfl, ⟨h.r, h.wl, h.n1, h.n2, h.n3, below_then hv hb, by omega, by omega⟩, hb⟩
theorem as_st (w W : World) (lo rb mb n m : Nat) (ns : List ByteArray) (L : ByteArray → List (Int × Int)) (h : RSt w W lo rb mb n ns L m) (hm : m ≤ 60) (nm : ByteArray) (t : Int) (hz : nm.size ≤ 60) :
    Calls Tryz.prog 7 #[.pointer (some ⟨rb, 0, none⟩), .string nm, .int .i64 t] W fun r w' => r = .returned (.tuple #[.int .i64 (ofV (asOf (L nm) t)), .bool (!decide (asOf (L nm) t = -1))]) ∧ Below W.heap.size W w' :=
  as_any lo rb mb n ns L nm t W h.r (by omega) (by have := h.n3 nm; omega) (h.wl.en nm).up
theorem names_st (w W : World) (lo rb mb n m : Nat) (ns : List ByteArray) (L : ByteArray → List (Int × Int)) (h : RSt w W lo rb mb n ns L m) (hm : m ≤ 60) :
    Calls Tryz.prog 6 #[.pointer (some ⟨rb, 0, none⟩)] W fun r w' => ∃ v, r = .returned v ∧ RowV W.heap.size w' v (lvs ns L) ∧ Below W.heap.size W w' :=
  names_any lo rb mb n ns L W h.r (by have := h.n1; omega) (fun x hx => by have := okID_size (h.wl.nm x hx); omega) (fun x => by have := h.n3 x; omega) (by have := h.n2; omega)
theorem text_st (w W : World) (lo rb mb n m : Nat) (ns : List ByteArray) (L : ByteArray → List (Int × Int)) (h : RSt w W lo rb mb n ns L m) (hm : m ≤ 60) (ht : Tab W) :
    Calls Tryz.prog 11 #[.pointer (some ⟨rb, 0, none⟩)] W fun r w' => r = .returned (.string (bs (rfT ns L))) ∧ Below W.heap.size W w' :=
  rtext_any lo rb mb n ns L W ht h.r h.wl (by have := h.n1; omega) (by have := h.n2; omega) (fun x => by have := h.n3 x; omega)
theorem get_st (w W : World) (lo rb mb n m : Nat) (ns : List ByteArray) (L : ByteArray → List (Int × Int)) (h : RSt w W lo rb mb n ns L m) (hm : m ≤ 60) (nm : ByteArray) (hz : nm.size ≤ 60) :
    Calls Tryz.prog 13 #[.pointer (some ⟨rb, 0, none⟩), .string nm] W fun r w' => r = .returned (.tuple #[.int .i64 (ofV (lst (L nm)).2), .bool (!decide ((lst (L nm)).2 = -1))]) ∧ Below W.heap.size W w' :=
  rget_any lo rb mb n ns L nm W h.r (by omega) (by have := h.n3 nm; omega)

theorem okA : okID ⟨#[97]⟩ := ⟨fun j h => by
  have : j = 0 := by have h' : j < 1 := h; omega
  subst this
  show okc (97 : UInt8)
  exact .inl ⟨by decide, by decide⟩, by decide, by decide⟩
/-- the closed fact's entries -/
def L1a : ByteArray → List (Int × Int) := setL (fun _ => []) ⟨#[97]⟩ (5, 3)
def L2a : ByteArray → List (Int × Int) := setL L1a ⟨#[97]⟩ (7, 4)
theorem L1a_at : L1a ⟨#[97]⟩ = [(5, 3)] := by unfold L1a; rw [setL_same]; rfl
theorem L2a_at : L2a ⟨#[97]⟩ = [(5, 3), (7, 4)] := by unfold L2a; rw [setL_same, L1a_at]; rfl
theorem itoa_dig (u : Nat) (h : u < 10) : Lib.itoa (u : Int) = [UInt8.ofNat (48 + u)] := by
  rw [Lib.itoa_nonneg]
  unfold Lib.decDigits
  simp [h]
theorem rfT_a : rfT [⟨#[97]⟩] L2a = [97, 32, 53, 58, 51, 32, 55, 58, 52, 10] := by
  unfold rfT rln
  rw [List.flatMap_cons, List.flatMap_nil, L2a_at]
  have i5 : Lib.itoa 5 = [53] := itoa_dig 5 (by decide)
  have i3 : Lib.itoa 3 = [51] := itoa_dig 3 (by decide)
  have i7 : Lib.itoa 7 = [55] := itoa_dig 7 (by decide)
  have i4 : Lib.itoa 4 = [52] := itoa_dig 4 (by decide)
  simp [logT, entT, i5, i3, i7, i4]
end Go.Proofs.YtcaeafgkogfgdaaGreatDoor

/- The document's IsInTexts and SameTexts. -/
namespace Go.Proofs.YtcaeafgkogfgdaaGreatDoor
open Go Go.RowKit Go.Maps Go.Sort Cal
attribute [local go_sem] Oper.semAt_some

/-- a list of texts, to be read -/
def Txs (W : World) (v : Value) (l : List ByteArray) : Prop :=
  ∃ (a : Option Addr) (c : Nat), v = .slice a l.length c ∧ l.length ≤ 80000 ∧ l.length ≤ c ∧
    ∀ (j : Nat) (h : j < l.length), ∃ b : Nat, a = some ⟨b, 0, none⟩ ∧ b < W.heap.size ∧ W.cell? ⟨b, j, none⟩ = some (.string l[j])
theorem Txs.step {w w' : World} {sl : Value} {xs : List ByteArray} (h : Txs w sl xs) (hb : Below w.heap.size w w') : Txs w' sl xs := by
  obtain ⟨a, c, h1, h2, h3, h4⟩ := h
  refine ⟨a, c, h1, h2, h3, fun j hj => ?_⟩
  obtain ⟨b, e, hl, hc⟩ := h4 j hj
  exact ⟨b, e, Nat.lt_of_lt_of_le hl hb.size, (hb.cell (p := ⟨b, j, none⟩) hl).trans hc⟩
theorem RowV.txs {base : Nat} {W : World} {v : Value} {l : List ByteArray} (h : RowV base W v l) (h8 : l.length ≤ 80000) : Txs W v l := by
  rcases h with ⟨rfl, rfl⟩ | ⟨B, cap, rfl, _, h3⟩
  · exact ⟨none, 0, rfl, by simp, by simp, fun j h => absurd h (by simp)⟩
  · exact ⟨_, cap, rfl, h8, h3.le, fun j hj => ⟨B, rfl, h3.lt, h3.cell j hj⟩⟩

theorem txt_ne {x y : ByteArray} (h : y ≠ x) : (y.toList == x.toList) = false := by
  rw [beq_eq_false_iff_ne, ByteArray.toList_eq, ByteArray.toList_eq]
  intro e
  apply h
  cases x; cases y
  simpa [Array.toList_inj] using e

theorem sameTexts_0 (a b : Option Addr) (ca cb : Nat) (w : World) :
    Calls Tryz.prog 12 #[.slice a 0 ca, .slice b 0 cb] w fun e w' => e = .returned (.bool true) ∧ Below w.heap.size w w' := by
  go_enter Tryz.func12, Tryz.ntmps12
  go_wp2
  go_loop [5] (fun i => i = .int .i64 0) (fun _ => 0)
  case atStart => rfl
  case round =>
    subst hrel
    go_wp2
    go_ret
    exact ⟨rfl, Below.refl _ _⟩
theorem sameTexts_1 (ba bb n ca cb : Nat) (z : Nat → ByteArray) (w : World) (hn : n ≤ 100000) (ha : ∀ i, i < n → w.cell? ⟨ba, i, none⟩ = some (.string (z i))) (hb : ∀ i, i < n → w.cell? ⟨bb, i, none⟩ = some (.string (z i))) :
    Calls Tryz.prog 12 #[.slice (some ⟨ba, 0, none⟩) n ca, .slice (some ⟨bb, 0, none⟩) n cb] w fun e w' => e = .returned (.bool true) ∧ Below w.heap.size w w' := by
  have HA : Hid (∀ i, i < n → w.cell? ⟨ba, i, none⟩ = some (.string (z i))) := ha
  have HB : Hid (∀ i, i < n → w.cell? ⟨bb, i, none⟩ = some (.string (z i))) := hb
  clear ha hb
  go_enter Tryz.func12, Tryz.ntmps12
  go_wp2
  go_loopw [5] (fun i wr => ∃ k q : Nat, k ≤ n ∧ i = .int .i64 k ∧ wr = w.drewN q) (fun i _ => n - (intOf i).toNat)
  case atStart => exact ⟨0, 0, Nat.zero_le _, rfl, rfl⟩
  case round =>
    obtain ⟨k, q, hk, rfl, rfl⟩ := hrel
    by_cases hlt : k < n
    · have h1 := HA.out k hlt
      have h2 := HB.out k hlt
      go_wp2
      go_quiet (fail)
      go_wp2
      go_roundw
      case rel => exact ⟨k + 1, _, by omega, by go_num, rfl⟩
      case measure => simp [intOf]; omega
    · go_wp2
      go_ret
      exact ⟨rfl, drewN_below _ _⟩
theorem sameTexts_eq {W : World} {v1 v2 : Value} {l : List ByteArray} (h1 : Txs W v1 l) (h2 : Txs W v2 l) : Calls Tryz.prog 12 #[v1, v2] W fun e w' => e = .returned (.bool true) ∧ Below W.heap.size W w' := by
  obtain ⟨a1, c1, rfl, h8, _, hc1⟩ := h1
  obtain ⟨a2, c2, rfl, _, _, hc2⟩ := h2
  by_cases h0 : l.length = 0
  · rw [h0]; exact sameTexts_0 a1 a2 c1 c2 W
  · obtain ⟨b1, rfl, _⟩ := hc1 0 (by omega)
    obtain ⟨b2, rfl, _⟩ := hc2 0 (by omega)
    refine sameTexts_1 b1 b2 l.length c1 c2 (fun i => l.getD i ⟨#[]⟩) W (by omega) (fun i hi => ?_) (fun i hi => ?_)
    · obtain ⟨b, e, _, hc⟩ := hc1 i hi
      cases e
      rw [hc, List.getD_eq_getElem?_getD, List.getElem?_eq_getElem hi]; rfl
    · obtain ⟨b, e, _, hc⟩ := hc2 i hi
      cases e
      rw [hc, List.getD_eq_getElem?_getD, List.getElem?_eq_getElem hi]; rfl

end Go.Proofs.YtcaeafgkogfgdaaGreatDoor

/- The law's booked: the closed calendar. -/
namespace Go.Proofs.YtcaeafgkogfgdaaGreatDoor
open Go Go.RowKit Go.Maps Go.Sort Cal
attribute [local go_sem] Oper.semAt_some

def E7 : EV := ⟨⟨#[97]⟩, ⟨#[]⟩, 7, 1, ⟨#[111, 110, 99, 101]⟩, 1, [], 0, -1, [], []⟩
theorem E7_well : EW E7 := by
  refine ⟨⟨fun j h => ?_, by decide, by decide⟩, ⟨fun j h => ?_, by decide⟩, ⟨by decide, by decide⟩, E0_rule, by decide⟩
  · have h' : j < 1 := h
    match j, h' with
    | 0, _ => show okc 97; left; decide
  · exact absurd h (Nat.not_lt_zero _)
theorem E7_days (x : Int) : x ∈ dys E7 ↔ x = 7 := by
  unfold dys
  show x ∈ cut 0 (-1) (cds (⟨#[111, 110, 99, 101]⟩ : ByteArray).toList 7 1 []) ↔ _
  rw [cut_none, ByteArray.toList_eq]
  unfold cds
  rw [mem_From]
  have : cnd [111, 110, 99, 101] 7 1 [] = fun d => decide (d = 7) := by
    unfold cnd
    rw [if_neg (by decide), if_neg (by decide), if_neg (by decide), if_neg (by decide)]
  show _ ∧ _ ∧ cnd [111, 110, 99, 101] 7 1 [] x = true ↔ _
  rw [this, decide_eq_true_iff]
  omega
theorem E7_on : covers E7 7 := by
  refine ⟨by decide, E7_well, ?_⟩
  have : (7 : Int) ∈ eds E7 (7 - E7.lg + 1) 7 := mem_evs.2 ⟨by decide, by decide, by decide, by decide, 7, (E7_days 7).2 rfl, by simp [E7], rfl⟩
  exact List.ne_nil_of_mem this
theorem E7_off : ¬ covers E7 8 := by
  rintro ⟨_, _, h⟩
  obtain ⟨x, hx⟩ := List.exists_mem_of_ne_nil _ h
  obtain ⟨_, _, h1, h2, y, hy, _, e⟩ := mem_evs.1 hx
  have hy' := (E7_days y).1 hy
  have e' : y = x := e
  have h1' : (8 : Int) - 1 + 1 ≤ x := h1
  omega
def Z0 : EV := ⟨⟨#[]⟩, ⟨#[]⟩, 0, 0, ⟨#[]⟩, 0, [], 0, 0, [], []⟩
theorem E7_k : EvK E7 0 := by
  obtain ⟨k, hk⟩ := evK_ex E7
  have := (evK_0 hk).2 E7_well
  rwa [this] at hk
theorem kept_from {w W w' : World} {bb : Nat} {mo : Option Nat} (hb : Below w.heap.size w W) (h : Kept W w' bb mo) : Kept w w' bb mo :=
  ⟨h.os.trans hb.os, h.tape.trans hb.tape, h.output.trans hb.output, Nat.le_trans hb.size h.size, fun k hk h1 h2 => (h.block k (Nat.lt_of_lt_of_le hk hb.size) h1 h2).trans (hb.block k hk)⟩
theorem nilLs (w : World) : Ls w E7 (.slice none 0 0) (.slice none 0 0) (.slice none 0 0) := ⟨Days.nil _ _, Ints.nil _ _, Movs.nil _ _⟩
end Go.Proofs.YtcaeafgkogfgdaaGreatDoor

/- The law's booked. -/
namespace Go.Proofs.YtcaeafgkogfgdaaGreatDoor
open Go Go.RowKit Go.Maps Go.Sort Cal
attribute [local go_sem] Oper.semAt_some

/-- the closed calendar's map -/
def D7 (sl skv mvv : Value) : DataW Value := DataW.put (.map []) (key ⟨#[97]⟩) (.held (ev E7 sl skv mvv))
theorem D7_eq (sl skv mvv : Value) : D7 sl skv mvv = .map [(key ⟨#[97]⟩, .held (ev E7 sl skv mvv))] := rfl
theorem D7_keys (sl skv mvv : Value) : strKeys (D7 sl skv mvv) = [[97]] := rfl
theorem D7_at (sl skv mvv : Value) : (D7 sl skv mvv).atKey (key ⟨#[97]⟩) (.held zV) = .held (ev E7 sl skv mvv) := rfl
theorem D7_has (sl skv mvv : Value) : Maps.has (D7 sl skv mvv) (key ⟨#[97]⟩) = true := rfl
theorem off_ls {N : Nat → Prop} {W : World} {sl skv mvv : Value} (h : Off N W E7 sl skv mvv) : Ls W E7 sl skv mvv := ⟨ints_days h.d.ints (by decide), h.s.ints, h.m.movs⟩
theorem D7_holds {W : World} {sl skv mvv : Value} (h : Ls W E7 sl skv mvv) (d : Int) (b : Bool) (hb : b = true ↔ covers E7 d) : Holds60 W (D7 sl skv mvv) d (fun _ => b) := by
  intro k hk
  rw [D7_keys] at hk
  have hk' : k = [97] := List.mem_singleton.1 hk
  subst hk'
  exact ⟨E7, sl, skv, mvv, rfl, h, by decide, by decide, by decide, hb⟩
theorem kept_cell {w w' : World} {bb : Nat} (h : Kept w w' bb none) {b o : Nat} {v : Value} (hc : w.cell? ⟨b, o, none⟩ = some v) (hne : b ≠ bb) : w'.cell? ⟨b, o, none⟩ = some v :=
  (World.cell?_of_block (a := ⟨b, o, none⟩) (h.block b (lt_of_cell hc) hne (by simp))).trans hc

theorem txs_new (w : World) : Txs (w.alloc (.cells #[.string ⟨#[97]⟩] 9)) (.slice (some ⟨w.heap.size, 0, none⟩) 1 1) [⟨#[97]⟩] := by
  refine ⟨_, 1, rfl, by decide, by decide, fun j hj => ⟨w.heap.size, rfl, by rw [World.size_alloc]; omega, ?_⟩⟩
  have hj' : j < 1 := hj
  match j, hj' with
  | 0, _ => exact cell_of (block_at (W := w) (.cells #[.string ⟨#[97]⟩] 9) rfl)

end Go.Proofs.YtcaeafgkogfgdaaGreatDoor

/- A list of events as an argument; the law's LongEvents. -/
namespace Go.Proofs.YtcaeafgkogfgdaaGreatDoor
open Go Go.RowKit Go.Maps Cal
attribute [local go_sem] Oper.semAt_some

/-- an event's eleven cells, from place o of block b on -/
structure EvAt (W : World) (b o : Nat) (E : EV) (sl skv mvv : Value) : Prop where
  c0 : W.cell? ⟨b, o, none⟩ = some (.string E.id)
  c1 : W.cell? ⟨b, o + 1, none⟩ = some (.string E.ti)
  c2 : W.cell? ⟨b, o + 2, none⟩ = some (.int .i64 E.st)
  c3 : W.cell? ⟨b, o + 3, none⟩ = some (.int .i64 E.lg)
  c4 : W.cell? ⟨b, o + 4, none⟩ = some (.string E.f)
  c5 : W.cell? ⟨b, o + 5, none⟩ = some (.int .i64 E.e)
  c6 : W.cell? ⟨b, o + 6, none⟩ = some sl
  c7 : W.cell? ⟨b, o + 7, none⟩ = some (.int .i64 E.c)
  c8 : W.cell? ⟨b, o + 8, none⟩ = some (.int .i64 E.u)
  c9 : W.cell? ⟨b, o + 9, none⟩ = some skv
  c10 : W.cell? ⟨b, o + 10, none⟩ = some mvv
theorem EvAt.step {W W' : World} {b o : Nat} {E : EV} {sl skv mvv : Value} (h : EvAt W b o E sl skv mvv) (hb : Below W.heap.size W W') : EvAt W' b o E sl skv mvv :=
  ⟨cell_step h.c0 hb, cell_step h.c1 hb, cell_step h.c2 hb, cell_step h.c3 hb, cell_step h.c4 hb, cell_step h.c5 hb, cell_step h.c6 hb, cell_step h.c7 hb, cell_step h.c8 hb, cell_step h.c9 hb, cell_step h.c10 hb⟩
/-- an event's eleven cells, from any address on -/
structure EvA (W : World) (A : Addr) (E : EV) (sl skv mvv : Value) : Prop where
  c0 : W.cell? A = some (.string E.id)
  c1 : W.cell? ⟨A.block, A.off + 1, none⟩ = some (.string E.ti)
  c2 : W.cell? ⟨A.block, A.off + 2, none⟩ = some (.int .i64 E.st)
  c3 : W.cell? ⟨A.block, A.off + 3, none⟩ = some (.int .i64 E.lg)
  c4 : W.cell? ⟨A.block, A.off + 4, none⟩ = some (.string E.f)
  c5 : W.cell? ⟨A.block, A.off + 5, none⟩ = some (.int .i64 E.e)
  c6 : W.cell? ⟨A.block, A.off + 6, none⟩ = some sl
  c7 : W.cell? ⟨A.block, A.off + 7, none⟩ = some (.int .i64 E.c)
  c8 : W.cell? ⟨A.block, A.off + 8, none⟩ = some (.int .i64 E.u)
  c9 : W.cell? ⟨A.block, A.off + 9, none⟩ = some skv
  c10 : W.cell? ⟨A.block, A.off + 10, none⟩ = some mvv
theorem cellA_lt {W : World} {A : Addr} {u : Value} (h : W.cell? A = some u) : A.block < W.heap.size := by
  rcases Nat.lt_or_ge A.block W.heap.size with q | q
  · exact q
  · simp [World.cell?, Array.getElem?_eq_none q] at h
theorem cellA_step {W W' : World} {A : Addr} {u : Value} (h : W.cell? A = some u) (hb : Below W.heap.size W W') : W'.cell? A = some u := (World.cell?_of_block (a := A) (hb.block _ (cellA_lt h))).trans h
theorem EvA.step {W W' : World} {A : Addr} {E : EV} {sl skv mvv : Value} (h : EvA W A E sl skv mvv) (hb : Below W.heap.size W W') : EvA W' A E sl skv mvv :=
  ⟨cellA_step h.c0 hb, cellA_step h.c1 hb, cellA_step h.c2 hb, cellA_step h.c3 hb, cellA_step h.c4 hb, cellA_step h.c5 hb, cellA_step h.c6 hb, cellA_step h.c7 hb, cellA_step h.c8 hb, cellA_step h.c9 hb, cellA_step h.c10 hb⟩
/-- a list of events that was handed over: their lists may be as long as they are -/
def EvsL (W : World) (v : Value) (Es : List EV) : Prop :=
  ∃ (a : Option Addr) (c : Nat), v = .slice a Es.length c ∧ Es.length ≤ 1000000000000000 ∧ Es.length ≤ c ∧
    ∀ (j : Nat) (h : j < Es.length), ∃ ad : Addr, a = some ad ∧ Es[j].sk.length ≤ 1000000000000000 ∧ Es[j].mv.length ≤ 1000000000000000 ∧ Es[j].ti.size ≤ 1000000000000000 ∧ ∃ ra rc sa sc ma mc, EvA W (ad.add (j * 11)) Es[j] (.slice ra Es[j].ds.length rc) (.slice sa Es[j].sk.length sc) (.slice ma Es[j].mv.length mc) ∧
      Got W (.slice ra Es[j].ds.length rc) Es[j].ds ∧ Got W (.slice sa Es[j].sk.length sc) Es[j].sk ∧ GotM W (.slice ma Es[j].mv.length mc) Es[j].mv
theorem EvsL.step {W W' : World} {v : Value} {Es : List EV} (h : EvsL W v Es) (hb : Below W.heap.size W W') : EvsL W' v Es := by
  obtain ⟨a, c, h1, h2, h3, h4⟩ := h
  refine ⟨a, c, h1, h2, h3, fun j hj => ?_⟩
  obtain ⟨ad, q1, q2, q3, q4, ra, rc, sa, sc, ma, mc, q5, q6, q7, q8⟩ := h4 j hj
  exact ⟨ad, q1, q2, q3, q4, ra, rc, sa, sc, ma, mc, q5.step hb, q6.step hb, q7.step hb, q8.step hb⟩

theorem lng_01 (E : EV) : lngE E = 0 ∨ lngE E = 1 := by
  unfold lngE
  split
  · exact .inr rfl
  · exact .inl rfl

end Go.Proofs.YtcaeafgkogfgdaaGreatDoor
