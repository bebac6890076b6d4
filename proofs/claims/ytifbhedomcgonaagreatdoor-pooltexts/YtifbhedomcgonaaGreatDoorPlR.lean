/- Package pool's Read, of any text. -/
import Derived.Test.YtifbhedomcgonaaGreatDoorPlC
import Derived.Test.YtifbhedomcgonaaGreatDoorPlT
namespace Go.Proofs.YtifbhedomcgonaaGreatDoor
open Go Go.RowKit Go.Maps Cal
attribute [local go_sem] Oper.semAt_some

/-- is a text one of these? -/
def memB (x : ByteArray) (ts : List ByteArray) : Bool := ts.any fun t => t.data.toList == x.data.toList
theorem memB_iff (x : ByteArray) (ts : List ByteArray) : memB x ts = true ↔ x ∈ ts := by
  unfold memB
  rw [List.any_eq_true]
  constructor
  · rintro ⟨t, ht, q⟩
    rw [← pl_ext (beq_iff_eq.1 q)]; exact ht
  · intro h; exact ⟨x, h, beq_iff_eq.2 rfl⟩
/-- what is read of a text: the texts; or which error, and where (fuel: the text's length) -/
def rdF : Nat → List ByteArray → List UInt8 → Option (List ByteArray) × Nat × Nat
  | 0, ts, _ => (some ts, 0, 0)
  | f + 1, ts, l =>
    if l = [] then (some ts, 0, 0) else
    if (cutK l).1 ≠ 0 then (none, (cutK l).1, ts.length) else
    if memB (bs (cutK l).2.1) ts = true then (none, 3, ts.length) else
    if 1000 ≤ ts.length then (none, 4, ts.length) else rdF f (ts ++ [bs (cutK l).2.1]) (cutK l).2.2
theorem cutK_ok {l : List UInt8} (h : (cutK l).1 = 0) : (cutK l).2.2.length < l.length ∧ (cutK l).2.1.length ≤ 10000 := by
  unfold cutK at h ⊢
  split at h
  · cases h
  · rename_i hi
    split at h
    · cases h
    · rename_i n hn
      obtain ⟨_, _, hn0, _⟩ := numOf_some hn
      split at h
      · cases h
      · rename_i h1
        split at h
        · cases h
        · rename_i h2
          split at h
          · rename_i h3
            rw [if_neg hi, if_neg h1, if_neg h2, if_pos h3]
            have hl := (List.getElem?_eq_some_iff.1 h3).1
            simp only [List.length_take, List.length_drop] at hl ⊢
            omega
          · cases h
theorem cutK_code (l : List UInt8) : (cutK l).1 = 0 ∨ (cutK l).1 = 1 ∨ (cutK l).1 = 2 := by
  unfold cutK
  split
  · simp
  · split
    · simp
    · split
      · simp
      · split
        · simp
        · split <;> simp
theorem rdF_fuel : ∀ (f : Nat) (ts : List ByteArray) (l : List UInt8) (k : Nat), l.length ≤ f → l.length ≤ k → rdF f ts l = rdF k ts l
  | 0, ts, l, k, h, _ => by
    have : l = [] := List.length_eq_zero_iff.1 (by omega)
    subst this
    cases k <;> simp [rdF]
  | f + 1, ts, l, 0, _, h => by
    have : l = [] := List.length_eq_zero_iff.1 (by omega)
    subst this
    simp [rdF]
  | f + 1, ts, l, k + 1, h1, h2 => by
    unfold rdF
    by_cases h0 : l = []
    · rw [if_pos h0, if_pos h0]
    · rw [if_neg h0, if_neg h0]
      by_cases hc : (cutK l).1 = 0
      · have hcc : ¬ ((cutK l).1 ≠ 0) := fun q => q hc
        rw [if_neg hcc, if_neg hcc]
        have := (cutK_ok hc).1
        rw [rdF_fuel f (ts ++ [bs (cutK l).2.1]) (cutK l).2.2 k (by omega) (by omega)]
      · rw [if_pos hc, if_pos hc]
def rd (ts : List ByteArray) (l : List UInt8) : Option (List ByteArray) × Nat × Nat := rdF l.length ts l
theorem rd_nil (ts : List ByteArray) : rd ts [] = (some ts, 0, 0) := rfl
theorem rd_step (ts : List ByteArray) {l : List UInt8} (h : l ≠ []) : rd ts l =
    if (cutK l).1 ≠ 0 then (none, (cutK l).1, ts.length) else
    if memB (bs (cutK l).2.1) ts = true then (none, 3, ts.length) else
    if 1000 ≤ ts.length then (none, 4, ts.length) else rd (ts ++ [bs (cutK l).2.1]) (cutK l).2.2 := by
  unfold rd
  cases l with
  | nil => exact absurd rfl h
  | cons a r =>
    show rdF (r.length + 1) ts (a :: r) = _
    conv => lhs; unfold rdF
    rw [if_neg h]
    by_cases hc : (cutK (a :: r)).1 = 0
    · have hcc : ¬ ((cutK (a :: r)).1 ≠ 0) := fun q => q hc
      rw [if_neg hcc, if_neg hcc]
      have := (cutK_ok hc).1
      rw [rdF_fuel r.length (ts ++ [bs (cutK (a :: r)).2.1]) (cutK (a :: r)).2.2 _ (by simp at this; omega) (Nat.le_refl _)]
    · rw [if_pos hc, if_pos hc]

theorem index_after {a r : List UInt8} {c : UInt8} (h : c ∉ a) : Lib.indexByte (a ++ c :: r) c = a.length := by
  induction a with
  | nil => simp [Lib.indexByte]
  | cons x a ih =>
    have h1 : x ≠ c := fun e => h (by rw [e]; exact List.mem_cons_self)
    have h2 := ih (fun q => h (List.mem_cons_of_mem _ q))
    show (if x == c then (0 : Int) else if Lib.indexByte (a ++ c :: r) c == -1 then -1 else Lib.indexByte (a ++ c :: r) c + 1) = _
    rw [h2, if_neg (by simpa using h1), if_neg (by simp)]
    simp
theorem cutK_text (t : ByteArray) (r : List UInt8) (h : t.size ≤ 10000) : cutK (Lib.itoa t.size ++ [58] ++ t.data.toList ++ [10] ++ r) = (0, t.data.toList, r) := by
  have e : Lib.itoa (t.size : Int) ++ [58] ++ t.data.toList ++ [10] ++ r = Lib.itoa (t.size : Int) ++ 58 :: (t.data.toList ++ 10 :: r) := by simp
  have hno : (58 : UInt8) ∉ Lib.itoa (t.size : Int) := fun q => by have := itoa_digs (t.size : Int) (by omega) _ q; revert this; decide
  have hi := index_after (r := t.data.toList ++ 10 :: r) hno
  have hl : t.data.toList.length = t.size := (Lib.size_eq t).symm
  unfold cutK
  rw [e, hi, if_neg (by omega), Int.toNat_natCast, List.take_left, numOf_itoa _ (by omega) (by omega)]
  dsimp only
  have hd : (Lib.itoa (t.size : Int) ++ 58 :: (t.data.toList ++ 10 :: r)).drop ((Lib.itoa (t.size : Int)).length + 1) = t.data.toList ++ 10 :: r := by
    rw [← List.drop_drop, List.drop_left]
    rfl
  rw [hd, if_neg (by omega), if_neg (by rw [List.length_append]; omega), Int.toNat_natCast, if_pos]
  · rw [← hl, List.take_left, ← List.drop_drop, List.drop_left]
    rfl
  · rw [← hl, List.getElem?_append_right (Nat.le_refl _), Nat.sub_self]
    rfl
theorem rd_text : ∀ (ts ss : List ByteArray), (∀ t ∈ ts, t.size ≤ 10000) → ts.Nodup → (∀ t ∈ ts, t ∉ ss) → ss.length + ts.length ≤ 1000 → rd ss (plT ts) = (some (ss ++ ts), 0, 0)
  | [], ss, _, _, _, _ => by rw [List.append_nil]; rfl
  | t :: ts, ss, hz, hn, hd, hl => by
    have hne : plT (t :: ts) ≠ [] := by rw [plT_cons]; simp
    have hc := cutK_text t (plT ts) (hz t List.mem_cons_self)
    have hbt : bs t.data.toList = t := pl_ext (bs_data _)
    obtain ⟨hn1, hn2⟩ := List.nodup_cons.1 hn
    rw [rd_step _ hne, plT_cons, hc, if_neg (fun q => q rfl), hbt, if_neg (fun q => hd t List.mem_cons_self ((memB_iff _ _).1 q)), if_neg (by simp at hl; omega), rd_text ts (ss ++ [t]) (fun x hx => hz x (List.mem_cons_of_mem _ hx)) hn2 ?_ (by simp at hl ⊢; omega), List.append_assoc]
    · rfl
    · intro x hx q
      rcases List.mem_append.1 q with q | q
      · exact hd x (List.mem_cons_of_mem _ hx) q
      · rw [List.mem_singleton.1 q] at hx; exact hn1 hx

def strLen : Value → Nat
  | .string s => s.size
  | _ => 0
theorem pempty {s : ByteArray} (h : s ≠ ⟨#[]⟩) : s.toList.isEmpty = false ∧ s.data.toList ≠ [] := by
  have : s.data.toList ≠ [] := fun q => h (pl_ext q)
  refine ⟨?_, this⟩
  rw [ByteArray.toList_eq]
  cases h2 : s.data.toList with
  | nil => exact absurd h2 this
  | cons _ _ => rfl
theorem PKept.below {w0 w w' : World} {lo pb mb : Nat} {tv : Value} {ts : List ByteArray} (h : PKept w w' pb mb tv) (hp : PoolAt lo w pb mb tv ts) (hb : Below w0.heap.size w0 w) (h1 : w0.heap.size ≤ pb) (h2 : w0.heap.size ≤ mb) (h3 : w0.heap.size ≤ lo) : Below w0.heap.size w0 w' :=
  ⟨h.os.trans hb.os, h.tape.trans hb.tape, h.output.trans hb.output, Nat.le_trans hb.size h.size, fun k hk => (h.block k (Nat.lt_of_lt_of_le hk hb.size) (by omega) (by omega) (fun q => by have := (World.ownsRow.lt hp.row k q).1; omega)).trans (hb.block k hk)⟩

/-- what Read answers -/
def ReadIs (sn : Nat → Addr) (w : World) (s : ByteArray) (r : Ending) (w' : World) : Prop :=
  (∃ ts lo pb mb tv, rd [] s.data.toList = (some ts, 0, 0) ∧ r = .returned (.tuple #[.pointer (some ⟨pb, 0, none⟩), .nilIface]) ∧ PoolAt lo w' pb mb tv ts ∧ w.heap.size ≤ pb ∧ (∀ t ∈ ts, t.size ≤ 10000) ∧ ts.length ≤ 1000) ∨
  (∃ k n fb, rd [] s.data.toList = (none, k, n) ∧ 1 ≤ k ∧ k ≤ 4 ∧ n ≤ 1000 ∧ r = .returned (.tuple #[.pointer none, .iface 70 (.pointer (some ⟨fb, 0, none⟩))]) ∧ w.heap.size ≤ fb ∧ w'.heap[fb]? = some (.cells #[.int .i64 n, perr sn k] 74 (0, 0)))

theorem readBy_long (s : ByteArray) (f : Value) (sn : Nat → Addr) (w : World) (g : GlobP sn w) (hl : 1048576 < s.size) :
    Calls Tryz.prog 26 #[.string s, f] w fun r w' => r = .returned (.tuple #[.pointer none, perr sn 2]) ∧ Below w.heap.size w w' := by
  have hB := g.bound
  have hl' : (1048576 : Int) < (s.size : Int) := by omega
  clear g
  go_enter Tryz.func26, Tryz.ntmps26
  go_wp2
  go_quiet (fail)
  go_wp2
  go_ret2
  exact ⟨rfl, pl_drew _ _⟩
theorem pread_long (s : ByteArray) (sn : Nat → Addr) (w : World) (g : GlobP sn w) (hl : 1048576 < s.size) :
    Calls Tryz.prog 16 #[.string s] w fun r w' => r = .returned (.tuple #[.pointer none, perr sn 2]) ∧ Below w.heap.size w w' := by
  have R : Hid (Calls _ _ _ _ _) := readBy_long s (.func (.func 27) #[] #[]) sn w g hl
  clear g hl
  unfold perr at R ⊢
  go_enter Tryz.func16, Tryz.ntmps16
  go_wp2_with (go_at_call 26; refine Calls.mono R.out ?_; rintro r w1 ⟨rfl, hb1⟩)
  go_ret2
  exact ⟨rfl, hb1⟩
theorem preadF_any (p : Option Addr) (s : ByteArray) (sn : Nat → Addr) (w : World) (g : GlobP sn w) (gn : GlobN w) (hl : s.size ≤ 2000000) :
    Calls Tryz.prog 27 #[.pointer p, .string s] w fun r w' => r = .returned (.tuple #[.string (bs (cutK s.data.toList).2.1), .string (bs (cutK s.data.toList).2.2), cutE sn (cutK s.data.toList).1]) ∧ Below w.heap.size w w' := by
  have C : Hid (Calls _ _ _ _ _) := cutText_any s sn w g gn hl
  clear g gn hl
  have hv : ∃ t v, cutE sn (cutK s.data.toList).1 = .iface t v ∨ cutE sn (cutK s.data.toList).1 = .nilIface := by
    unfold cutE
    split
    · exact ⟨0, .nilIface, .inr rfl⟩
    · exact ⟨_, _, .inl rfl⟩
  obtain ⟨t, v, hv⟩ := hv
  generalize cutE sn (cutK s.data.toList).1 = e at C hv ⊢
  generalize bs (cutK s.data.toList).2.1 = x at C ⊢
  generalize bs (cutK s.data.toList).2.2 = y at C ⊢
  rcases hv with rfl | rfl <;>
  · go_enter Tryz.func27, Tryz.ntmps27
    go_wp2_with (go_at_call 28; refine Calls.mono C.out ?_; rintro r w1 ⟨rfl, hb1⟩)
    go_ret3
    exact ⟨rfl, hb1⟩

set_option maxHeartbeats 1000000 in
set_option maxRecDepth 100000 in
theorem readBy_pl (s : ByteArray) (sn : Nat → Addr) (w : World) (g : GlobP sn w) (gn : GlobN w) (hl : s.size ≤ 1048576) :
    Calls Tryz.prog 26 #[.string s, .func (.func 27) #[] #[]] w fun r w' => ReadIs sn w s r w' ∧ Below w.heap.size w w' := by
  have hl' : (s.size : Int) ≤ 1048576 := by omega
  have NW : Hid (Calls _ _ _ _ _) := pnew_any w
  have HG : Hid (GlobP sn w) := g
  have HGN : Hid (GlobN w) := gn
  clear g gn
  go_enter Tryz.func26, Tryz.ntmps26
  go_wp2_with (go_at_call 5; refine Calls.mono NW.out ?_; rintro r w1 ⟨rfl, hp1, hb1⟩)
  have HP1 : Hid (PoolAt _ _ _ _ _ _) := hp1
  have HB1 : Hid (Below _ _ _) := hb1
  clear hp1 hb1 NW
  go_loopw [0, 7, 8, 9] (fun sv _ _ _ wr => ∃ (s' : ByteArray), sv = .string s' ∧ Hid (s'.size ≤ 1048576) ∧ Hid (∃ ts tv, PoolAt (w.heap.size + 2) wr (w.heap.size + 1) w.heap.size tv ts ∧ rd ts s'.data.toList = rd [] s.data.toList ∧ Below w.heap.size w wr ∧ (∀ t ∈ ts, t.size ≤ 10000) ∧ ts.length ≤ 1000)) (fun sv _ _ _ _ => strLen sv)
  case atStart => exact ⟨s, rfl, hl, [], _, HP1.out, rfl, HB1.out, by simp, by simp⟩
  case round =>
    obtain ⟨s', rfl, HL, HX⟩ := hrel
    obtain ⟨ts, tv, hp, hr, hb, hz, hn⟩ := HX.out
    clear HX
    by_cases hs : s' = ⟨#[]⟩
    · subst hs
      have hr2 : rd [] s.data.toList = (some ts, 0, 0) := hr.symm
      clear hr
      go_wp2
      go_ret2
      exact ⟨.inl ⟨ts, _, _, _, tv, hr2, rfl, hp, by omega, hz, hn⟩, hb⟩
    · obtain ⟨he1, he2⟩ := pempty hs
      have hne := pl_ne hs
      have CT : Hid (Calls _ _ _ _ _) := preadF_any (some ⟨w.heap.size + 1, 0, none⟩) s' sn wr (HG.out.step hb) (HGN.out.step hb) (by have := HL.out; omega)
      have hrs := rd_step ts he2
      rw [hr] at hrs
      have HB : Hid (Below w.heap.size w wr) := hb
      have HP : Hid (PoolAt (w.heap.size + 2) wr (w.heap.size + 1) w.heap.size tv ts) := hp
      have HN : Hid (ts.length ≤ 1000) := hn
      have HZ : Hid (∀ t ∈ ts, t.size ≤ 10000) := hz
      by_cases hc : (cutK s'.data.toList).1 = 0
      · obtain ⟨hc1, hc2⟩ := cutK_ok hc
        rw [if_neg (fun q => q hc)] at hrs
        have hxs : (bs (cutK s'.data.toList).2.1).size ≤ 10000 := by rw [Lib.size_eq, bs_data]; exact hc2
        have hys : (bs (cutK s'.data.toList).2.2).size < s'.size := by rw [Lib.size_eq, bs_data, Lib.size_eq]; exact hc1
        have hyd : (bs (cutK s'.data.toList).2.2).data.toList = (cutK s'.data.toList).2.2 := bs_data _
        rw [← hyd] at hrs
        rw [hc] at CT
        have PN : Hid (∀ W, Below wr.heap.size wr W → Calls Tryz.prog 39 #[.pointer (some ⟨w.heap.size + 1, 0, none⟩), .string (bs (cutK s'.data.toList).2.1)] W fun r w' =>
            (bs (cutK s'.data.toList).2.1 ∈ ts ∧ r = .returned (perr sn 3) ∧ Below W.heap.size W w') ∨
            (bs (cutK s'.data.toList).2.1 ∉ ts ∧ 1000 ≤ ts.length ∧ r = .returned (perr sn 4) ∧ Below W.heap.size W w') ∨
            (bs (cutK s'.data.toList).2.1 ∉ ts ∧ ts.length < 1000 ∧ r = .returned .nilIface ∧ ∃ tv', PoolAt (w.heap.size + 2) w' (w.heap.size + 1) w.heap.size tv' (ts ++ [bs (cutK s'.data.toList).2.1]) ∧ PKept W w' (w.heap.size + 1) w.heap.size tv ∧ (tv'.ownBlock = tv.ownBlock ∨ ∃ k, W.heap.size ≤ k ∧ tv'.ownBlock = some k))) := fun W hW => pputNew_any (w.heap.size + 2) (w.heap.size + 1) w.heap.size tv ts _ sn W (HG.out.step (below_then HB.out hW)) (HP.out.step hW) hxs
        have HRS : Hid (rd [] s.data.toList = if memB (bs (cutK s'.data.toList).2.1) ts = true then (none, 3, ts.length) else if 1000 ≤ ts.length then (none, 4, ts.length) else rd (ts ++ [bs (cutK s'.data.toList).2.1]) (bs (cutK s'.data.toList).2.2).data.toList) := hrs
        clear hrs hyd hc hc1 hc2 hr hp hb hz hn
        generalize bs (cutK s'.data.toList).2.1 = x at CT PN HRS hxs
        generalize bs (cutK s'.data.toList).2.2 = y at CT HRS hys
        rw [show cutE sn 0 = Value.nilIface from rfl] at CT
        have LN : Hid (∀ W, Below wr.heap.size wr W → Calls Tryz.prog 12 #[.pointer (some ⟨w.heap.size + 1, 0, none⟩)] W fun r w' => r = .returned (.int .i64 ts.length) ∧ w' = W) := fun W hW => plen_any (w.heap.size + 2) (w.heap.size + 1) w.heap.size tv ts W (HP.out.step hW)
        unfold perr at PN
        go_upto_region 8 with (first
          | (go_at_call 27; refine Calls.mono CT.out ?_; rintro r w2 ⟨rfl, hb2⟩)
          | (go_at_call 39; refine Calls.mono (PN.out _ hb2) ?_; rintro r w3 (⟨k1, rfl, k2⟩ | ⟨k1, k3, rfl, k2⟩ | ⟨k1, k3, rfl, tv', k2, k4, k5⟩)))
        · have L3 : Hid (Calls _ _ _ _ _) := LN.out w3 (below_then hb2 k2)
          have B3 : Hid (Below w.heap.size w w3) := below_then HB.out (below_then hb2 k2)
          clear hb2 k2 LN CT PN
          go_wp2_with (go_at_call 12; refine Calls.mono L3.out ?_; rintro r w4 ⟨rfl, hq⟩; have hq := hq.symm; subst hq)
          go_ret2
          refine ⟨.inr ⟨3, ts.length, _, by rw [HRS.out, if_pos ((memB_iff _ _).2 k1)], by omega, by omega, HN.out, rfl, B3.out.size, block_at _ rfl⟩, below_then B3.out (below_alloc _ _)⟩
        · have L3 : Hid (Calls _ _ _ _ _) := LN.out w3 (below_then hb2 k2)
          have B3 : Hid (Below w.heap.size w w3) := below_then HB.out (below_then hb2 k2)
          clear hb2 k2 LN CT PN
          go_wp2_with (go_at_call 12; refine Calls.mono L3.out ?_; rintro r w4 ⟨rfl, hq⟩; have hq := hq.symm; subst hq)
          go_ret2
          refine ⟨.inr ⟨4, ts.length, _, by rw [HRS.out, if_neg (fun q => k1 ((memB_iff _ _).1 q)), if_pos k3], by omega, by omega, HN.out, rfl, B3.out.size, block_at _ rfl⟩, below_then B3.out (below_alloc _ _)⟩
        · have B2 : Below w.heap.size w w2 := below_then HB.out hb2
          have B3 : Hid (Below w.heap.size w w3) := k4.below (HP.out.step hb2) B2 (by omega) (by omega) (by omega)
          have KP : Hid (PoolAt _ _ _ _ _ _) := k2
          have HYS : Hid (y.size < s'.size) := hys
          clear hb2 k2 k4 k5 LN CT PN B2 hys
          go_wp2
          go_roundw
          case rel =>
            refine ⟨y, rfl, Nat.le_of_lt (Nat.lt_of_lt_of_le HYS.out HL.out), ts ++ [x], tv', KP.out, ?_, B3.out, ?_, ?_⟩
            · rw [HRS.out, if_neg (fun q => k1 ((memB_iff _ _).1 q)), if_neg (by omega)]
            · intro t ht
              rcases List.mem_append.1 ht with q | q
              · exact HZ.out t q
              · rw [List.mem_singleton.1 q]; exact hxs
            · rw [List.length_append]; simp; omega
          case measure => simp [strLen]; exact HYS.out
      · rw [if_pos hc] at hrs
        have hcd := cutK_code s'.data.toList
        have L2 : Hid (∀ W, Below wr.heap.size wr W → Calls Tryz.prog 12 #[.pointer (some ⟨w.heap.size + 1, 0, none⟩)] W fun r w' => r = .returned (.int .i64 ts.length) ∧ w' = W) := fun W hW => plen_any (w.heap.size + 2) (w.heap.size + 1) w.heap.size tv ts W (HP.out.step hW)
        have hce : cutE sn (cutK s'.data.toList).1 = perr sn (cutK s'.data.toList).1 := by unfold cutE; rw [if_neg hc]
        rw [hce] at CT
        have HRS : Hid (rd [] s.data.toList = (none, (cutK s'.data.toList).1, ts.length)) := hrs
        have HCD : Hid (1 ≤ (cutK s'.data.toList).1 ∧ (cutK s'.data.toList).1 ≤ 4) := by show _ ∧ _; omega
        clear hrs hr hp hb hz hn hce hc hcd
        generalize bs (cutK s'.data.toList).2.1 = x at CT
        generalize bs (cutK s'.data.toList).2.2 = y at CT
        generalize (cutK s'.data.toList).1 = k at CT HRS HCD
        obtain ⟨q, hq⟩ : ∃ q, perr sn k = .iface 151 (.pointer (some q)) := ⟨_, rfl⟩
        have HQ : Hid (perr sn k = .iface 151 (.pointer (some q))) := hq
        rw [hq] at CT
        clear hq
        go_wp2_with (first
          | (go_at_call 27; refine Calls.mono CT.out ?_; rintro r w2 ⟨rfl, hb2⟩)
          | (go_at_call 12; refine Calls.mono (L2.out _ hb2) ?_; rintro r w4 ⟨rfl, hq⟩; have hq := hq.symm; subst hq))
        go_ret2
        have B3 : Below w.heap.size w w2 := below_then HB.out hb2
        refine ⟨.inr ⟨k, ts.length, _, HRS.out, HCD.out.1, HCD.out.2, HN.out, rfl, B3.size, by rw [HQ.out]; exact block_at _ rfl⟩, below_then B3 (below_alloc _ _)⟩
theorem pread_any (s : ByteArray) (sn : Nat → Addr) (w : World) (g : GlobP sn w) (gn : GlobN w) (hl : s.size ≤ 1048576) :
    Calls Tryz.prog 16 #[.string s] w fun r w' => ReadIs sn w s r w' ∧ Below w.heap.size w w' := by
  have R : Hid (Calls _ _ _ _ _) := readBy_pl s sn w g gn hl
  clear g gn hl
  go_enter Tryz.func16, Tryz.ntmps16
  go_wp2_with (go_at_call 26; refine Calls.mono R.out ?_; rintro r w1 ⟨hr, hb1⟩; have HR : Hid (ReadIs sn w s r w1) := hr; rcases hr with ⟨ts, lo, pb, mb, tv, h1, rfl, h2⟩ | ⟨k, n, fb, h1, h3, h4, h5, rfl, h6⟩)
  all_goals
    go_ret2
    exact ⟨HR.out, hb1⟩
end Go.Proofs.YtifbhedomcgonaaGreatDoor
