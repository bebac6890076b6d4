/- Package pack's sameStart, sameEnd, sizedText, ownText, op.text, piece.op, isWorth. -/
import Derived.Test.YtbocknocmggcpaaGreatDoorPkP
import Derived.Test.YtbocknocmggcpaaGreatDoorPkD
import Derived.BigQuiet
import Derived.Lib.QuietBelow
namespace Go.Proofs.YtbocknocmggcpaaGreatDoor
open Go Go.RowKit Go.Sort Go.Maps Cal Pk
attribute [local go_sem] Oper.semAt_some

theorem get_eq {s t : ByteArray} {i j : Nat} (hi : i < s.size) (hj : j < t.size) : s.data.toList[i]? = t.data.toList[j]? ↔ s[i] = t[j] := by
  rw [Lib.data_getElem? s i hi, Lib.data_getElem? t j hj, Option.some.injEq]
theorem beq_byte {x y : UInt8} : ((x.toNat : Int) == (y.toNat : Int)) = true ↔ x = y := by
  rw [beq_iff_eq]
  constructor
  · intro h; exact UInt8.toNat_inj.1 (by omega)
  · intro h; rw [h]

set_option maxHeartbeats 1000000 in
theorem sameStart_any (s t : ByteArray) (w : World) (_hs : s.size ≤ 2000000) (_ht : t.size ≤ 2000000) :
    Calls Tryz.prog 62 #[.string s, .string t] w fun r w' => r = .returned (.int .i64 (sst s.data.toList t.data.toList)) ∧ Below w.heap.size w w' := by
  have hls : s.data.toList.length = s.size := (Lib.size_eq s).symm
  have hlt : t.data.toList.length = t.size := (Lib.size_eq t).symm
  have HFIN : Hid (∀ k : Nat, k ≤ s.size → k ≤ t.size → (∀ j, j < k → s.data.toList[j]? = t.data.toList[j]?) → (s.size ≤ k ∨ t.size ≤ k ∨ s.data.toList[k]? ≠ t.data.toList[k]?) → sst s.data.toList t.data.toList = k) := fun k h1 h2 h3 h4 => sst_is (fun j hj => ⟨h3 j hj, by omega⟩) (by rw [hls, hlt]; exact h4) (by omega)
  clear hls hlt
  generalize sst s.data.toList t.data.toList = R at HFIN ⊢
  go_enter Tryz.func62, Tryz.ntmps62
  go_wp2
  go_loopw [5] (fun i wr => ∃ k : Nat, k ≤ s.size ∧ k ≤ t.size ∧ i = .int .i64 k ∧ Hid (Below w.heap.size w wr) ∧ Hid (∀ j, j < k → s.data.toList[j]? = t.data.toList[j]?)) (fun i _ => s.size - (intOf i).toNat)
  case atStart => exact ⟨0, Nat.zero_le _, Nat.zero_le _, rfl, Below.refl _ _, fun j h => absurd h (Nat.not_lt_zero _)⟩
  case round =>
    obtain ⟨k, h1, h2, rfl, HB, HE⟩ := hrel
    have c0 : (0 : Int) ≤ (k : Int) := by omega
    by_cases ha : k < s.size
    · have ea : decide ((k : Int) < (s.size : Int)) = true := decide_eq_true (by omega)
      by_cases hb : k < t.size
      · have eb : decide ((k : Int) < (t.size : Int)) = true := decide_eq_true (by omega)
        have hg : Hid (s.data.toList[k]? = t.data.toList[k]? ↔ s[k] = t[k]) := get_eq ha hb
        by_cases hc : s[k] = t[k]
        · have ec : ((s[k].toNat : Int) == (t[k].toNat : Int)) = true := beq_byte.2 hc
          have HE2 : Hid (∀ j, j < k + 1 → s.data.toList[j]? = t.data.toList[j]?) := fun j hj => by
            by_cases ej : j = k
            · subst ej; exact hg.out.2 hc
            · exact HE.out j (by omega)
          clear HE HFIN hg hc
          go_wp2_with (fail)
          go_quiet (fail)
          go_wp2
          go_roundw
          case rel => exact ⟨k + 1, by omega, by omega, by go_num, below_then HB.out (pl_drew _ _), HE2.out⟩
          case measure => simp [intOf]; omega
        · have ec : ((s[k].toNat : Int) == (t[k].toNat : Int)) = false := by
            cases hq : ((s[k].toNat : Int) == (t[k].toNat : Int)) with
            | false => rfl
            | true => exact absurd (beq_byte.1 hq) hc
          have HR : Hid (R = k) := HFIN.out k (by omega) (by omega) HE.out (.inr (.inr fun q => hc (hg.out.1 q)))
          clear HE HFIN hg hc
          go_wp2_with (fail)
          go_quiet (fail)
          go_wp2
          go_ret
          exact ⟨by rw [HR.out]; rfl, below_then HB.out (pl_drew _ _)⟩
      · have eb : decide ((k : Int) < (t.size : Int)) = false := decide_eq_false (by omega)
        have HR : Hid (R = k) := HFIN.out k (by omega) (by omega) HE.out (.inr (.inl (by omega)))
        clear HE HFIN
        go_wp2_with (fail)
        go_quiet (fail)
        go_wp2
        go_ret
        exact ⟨by rw [HR.out]; rfl, below_then HB.out (pl_drew _ _)⟩
    · have ea : decide ((k : Int) < (s.size : Int)) = false := decide_eq_false (by omega)
      have HR : Hid (R = k) := HFIN.out k (by omega) (by omega) HE.out (.inl (by omega))
      clear HE HFIN
      go_wp2_with (fail)
      go_quiet (fail)
      go_wp2
      go_ret
      exact ⟨by rw [HR.out]; rfl, below_then HB.out (pl_drew _ _)⟩

set_option maxHeartbeats 1000000 in
theorem sameEnd_any (s t : ByteArray) (w : World) (hs : s.size ≤ 2000000) (ht : t.size ≤ 2000000) :
    Calls Tryz.prog 61 #[.string s, .string t] w fun r w' => r = .returned (.int .i64 (sen s.data.toList t.data.toList)) ∧ Below w.heap.size w w' := by
  have hls : s.data.toList.length = s.size := (Lib.size_eq s).symm
  have hlt : t.data.toList.length = t.size := (Lib.size_eq t).symm
  have rev : ∀ (l : List UInt8) (j : Nat), j < l.length → l.reverse[j]? = l[l.length - 1 - j]? := fun l j h => List.getElem?_reverse h
  have HFIN : Hid (∀ k : Nat, k ≤ s.size → k ≤ t.size → (∀ j, j < k → s.data.toList[s.size - 1 - j]? = t.data.toList[t.size - 1 - j]?) → (s.size ≤ k ∨ t.size ≤ k ∨ s.data.toList[s.size - 1 - k]? ≠ t.data.toList[t.size - 1 - k]?) → sen s.data.toList t.data.toList = k) := fun k h1 h2 h3 h4 => by
    unfold sen
    refine sst_is (fun j hj => ⟨?_, by rw [List.length_reverse]; omega⟩) ?_ (by rw [List.length_reverse, List.length_reverse]; omega)
    · rw [rev _ _ (by omega), rev _ _ (by omega), hls, hlt]; exact h3 j hj
    · rw [List.length_reverse, List.length_reverse, hls, hlt]
      by_cases q1 : k < s.size
      · by_cases q2 : k < t.size
        · rcases h4 with q | q | q
          · omega
          · omega
          · right; right; rw [rev _ _ (by omega), rev _ _ (by omega), hls, hlt]; exact q
        · exact .inr (.inl (by omega))
      · exact .inl (by omega)
  clear hls hlt rev
  generalize sen s.data.toList t.data.toList = R at HFIN ⊢
  go_enter Tryz.func61, Tryz.ntmps61
  go_wp2
  go_loopw [5] (fun i wr => ∃ k : Nat, k ≤ s.size ∧ k ≤ t.size ∧ i = .int .i64 k ∧ Hid (Below w.heap.size w wr) ∧ Hid (∀ j, j < k → s.data.toList[s.size - 1 - j]? = t.data.toList[t.size - 1 - j]?)) (fun i _ => s.size - (intOf i).toNat)
  case atStart => exact ⟨0, Nat.zero_le _, Nat.zero_le _, rfl, Below.refl _ _, fun j h => absurd h (Nat.not_lt_zero _)⟩
  case round =>
    obtain ⟨k, h1, h2, rfl, HB, HE⟩ := hrel
    have c0 : (0 : Int) ≤ (k : Int) := by omega
    by_cases ha : k < s.size
    · have ea : decide ((k : Int) < (s.size : Int)) = true := decide_eq_true (by omega)
      by_cases hb : k < t.size
      · have eb : decide ((k : Int) < (t.size : Int)) = true := decide_eq_true (by omega)
        obtain ⟨m, hm⟩ : ∃ m : Nat, m = s.size - 1 - k := ⟨_, rfl⟩
        obtain ⟨n, hn⟩ : ∃ n : Nat, n = t.size - 1 - k := ⟨_, rfl⟩
        have em : (s.size : Int) - 1 - (k : Int) = (m : Int) := by omega
        have en : (t.size : Int) - 1 - (k : Int) = (n : Int) := by omega
        have hml : m < s.size := by omega
        have hnl : n < t.size := by omega
        have d1 : (m : Int) < (s.size : Int) := by omega
        have d2 : (n : Int) < (t.size : Int) := by omega
        have hg : Hid (s.data.toList[s.size - 1 - k]? = t.data.toList[t.size - 1 - k]? ↔ s[m] = t[n]) := by show _ ↔ _; rw [← hm, ← hn]; exact get_eq hml hnl
        have HM : Hid (_) := hm
        have HN : Hid (_) := hn
        clear hm hn
        by_cases hc : s[m] = t[n]
        · have ec : ((s[m].toNat : Int) == (t[n].toNat : Int)) = true := beq_byte.2 hc
          have HE2 : Hid (∀ j, j < k + 1 → s.data.toList[s.size - 1 - j]? = t.data.toList[t.size - 1 - j]?) := fun j hj => by
            by_cases ej : j = k
            · subst ej; exact hg.out.2 hc
            · exact HE.out j (by omega)
          clear HE HFIN hg hc
          go_wp2_with (fail)
          go_quiet (fail)
          go_wp2
          go_roundw
          case rel => exact ⟨k + 1, by omega, by omega, by go_num, below_then HB.out (pl_drew _ _), HE2.out⟩
          case measure => simp [intOf]; omega
        · have ec : ((s[m].toNat : Int) == (t[n].toNat : Int)) = false := by
            cases hq : ((s[m].toNat : Int) == (t[n].toNat : Int)) with
            | false => rfl
            | true => exact absurd (beq_byte.1 hq) hc
          have HR : Hid (R = k) := HFIN.out k (by omega) (by omega) HE.out (.inr (.inr fun q => hc (hg.out.1 q)))
          clear HE HFIN hg hc
          go_wp2_with (fail)
          go_quiet (fail)
          go_wp2
          go_ret
          exact ⟨by rw [HR.out]; rfl, below_then HB.out (pl_drew _ _)⟩
      · have eb : decide ((k : Int) < (t.size : Int)) = false := decide_eq_false (by omega)
        have HR : Hid (R = k) := HFIN.out k (by omega) (by omega) HE.out (.inr (.inl (by omega)))
        clear HE HFIN
        go_wp2_with (fail)
        go_quiet (fail)
        go_wp2
        go_ret
        exact ⟨by rw [HR.out]; rfl, below_then HB.out (pl_drew _ _)⟩
    · have ea : decide ((k : Int) < (s.size : Int)) = false := decide_eq_false (by omega)
      have HR : Hid (R = k) := HFIN.out k (by omega) (by omega) HE.out (.inl (by omega))
      clear HE HFIN
      go_wp2_with (fail)
      go_quiet (fail)
      go_wp2
      go_ret
      exact ⟨by rw [HR.out]; rfl, below_then HB.out (pl_drew _ _)⟩

/-- a text with its size ahead, and an end -/
noncomputable def szT (s : List UInt8) (en : UInt8) : List UInt8 := Lib.itoa s.length ++ 58 :: (s ++ [en])
theorem sizedText_any (s : List UInt8) (en : UInt8) (w : World) (ht : Tab w) (hs : s.length ≤ 999999) :
    Calls Tryz.prog 42 #[.string (bs s), .string ⟨#[en]⟩] w fun r w' => r = .returned (.string (bs (szT s en))) ∧ Below w.heap.size w w' := by
  have hz : (bs s).size = s.length := by rw [Lib.size_eq, bs_data]
  have IT : Hid (Calls Tryz.prog 49 #[.int .i64 ((bs s).size : Int)] w fun e w' => e = .returned (.string (bs (Lib.itoa s.length))) ∧ Below w.heap.size w w') := by rw [hz]; exact itoa_all (s.length : Int) w (by omega) (by omega) ht
  have hil := itoa_len (s.length : Int) (by omega) (by omega)
  have hiz : (bs (Lib.itoa s.length)).size ≤ 6 := by rw [Lib.size_eq, bs_data]; exact hil
  have e1 : bs (szT s en) = bs (Lib.itoa s.length) ++ ⟨#[58]⟩ ++ bs s ++ ⟨#[en]⟩ := pl_ext (by simp [bs_data, szT])
  have HE : Hid (_) := e1
  clear e1 ht hil
  generalize bs (szT s en) = R at HE ⊢
  generalize bs (Lib.itoa s.length) = it at *
  have hss : (bs s).size ≤ 999999 := by omega
  clear hz hs
  generalize bs s = ss at *
  have k1 : ¬ 9223372036854775807 < it.size + 1 := by omega
  have k2 : ¬ 9223372036854775807 < it.size + 1 + ss.size := by omega
  have k3 : ¬ 9223372036854775807 < it.size + 1 + ss.size + 1 := by omega
  go_enter Tryz.func42, Tryz.ntmps42
  go_wp2_with (go_at_call 49; refine Calls.mono IT.out ?_; rintro r w1 ⟨rfl, hb1⟩)
  go_ret
  exact ⟨by rw [HE.out]; rfl, hb1⟩
theorem ownText_any (s : List UInt8) (w : World) (ht : Tab w) (hs : s.length ≤ 999999) :
    Calls Tryz.prog 21 #[.string (bs s)] w fun r w' => r = .returned (.string (bs (ownT s))) ∧ Below w.heap.size w w' := by
  have SZ : Hid (Calls _ _ _ _ _) := sizedText_any s 59 w ht hs
  have e1 : bs (ownT s) = ⟨#[105]⟩ ++ bs (szT s 59) := pl_ext (by simp [bs_data, szT, ownT])
  have hz : (bs (szT s 59)).size ≤ 1000010 := by
    rw [Lib.size_eq, bs_data]
    have := itoa_len (s.length : Int) (by omega) (by omega)
    unfold szT
    simp only [List.length_append, List.length_cons, List.length_nil]
    omega
  have HE : Hid (_) := e1
  clear e1 ht hs
  generalize bs (ownT s) = R at HE ⊢
  generalize bs (szT s 59) = z at *
  generalize bs s = ss at *
  have k1 : ¬ 9223372036854775807 < 1 + z.size := by omega
  go_enter Tryz.func21, Tryz.ntmps21
  go_wp2_with (go_at_call 42; refine Calls.mono SZ.out ?_; rintro r w1 ⟨rfl, hb1⟩)
  go_ret
  exact ⟨by rw [HE.out]; rfl, hb1⟩

set_option maxHeartbeats 1000000 in
theorem opText_any (o : Opq) (w : World) (ht : Tab w) (ho : OpOk o) :
    Calls Tryz.prog 20 #[opV o] w fun r w' => r = .returned (.string (bs (opT o))) ∧ Below w.heap.size w w' := by
  obtain ⟨own, at_, size⟩ := o
  have hA := below_alloc w (.cells #[.string (bs own), .int .i64 at_, .int .i64 size] 59)
  have hK : (w.alloc (.cells #[.string (bs own), .int .i64 at_, .int .i64 size] 59)).heap[w.heap.size]? = some (.cells #[.string (bs own), .int .i64 at_, .int .i64 size] 59 (0, 0)) := block_at _ rfl
  obtain ⟨c0, c1, c2⟩ := p3_cells hK
  clear hK
  unfold opV opT
  dsimp only
  rcases ho with ⟨h1, h2, h3⟩ | ⟨h1, h2, h3, h4, h5⟩
  · rw [if_pos h1]
    dsimp only at h1 h2
    have hoe : (bs own).toList.isEmpty = false := by rw [ByteArray.toList_eq, bs_data, List.isEmpty_eq_false_iff]; exact h1
    have OT : Hid (∀ W, Below w.heap.size w W → _) := fun W hW => ownText_any own W (ht.step hW) h2
    clear h1 h2 h3 ht
    generalize bs (ownT own) = R at OT ⊢
    generalize bs own = so at *
    go_enter Tryz.func20, Tryz.ntmps20
    go_wp2_with (go_at_call 21; refine Calls.mono (OT.out _ hA) ?_; rintro r w1 ⟨rfl, hb1⟩)
    go_ret
    exact ⟨rfl, below_then hA hb1⟩
  · dsimp only at h1 h2 h3 h4 h5
    subst h1
    rw [if_neg (fun q => q rfl)]
    rw [show bs [] = (⟨#[]⟩ : ByteArray) from rfl] at hA c0 c1 c2 ⊢
    have I1 : Hid (∀ W, Below w.heap.size w W → _) := fun W hW => itoa_all at_ W h2 (by omega) (ht.step hW)
    have I2 : Hid (∀ W, Below w.heap.size w W → _) := fun W hW => itoa_all size W (by omega) (by omega) (ht.step hW)
    have l1 := itoa_len at_ h2 h3
    have l2 := itoa_len size (by omega) h5
    have z1 : (bs (Lib.itoa at_)).size ≤ 6 := by rw [Lib.size_eq, bs_data]; exact l1
    have z2 : (bs (Lib.itoa size)).size ≤ 6 := by rw [Lib.size_eq, bs_data]; exact l2
    have e1 : bs (99 :: (Lib.itoa at_ ++ 44 :: (Lib.itoa size ++ [59]))) = ⟨#[99]⟩ ++ bs (Lib.itoa at_) ++ ⟨#[44]⟩ ++ bs (Lib.itoa size) ++ ⟨#[59]⟩ := pl_ext (by simp [bs_data])
    have HE : Hid (_) := e1
    clear e1 ht h2 h3 h4 h5 l1 l2
    generalize bs (99 :: (Lib.itoa at_ ++ 44 :: (Lib.itoa size ++ [59]))) = R at HE ⊢
    generalize bs (Lib.itoa at_) = t1 at *
    generalize bs (Lib.itoa size) = t2 at *
    have k1 : ¬ 9223372036854775807 < 1 + t1.size := by omega
    have k2 : ¬ 9223372036854775807 < 1 + t1.size + 1 := by omega
    have k3 : ¬ 9223372036854775807 < 1 + t1.size + 1 + t2.size := by omega
    have k4 : ¬ 9223372036854775807 < 1 + t1.size + 1 + t2.size + 1 := by omega
    have HA : Hid (Below w.heap.size w (w.alloc (.cells #[.string ⟨#[]⟩, .int .i64 at_, .int .i64 size] 59))) := hA
    go_enter Tryz.func20, Tryz.ntmps20
    go_upto_region 3 with (fail)
    generalize w.alloc (.cells #[.string ⟨#[]⟩, .int .i64 at_, .int .i64 size] 59) = wr at c0 c1 c2 HA hA ⊢
    have Y1 := cell_regrown c1
    have Y2 := cell_regrown c2
    have D1 : Hid (∀ d os, Calls Tryz.prog 49 #[.int .i64 at_] (grow (redrawn wr d) os) fun r w'' => r = .returned (.string t1) ∧ ∃ p : Regrown, w'' = grow (redrawn wr p.d) p.os) := fun d os => Calls.regrown_of (I1.out _ (below_then HA.out (below_regrown _ _ _)))
    have D2 : Hid (∀ d os, Calls Tryz.prog 49 #[.int .i64 size] (grow (redrawn wr d) os) fun r w'' => r = .returned (.string t2) ∧ ∃ p : Regrown, w'' = grow (redrawn wr p.d) p.os) := fun d os => Calls.regrown_of (I2.out _ (below_then HA.out (below_regrown _ _ _)))
    clear I1 I2 hA c0 c1 c2
    refine wp_region_quiet_below (by kernel_rfl) (by kernel_rfl) ?_
    repeat (quiet_step (fail))
    quiet_step ((go_at_call 49; exact D1.out _ _))
    repeat (quiet_step (fail))
    quiet_step ((go_at_call 49; exact D2.out _ _))
    repeat (quiet_step (fail))
    refine wpQuiet_nil ?_
    intro w4 hw'
    have hb4 : Below wr.heap.size wr w4 := by
      obtain ⟨⟨dq, osq⟩, hw''⟩ := hw'
      subst hw''
      exact below_regrown _ _ _
    clear hw' D1 D2 Y1 Y2
    go_wp2
    go_ret
    exact ⟨by rw [HE.out]; rfl, below_then HA.out hb4⟩

/-- a piece as the program has it -/
def pcV (p : Pc) : Value := .agg #[.int .i64 (p.1 : Int), .int .i64 (p.2.1 : Int), .int .i64 (p.2.2 : Int)]
theorem pieceOp_any (p : Pc) (w : World) : Calls Tryz.prog 47 #[pcV p] w fun r w' => r = .returned (opV ([], (p.2.1 : Int), (p.2.2 : Int))) ∧ Below w.heap.size w w' := by
  obtain ⟨f, a, n⟩ := p
  unfold pcV opV
  dsimp only
  have hA := below_alloc w (.cells #[.int .i64 (f : Int), .int .i64 (a : Int), .int .i64 (n : Int)] 95)
  have hK : (w.alloc (.cells #[.int .i64 (f : Int), .int .i64 (a : Int), .int .i64 (n : Int)] 95)).heap[w.heap.size]? = some (.cells #[.int .i64 (f : Int), .int .i64 (a : Int), .int .i64 (n : Int)] 95 (0, 0)) := block_at _ rfl
  have hS : w.heap.size < (w.alloc (.cells #[.int .i64 (f : Int), .int .i64 (a : Int), .int .i64 (n : Int)] 95)).heap.size := by rw [World.size_alloc]; omega
  have hz : (w.alloc (.cells #[.int .i64 (f : Int), .int .i64 (a : Int), .int .i64 (n : Int)] 95)).heap.size = w.heap.size + 1 := World.size_alloc _ _
  have hA2 := below_alloc (w.alloc (.cells #[.int .i64 (f : Int), .int .i64 (a : Int), .int .i64 (n : Int)] 95)) (.cells #[.string ⟨#[]⟩, .int .i64 0, .int .i64 0] 59)
  have hK2 : ((w.alloc (.cells #[.int .i64 (f : Int), .int .i64 (a : Int), .int .i64 (n : Int)] 95)).alloc (.cells #[.string ⟨#[]⟩, .int .i64 0, .int .i64 0] 59)).heap[w.heap.size + 1]? = some (.cells #[.string ⟨#[]⟩, .int .i64 0, .int .i64 0] 59 (0, 0)) := block_at _ hz
  have hK1 := (hA2.block _ hS).trans hK
  have hB := below_then hA hA2
  go_enter Tryz.func47, Tryz.ntmps47
  go_upto_region 1 with (fail)
  clear hA hA2 hz hS hK
  generalize (w.alloc (.cells #[.int .i64 (f : Int), .int .i64 (a : Int), .int .i64 (n : Int)] 95)).alloc (.cells #[.string ⟨#[]⟩, .int .i64 0, .int .i64 0] 59) = w2 at *
  obtain ⟨c0, c1, c2⟩ := p3_cells hK1
  obtain ⟨d0, d1, d2⟩ := p3_cells hK2
  have f0 := p3_frozen hK2 0
  have f1 := p3_frozen hK2 1
  have f2 := p3_frozen hK2 2
  go_wp2
  obtain ⟨e0, e1, e2⟩ := p3_cells (p3_put (.string ⟨#[]⟩) (.int .i64 (a : Int)) (.int .i64 (n : Int)) hK2)
  refine bodyPost_ret (v := .agg #[.string ⟨#[]⟩, .int .i64 (a : Int), .int .i64 (n : Int)]) (by simp [results, Tryz.f47, go_sem, e0, e1, e2]) rfl ⟨rfl, p3_below _ _ _ hB (by omega)⟩

set_option maxHeartbeats 1000000 in
theorem isWorth_any (p : Pc) (made : Nat) (w : World) (ht : Tab w) (h1 : p.2.1 ≤ 999999) (h2 : p.2.2 ≤ 999999) :
    Calls Tryz.prog 46 #[pcV p, .int .i64 (made : Int)] w fun r w' => r = .returned (.bool (wth made p)) ∧ Below w.heap.size w w' := by
  obtain ⟨f, a, n⟩ := p
  dsimp only at h1 h2
  have hA := below_alloc w (.cells #[.int .i64 (f : Int), .int .i64 (a : Int), .int .i64 (n : Int)] 95)
  have hK : (w.alloc (.cells #[.int .i64 (f : Int), .int .i64 (a : Int), .int .i64 (n : Int)] 95)).heap[w.heap.size]? = some (.cells #[.int .i64 (f : Int), .int .i64 (a : Int), .int .i64 (n : Int)] 95 (0, 0)) := block_at _ rfl
  obtain ⟨c0, c1, c2⟩ := p3_cells hK
  have HKK : Hid (∀ W, Below (w.alloc (.cells #[.int .i64 (f : Int), .int .i64 (a : Int), .int .i64 (n : Int)] 95)).heap.size (w.alloc (.cells #[.int .i64 (f : Int), .int .i64 (a : Int), .int .i64 (n : Int)] 95)) W → W.cell? ⟨w.heap.size, 0, none⟩ = some (.int .i64 (f : Int)) ∧ W.cell? ⟨w.heap.size, 2, none⟩ = some (.int .i64 (n : Int))) := fun W hW => ⟨cell_step c0 hW, cell_step c2 hW⟩
  clear hK
  have hwth : wth made (f, a, n) = (n != 0 && decide ((opT ([], (a : Int), (n : Int))).length + (if made < f then 5 else 0) < n)) := rfl
  rw [hwth]
  by_cases hn : n = 0
  · subst hn
    unfold pcV
    dsimp only
    clear HKK hwth
    rw [show (0 != 0 && decide ((opT ([], (a : Int), ((0 : Nat) : Int))).length + (if made < f then 5 else 0) < 0)) = false from rfl]
    rw [show ((0 : Nat) : Int) = 0 from rfl] at hA c0 c1 c2 ⊢
    go_enter Tryz.func46, Tryz.ntmps46
    go_wp2
    go_ret
    exact ⟨rfl, hA⟩
  · have hn' : ((n : Int) == 0) = false := by rw [beq_eq_false_iff_ne]; omega
    have PO : Hid (∀ W, _) := fun W => pieceOp_any (f, a, n) W
    have OT : Hid (∀ W, Below w.heap.size w W → _) := fun W hW => opText_any ([], (a : Int), (n : Int)) W (ht.step hW) (.inr ⟨rfl, by dsimp only; omega, by dsimp only; omega, by dsimp only; omega, by dsimp only; omega⟩)
    have hol : (opT ([], (a : Int), (n : Int))).length ≤ 15 := by
      have l1 := itoa_len (a : Int) (by omega) (by omega)
      have l2 := itoa_len (n : Int) (by omega) (by omega)
      unfold opT
      rw [if_neg (fun q => q rfl)]
      dsimp only
      simp only [List.length_append, List.length_cons, List.length_nil]
      omega
    have hos : (bs (opT ([], (a : Int), (n : Int)))).size = (opT ([], (a : Int), (n : Int))).length := by rw [Lib.size_eq, bs_data]
    rw [← hos] at hol ⊢
    have hnb : (n != 0) = true := by simpa using hn
    rw [hnb, Bool.true_and]
    clear hos hwth ht h1 hnb
    generalize bs (opT ([], (a : Int), (n : Int))) = st at OT hol ⊢
    unfold pcV at PO ⊢
    unfold opV at PO OT
    dsimp only at PO OT ⊢
    rw [show bs [] = (⟨#[]⟩ : ByteArray) from rfl] at PO OT
    have hm : (made < f ∧ decide ((made : Int) < (f : Int)) = true) ∨ (¬ made < f ∧ decide ((made : Int) < (f : Int)) = false) := by
      by_cases q : made < f
      · exact .inl ⟨q, decide_eq_true (by omega)⟩
      · exact .inr ⟨q, decide_eq_false (by omega)⟩
    rcases hm with ⟨q, hq⟩ | ⟨q, hq⟩
    all_goals
      first | rw [if_pos q] | rw [if_neg q]
      have q' : Hid (_) := q
      clear q
      go_enter Tryz.func46, Tryz.ntmps46
      go_upto_region 4 with (first
        | (go_at_call 47; refine Calls.mono (PO.out _) ?_; rintro r w1 ⟨rfl, hb1⟩)
        | (go_at_call 20; refine Calls.mono (OT.out _ (below_then hA hb1)) ?_; rintro r w2 ⟨rfl, hb2⟩))
      obtain ⟨y0, y2⟩ := HKK.out w2 (below_then hb1 hb2)
      clear HKK PO OT c0 c1 c2
      go_wp2
      go_ret
      exact ⟨by first | (simp; done) | (simp; omega), below_then hA (below_then hb1 hb2)⟩
end Go.Proofs.YtbocknocmggcpaaGreatDoor
