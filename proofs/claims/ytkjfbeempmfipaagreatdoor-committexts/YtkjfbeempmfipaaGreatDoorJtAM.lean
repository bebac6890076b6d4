/- A commit's text: package commit's Text, and the document's. -/
import Derived.Test.YtkjfbeempmfipaaGreatDoorJtAL
import Derived.Lib.QuietBelow
import Derived.Deep.DeepCutAuto
import Derived.Test.YtkjfbeempmfipaaGreatDoorJtAK
namespace Go.Proofs.YtkjfbeempmfipaaGreatDoor
open Go Go.RowKit Go.Sort Cal
attribute [local go_sem] Oper.semAt_some

/-- the words of a commit's first row -/
def cmW (t : Int) (ps : List Int) : List (List UInt8) := [99, 111, 109, 109, 105, 116] :: Lib.itoa t :: ps.map Lib.itoa
/-- a commit's text -/
def cmT (t : Int) (ps : List Int) (at_ : Int) (note : ByteArray) : List UInt8 := Lib.join (cmW t ps) [32] ++ [10] ++ Lib.itoa at_ ++ [32] ++ note.data.toList
/-- what the document has of it behind m parents -/
def cmM (t : Int) (ps : List Int) : List UInt8 := [99, 111, 109, 109, 105, 116, 32] ++ Lib.itoa t ++ ps.flatMap fun p => 32 :: Lib.itoa p
theorem join_sp : ∀ (l : List (List UInt8)) (a : List UInt8), Lib.join (a :: l) [32] = a ++ l.flatMap fun x => 32 :: x
  | [], a => by simp [Lib.join]
  | x :: r, a => by
    have h := join_sp r x
    have e : Lib.join (a :: x :: r) [32] = a ++ ([32] ++ Lib.join (x :: r) [32]) := by
      unfold Lib.join
      simp
    rw [e, h, List.flatMap_cons]
    simp
theorem cm_join (t : Int) (ps : List Int) : Lib.join (cmW t ps) [32] = cmM t ps := by
  unfold cmW cmM
  rw [join_sp, List.flatMap_cons, List.flatMap_map]
  simp
theorem cmM_snoc (t : Int) (ps : List Int) (p : Int) : cmM t (ps ++ [p]) = cmM t ps ++ (32 :: Lib.itoa p) := by
  unfold cmM
  rw [List.flatMap_append, List.append_assoc]
  simp
theorem cmW_snoc (t : Int) (ps : List Int) (p : Int) : cmW t (ps ++ [p]) = cmW t ps ++ [Lib.itoa p] := by
  unfold cmW
  rw [List.map_append]
  rfl
theorem cm_app (a b : List UInt8) : bs a ++ bs b = bs (a ++ b) := by
  unfold bs
  exact ByteArray.mk_append_mk a b
theorem itoa_short (n : Int) (h0 : 0 ≤ n) (h1 : n ≤ 9223372036854775807) : (Lib.itoa n).length ≤ 21 := Lib.itoa_length_le n (by omega) (by omega)
theorem cmM_short (t : Int) (ps : List Int) (h0 : 0 ≤ t) (h1 : t ≤ 9223372036854775807) (hp : ∀ p ∈ ps, 0 ≤ p ∧ p ≤ 9223372036854775807) (h4 : ps.length ≤ 4) : (cmM t ps).length ≤ 1000 := by
  have h := itoa_short t h0 h1
  have key : ∀ (l : List Int), (∀ p ∈ l, 0 ≤ p ∧ p ≤ 9223372036854775807) → (l.flatMap fun p => (32 : UInt8) :: Lib.itoa p).length ≤ 22 * l.length := fun l => by
    induction l with
    | nil => intro _; simp
    | cons a r ih =>
      intro h
      have h1 := ih (fun p hp => h p (List.mem_cons_of_mem _ hp))
      have h2 := itoa_short a (h a List.mem_cons_self).1 (h a List.mem_cons_self).2
      rw [List.flatMap_cons, List.length_append, List.length_cons, List.length_cons]
      omega
  have h2 := key ps hp
  unfold cmM
  rw [List.length_append, List.length_append]
  show 7 + _ + _ ≤ _
  omega

theorem own_formC {base n : Nat} {W : World} {e : TypeId} {size : Nat} {v : Value} {xs : List Value} (h : W.ownsRow base e size v n xs) : ∃ a c, v = .slice a n c := by
  rcases h.2 with ⟨rfl, h0⟩ | ⟨g, cap, cur, rfl, _⟩
  · exact ⟨none, 0, by rw [h0]⟩
  · exact ⟨_, _, rfl⟩
theorem cell_step2 {w w' : World} {b o : Nat} {v : Value} (hc : w.cell? ⟨b, o, none⟩ = some v) (hb : Below w.heap.size w w') : w'.cell? ⟨b, o, none⟩ = some v := cell_step hc hb
set_option maxHeartbeats 2000000 in
set_option maxRecDepth 100000 in
theorem cmText_any (t at_ : Int) (sl : Value) (ps : List Int) (note : ByteArray) (w : World) (ht : Tab w) (hl : Ints w sl ps) (h4 : ps.length ≤ 4) (t0 : 0 ≤ t) (t1 : t ≤ 9223372036854775807) (a0 : 0 ≤ at_) (a1 : at_ ≤ 9223372036854775807) (hp : ∀ p ∈ ps, 0 ≤ p ∧ p ≤ 9223372036854775807) (hn : note.size ≤ 1000) :
    Calls Tryz.prog 5 #[.agg #[.int .i64 t, sl, .int .i64 at_, .string note]] w fun r w' => r = .returned (.string (bs (cmT t ps at_ note))) ∧ Below w.heap.size w w' := by
  obtain ⟨a, c, rfl, h8, hc, hcells⟩ := hl
  obtain ⟨i0, hi, hz0, hz1, hz2⟩ := info_parts info_str
  have hA := below_alloc w (.cells #[.int .i64 t, .slice a ps.length c, .int .i64 at_, .string note] 26)
  have kB : (w.alloc (.cells #[.int .i64 t, .slice a ps.length c, .int .i64 at_, .string note] 26)).heap[w.heap.size]? = some (.cells #[.int .i64 t, .slice a ps.length c, .int .i64 at_, .string note] 26 (0, 0)) := block_at _ rfl
  have HC : Hid (∀ (j : Nat) (h : j < ps.length), ∃ b : Nat, a = some ⟨b, 0, none⟩ ∧ (w.alloc (.cells #[.int .i64 t, .slice a ps.length c, .int .i64 at_, .string note] 26)).cell? ⟨b, j, none⟩ = some (.int .i64 ps[j])) := fun j hj => by
    obtain ⟨b, e, hl, hq⟩ := hcells j hj
    exact ⟨b, e, cell_step hq hA⟩
  have HA : Hid (_) := hA
  have HT : Hid (Tab (w.alloc (.cells #[.int .i64 t, .slice a ps.length c, .int .i64 at_, .string note] 26))) := ht.step hA
  have HP : Hid (∀ p ∈ ps, 0 ≤ p ∧ p ≤ 9223372036854775807) := hp
  have HJ : Hid ((Lib.join (cmW t ps) [32]).length ≤ 100000) := by show _ ≤ _; rw [cm_join]; have := cmM_short t ps t0 t1 hp h4; omega
  have HJ2 : Hid ((bs (Lib.join (cmW t ps) [32])).size ≤ 1000) := by show _ ≤ _; rw [Lib.size_eq, bs_data, cm_join]; exact cmM_short t ps t0 t1 hp h4
  have HAT : Hid ((bs (Lib.itoa at_)).size ≤ 21) := by show _ ≤ _; rw [Lib.size_eq, bs_data]; exact itoa_short at_ a0 a1
  have HWL : Hid ((cmW t ps).length ≤ 1000) := by show _ ≤ _; unfold cmW; simp; omega
  clear hcells hA ht hp
  generalize hw0 : w.alloc (.cells #[.int .i64 t, .slice a ps.length c, .int .i64 at_, .string note] 26) = w0 at HC HA kB HT
  have HKB : Hid (_) := kB
  obtain ⟨x0, x1, x2, x3⟩ := blkC kB
  clear kB
  obtain ⟨L, hL⟩ : ∃ L, ps.length = L := ⟨_, rfl⟩
  rw [hL] at x1 h8 hc hw0 h4 HKB ⊢
  have HL : Hid (ps.length = L) := hL
  clear hL
  have I1 : Hid (Calls _ _ _ _ _) := itoa_all t w0 t0 t1 HT.out
  go_enter Tryz.func5, Tryz.ntmps5
  go_upto_region 2 with (go_at_call 14; refine Calls.mono I1.out ?_; rintro r w1 ⟨rfl, hb1⟩)
  have T1 : Hid (TR w0 (w1.alloc (.cells #[.string ⟨#[99, 111, 109, 109, 105, 116]⟩, .string (bs (Lib.itoa t))] 9)) (.slice (some ⟨w1.heap.size, 0, none⟩) 2 2) (cmW t (ps.take 0))) := by
    show TR _ _ _ _
    rw [List.take_zero]
    exact TR.lit hb1 ⟨#[99, 111, 109, 109, 105, 116]⟩ (bs (Lib.itoa t))
  clear x0 x2 x3 I1
  have x1 := (blkC ((T1.out.below.block _ (Array.getElem?_eq_some_iff.1 HKB.out).1).trans HKB.out)).2.1
  clear hb1
  generalize w1.alloc (.cells #[.string ⟨#[99, 111, 109, 109, 105, 116]⟩, .string (bs (Lib.itoa t))] 9) = w2 at T1 x1 ⊢
  generalize w1.heap.size = g1 at T1 ⊢
  go_wp2
  go_loopw [3, 5, 13] (fun v _ i wr => ∃ m : Nat, m ≤ L ∧ i = .int .i64 m ∧ (∃ a n c, v = .slice a n c) ∧ Hid (TR w0 wr v (cmW t (ps.take m)))) (fun _ _ i _ => L - (intOf i).toNat)
  case atStart => exact ⟨0, Nat.zero_le _, rfl, ⟨_, _, _, rfl⟩, T1.out⟩
  case round =>
    obtain ⟨m, hm, rfl, ⟨va, vn, vc, rfl⟩, HR⟩ := hrel
    by_cases hlt : m < L
    · have hmp : m < ps.length := by rw [HL.out]; exact hlt
      obtain ⟨b, rfl, hcell⟩ := HC.out m hmp
      have hpm := HP.out _ (List.getElem_mem hmp)
      have HTK : Hid (cmW t (ps.take (m + 1)) = cmW t (ps.take m) ++ [Lib.itoa ps[m]]) := by
        show _ = _
        rw [List.take_succ_eq_append_getElem hmp, cmW_snoc]
      generalize ps[m] = p at hcell hpm HTK
      have hcr := cell_step2 hcell HR.out.below
      have IT : Hid (Calls _ _ _ _ _) := itoa_all p wr hpm.1 hpm.2 (HT.out.step HR.out.below)
      have hW6 : (cmW t (ps.take m)).length ≤ 6 := by unfold cmW; simp; omega
      generalize cmW t (ps.take m) = W at HR HTK hW6
      have hvn : vn = W.length := by
        obtain ⟨a9, c9, e9⟩ := own_formC HR.out.own
        injection e9
      subst hvn
      have HW6 : Hid (W.length ≤ 6) := hW6
      have hz3 : w0.heap.size ≤ wr.heap.size := HR.out.below.size
      clear hcell hpm hW6 HC HP
      obtain ⟨bt, hbt⟩ : ∃ bt, bs (Lib.itoa p) = bt := ⟨_, rfl⟩
      rw [hbt] at IT
      have HBT : Hid (bs (Lib.itoa p) = bt) := hbt
      clear hbt
      go_upto_region 6 with (first
        | (go_at_call 14; refine Calls.mono IT.out ?_; rintro r w3 ⟨rfl, hb3⟩; have T3 : Hid (TR w0 w3 (.slice va W.length vc) W) := HR.out.step hb3; have NC : Hid (_) := word_cell w3 bt; have hz4 : w0.heap.size ≤ w3.heap.size := T3.out.below.size)
        | (at_builtin; refine wpList_append_own_at _ rfl _ _ 44 rfl w0.heap.size 9 i0 (.string ⟨#[]⟩) 1 16 Tryz.underlying44 hi hz0 hz1 hz2 rfl (by decide) _ _ _ rfl (T3.out.own.alloc (.cells #[.string bt] 9)) ⟨w3.heap.size, 0, none⟩ 1 1 [.string bt] rfl rfl NC.out (fun v hv => by rw [List.mem_singleton.1 hv]; rfl) (by have := HW6.out; unfold maxLen; omega) (by have := HW6.out; omega) (by simp; omega) ?_; intro v' w5 hown' hgrow _ hat; have T4 : Hid (TR w0 w5 v' (W ++ [Lib.itoa p])) := TR.app [Lib.itoa p] T3.out (by rw [List.length_append]; rfl) (by rw [List.map_append, ← HBT.out]; rfl) hown' hgrow; obtain ⟨g', cap', rfl⟩ := ownsRow_succ hown'; clear hown' hgrow hat)
        | go_in)
      go_wp2
      go_roundw
      case rel => exact ⟨m + 1, by omega, by go_num, ⟨_, _, _, rfl⟩, by rw [HTK.out]; exact T4.out⟩
      case measure => simp [intOf]; omega
    · have HRE : Hid (TR w0 wr (.slice va vn vc) (cmW t ps)) := by
        have := HR.out
        rw [List.take_of_length_le (by have := HL.out; omega)] at this
        exact this
      clear HR HC HP T1
      have hb0 := HRE.out.below
      obtain ⟨_, _, y2, y3⟩ := blkC ((hb0.block _ (Array.getElem?_eq_some_iff.1 HKB.out).1).trans HKB.out)
      have Y2 := cell_regrown y2
      have Y3 := cell_regrown y3
      have JC : Hid (∀ W, Below wr.heap.size wr W → Calls Tryz.prog 15 #[.slice va vn vc, .string ⟨#[32]⟩] W fun r w' => r = .returned (.string (bs (Lib.join (cmW t ps) [32]))) ∧ Below W.heap.size W w') := fun W hW => joins_any w0 _ (cmW t ps) [32] W (HRE.out.step hW) HWL.out HJ.out
      have IC : Hid (∀ W, Below wr.heap.size wr W → Calls Tryz.prog 14 #[.int .i64 at_] W fun r w' => r = .returned (.string (bs (Lib.itoa at_))) ∧ Below W.heap.size W w') := fun W hW => itoa_all at_ W a0 a1 (HT.out.step (below_then hb0 hW))
      have HFIN : Hid ((((bs (Lib.join (cmW t ps) [32]) ++ ⟨#[10]⟩) ++ bs (Lib.itoa at_)) ++ ⟨#[32]⟩) ++ note = bs (cmT t ps at_ note)) := by
        show _ = _
        unfold cmT
        rw [show (⟨#[10]⟩ : ByteArray) = bs [10] from rfl, show (⟨#[32]⟩ : ByteArray) = bs [32] from rfl, cm_app, cm_app, cm_app]
        conv => lhs; rw [show note = bs note.data.toList from (pl_ext (bs_data _)).symm]
        rw [cm_app]
      have HBE : Hid (Below w.heap.size w wr) := below_then HA.out hb0
      have hJ := HJ2.out
      have hAt := HAT.out
      generalize bs (Lib.join (cmW t ps) [32]) = J at JC HFIN hJ
      generalize bs (Lib.itoa at_) = A at IC HFIN hAt
      have D1 : Hid (∀ d os, Calls Tryz.prog 15 #[.slice va vn vc, .string ⟨#[32]⟩] (grow (redrawn wr d) os) fun r w'' => r = .returned (.string J) ∧ ∃ p : Regrown, w'' = grow (redrawn wr p.d) p.os) := fun d os => Calls.regrown_of (JC.out _ (below_regrown _ _ _))
      have D2 : Hid (∀ d os, Calls Tryz.prog 14 #[.int .i64 at_] (grow (redrawn wr d) os) fun r w'' => r = .returned (.string A) ∧ ∃ p : Regrown, w'' = grow (redrawn wr p.d) p.os) := fun d os => Calls.regrown_of (IC.out _ (below_regrown _ _ _))
      have hq1 : ¬ (9223372036854775807 < J.size + 1) := by omega
      have hq2 : ¬ (9223372036854775807 < J.size + 1 + A.size) := by omega
      have hq3 : ¬ (9223372036854775807 < J.size + 1 + A.size + 1) := by omega
      have hq4 : ¬ (9223372036854775807 < J.size + 1 + A.size + 1 + note.size) := by omega
      clear HRE JC IC hb0 HJ HJ2 HAT HWL HKB HT HA
      go_upto_region 7 with (fail)
      refine wp_region_quiet_below (by kernel_rfl) (by kernel_rfl) ?_
      repeat (quiet_step (fail))
      quiet_step ((go_at_call 15; exact D1.out _ _))
      repeat (quiet_step (fail))
      quiet_step ((go_at_call 14; exact D2.out _ _))
      repeat (quiet_step (fail))
      refine wpQuiet_nil ?_
      intro w4 hw'
      have hb4 : Below wr.heap.size wr w4 := by
        obtain ⟨⟨dq, osq⟩, hw''⟩ := hw'
        subst hw''
        exact below_regrown _ _ _
      clear hw' D1 D2 y2 y3 Y2 Y3
      go_wp2
      go_ret
      exact ⟨ret_str HFIN.out, below_then HBE.out hb4⟩

set_option maxHeartbeats 2000000 in
set_option maxRecDepth 100000 in
theorem mcmText_any (t at_ : Int) (sl : Value) (ps : List Int) (note : ByteArray) (w : World) (hl : Got w sl ps) (h4 : ps.length ≤ 4) (t0 : 0 ≤ t) (t1 : t ≤ 9223372036854775807) (a0 : 0 ≤ at_) (a1 : at_ ≤ 9223372036854775807) (hp : ∀ p ∈ ps, 0 ≤ p ∧ p ≤ 9223372036854775807) (hn : note.size ≤ 1000) :
    Calls Tryz.prog 6 #[.agg #[.int .i64 t, sl, .int .i64 at_, .string note]] w fun r w' => r = .returned (.string (bs (cmT t ps at_ note))) ∧ Below w.heap.size w w' := by
  obtain ⟨a, c, rfl, hnil, hcells⟩ := hl
  have hA := below_alloc w (.cells #[.int .i64 t, .slice a ps.length c, .int .i64 at_, .string note] 28)
  have kB : (w.alloc (.cells #[.int .i64 t, .slice a ps.length c, .int .i64 at_, .string note] 28)).heap[w.heap.size]? = some (.cells #[.int .i64 t, .slice a ps.length c, .int .i64 at_, .string note] 28 (0, 0)) := block_at _ rfl
  have HC : Hid (∀ (j : Nat) (h : j < ps.length), ∃ ad : Addr, a = some ad ∧ (w.alloc (.cells #[.int .i64 t, .slice a ps.length c, .int .i64 at_, .string note] 28)).cell? (ad.add j) = some (.int .i64 ps[j])) := fun j hj => by
    cases a with
    | none => exact absurd (hnil rfl).1 (by omega)
    | some ad =>
      obtain ⟨q1, q2⟩ := hcells ad rfl j hj
      exact ⟨ad, rfl, (World.cell?_of_block (hA.block _ (by rw [addr_add_block]; exact q1))).trans q2⟩
  have HBL : Hid (∀ (j : Nat) (h : j < ps.length) (ad : Addr), a = some ad → ad.block < (w.alloc (.cells #[.int .i64 t, .slice a ps.length c, .int .i64 at_, .string note] 28)).heap.size) := fun j hj ad e => Nat.lt_of_lt_of_le (hcells ad e j hj).1 hA.size
  have HA : Hid (_) := hA
  have HP : Hid (∀ p ∈ ps, 0 ≤ p ∧ p ≤ 9223372036854775807) := hp
  have HIT : Hid (∀ n : Int, 0 ≤ n → n ≤ 9223372036854775807 → (bs (Lib.itoa n)).size ≤ 21) := fun n h0 h1 => by rw [Lib.size_eq, bs_data]; exact itoa_short n h0 h1
  clear hcells hA hp hnil
  generalize hw0 : w.alloc (.cells #[.int .i64 t, .slice a ps.length c, .int .i64 at_, .string note] 28) = w0 at HC HA kB HBL
  have HKB : Hid (_) := kB
  obtain ⟨x0, x1, x2, x3⟩ := blkC kB
  clear kB
  obtain ⟨L, hL⟩ : ∃ L, ps.length = L := ⟨_, rfl⟩
  rw [hL] at x1 hw0 h4 HKB ⊢
  have HL : Hid (ps.length = L) := hL
  clear hL
  have I1 : Hid (Calls _ _ _ _ _) := decimalC_int t w0 t0 t1
  have hX := HIT.out t t0 t1
  have HO0 : Hid ((⟨#[99, 111, 109, 109, 105, 116, 32]⟩ : ByteArray) ++ bs (Lib.itoa t) = bs (cmM t (ps.take 0))) := by
    show _ = _
    rw [List.take_zero, show (⟨#[99, 111, 109, 109, 105, 116, 32]⟩ : ByteArray) = bs [99, 111, 109, 109, 105, 116, 32] from rfl, cm_app]
    unfold cmM
    simp
  generalize bs (Lib.itoa t) = X at I1 hX HO0
  have hq0 : ¬ (9223372036854775807 < 7 + X.size) := by omega
  go_enter Tryz.func6, Tryz.ntmps6
  go_upto_region 3 with (go_at_call 16; refine Calls.mono I1.out ?_; rintro r w1 ⟨rfl, hb1⟩)
  have HB1 : Hid (Below w0.heap.size w0 w1) := hb1
  clear x0 x1 x2 x3 I1 hb1 hq0
  generalize hO : (⟨#[99, 111, 109, 109, 105, 116, 32]⟩ : ByteArray) ++ X = O at HO0 ⊢
  have hOs : O.size ≤ 28 := by rw [← hO, ByteArray.size_append]; show 7 + X.size ≤ 28; omega
  clear hO hX
  go_wp2
  go_loopw [3, 4] (fun v i wr => ∃ (m : Nat) (o : ByteArray), m ≤ L ∧ i = .int .i64 m ∧ v = .string o ∧ o.size ≤ 28 + 22 * m ∧ Hid (o = bs (cmM t (ps.take m))) ∧ Hid (Below w0.heap.size w0 wr)) (fun _ i _ => L - (intOf i).toNat)
  case atStart => exact ⟨0, O, Nat.zero_le _, rfl, rfl, by omega, HO0.out, HB1.out⟩
  case round =>
    obtain ⟨m, o, hm, rfl, rfl, hos, HO, HBW⟩ := hrel
    obtain ⟨y0, y1, y2, y3⟩ := blkC ((HBW.out.block _ (Array.getElem?_eq_some_iff.1 HKB.out).1).trans HKB.out)
    by_cases hlt : m < L
    · have hmp : m < ps.length := by rw [HL.out]; exact hlt
      obtain ⟨ad, rfl, hcell⟩ := HC.out m hmp
      have hblk := HBL.out m hmp ad rfl
      have hpm := HP.out _ (List.getElem_mem hmp)
      have hX := HIT.out _ hpm.1 hpm.2
      have HN : Hid ((o ++ (⟨#[32]⟩ : ByteArray)) ++ bs (Lib.itoa ps[m]) = bs (cmM t (ps.take (m + 1)))) := by
        show _ = _
        rw [List.take_succ_eq_append_getElem hmp, cmM_snoc, HO.out, show (⟨#[32]⟩ : ByteArray) = bs [32] from rfl, cm_app, cm_app, List.append_assoc]
        rfl
      have IT : Hid (Calls _ _ _ _ _) := decimalC_int ps[m] wr hpm.1 hpm.2
      generalize ps[m] = p at hcell hpm HN IT hX
      generalize bs (Lib.itoa p) = X at IT hX HN
      have hcr : wr.cell? (ad.add m) = some (.int .i64 p) := (World.cell?_of_block (HBW.out.block _ (by rw [addr_add_block]; exact hblk))).trans hcell
      have hq1 : ¬ (9223372036854775807 < o.size + 1) := by omega
      have hq2 : ¬ (9223372036854775807 < o.size + 1 + X.size) := by omega
      have hns : ((o ++ (⟨#[32]⟩ : ByteArray)) ++ X).size ≤ 28 + 22 * (m + 1) := by rw [ByteArray.size_append, ByteArray.size_append]; show o.size + 1 + X.size ≤ _; omega
      have HNS : Hid (_) := hns
      clear hcell hpm HC HBL HP HIT hns
      cases m with
      | zero =>
        have p3 : wr.cell? ad = some (.int .i64 p) := hcr
        have hl1 : 0 < L := by omega
        go_upto_region 4 with (go_at_call 16; refine Calls.mono IT.out ?_; rintro r w3 ⟨rfl, hb3⟩)
        have HB3 : Hid (Below w0.heap.size w0 w3) := below_then HBW.out hb3
        clear hb3
        go_wp2
        go_roundw
        case rel => exact ⟨0 + 1, _, by omega, by go_num, rfl, HNS.out, HN.out, HB3.out⟩
        case measure => simp [intOf]; omega
      | succ m =>
        have p3 : wr.cell? ⟨ad.block, ad.off + (m + 1), none⟩ = some (.int .i64 p) := hcr
        have hl1 : (m : Int) + 1 < (L : Int) := by omega
        have hl2 : (0 : Int) ≤ (m : Int) + 1 := by omega
        have hl3 : ((m : Int) + 1).toNat = m + 1 := by omega
        go_upto_region 4 with (go_at_call 16; refine Calls.mono IT.out ?_; rintro r w3 ⟨rfl, hb3⟩)
        have HB3 : Hid (Below w0.heap.size w0 w3) := below_then HBW.out hb3
        clear hb3
        go_wp2
        go_roundw
        case rel => exact ⟨m + 1 + 1, _, by omega, by go_num, rfl, HNS.out, HN.out, HB3.out⟩
        case measure => simp [intOf]; omega
    · have HFO : Hid (o = bs (cmM t ps)) := by
        have := HO.out
        rw [List.take_of_length_le (by have := HL.out; omega)] at this
        exact this
      have IC : Hid (∀ W, Below wr.heap.size wr W → Calls Tryz.prog 16 #[.int .i64 at_] W fun r w' => r = .returned (.string (bs (Lib.itoa at_))) ∧ Below W.heap.size W w') := fun W _ => decimalC_int at_ W a0 a1
      have hAt := HIT.out at_ a0 a1
      have HFIN : Hid ((((o ++ (⟨#[10]⟩ : ByteArray)) ++ bs (Lib.itoa at_)) ++ (⟨#[32]⟩ : ByteArray)) ++ note = bs (cmT t ps at_ note)) := by
        show _ = _
        unfold cmT
        rw [HFO.out, ← cm_join, show (⟨#[10]⟩ : ByteArray) = bs [10] from rfl, show (⟨#[32]⟩ : ByteArray) = bs [32] from rfl, cm_app, cm_app, cm_app]
        conv => lhs; rw [show note = bs note.data.toList from (pl_ext (bs_data _)).symm]
        rw [cm_app]
      have HBE : Hid (Below w.heap.size w wr) := below_then HA.out HBW.out
      generalize bs (Lib.itoa at_) = A at IC HFIN hAt
      have Y2 := cell_regrown y2
      have Y3 := cell_regrown y3
      have D2 : Hid (∀ d os, Calls Tryz.prog 16 #[.int .i64 at_] (grow (redrawn wr d) os) fun r w'' => r = .returned (.string A) ∧ ∃ p : Regrown, w'' = grow (redrawn wr p.d) p.os) := fun d os => Calls.regrown_of (IC.out _ (below_regrown _ _ _))
      have hq1 : ¬ (9223372036854775807 < o.size + 1) := by omega
      have hq2 : ¬ (9223372036854775807 < o.size + 1 + A.size) := by omega
      have hq3 : ¬ (9223372036854775807 < o.size + 1 + A.size + 1) := by omega
      have hq4 : ¬ (9223372036854775807 < o.size + 1 + A.size + 1 + note.size) := by omega
      clear IC HO HFO HC HBL HP HIT HKB HA
      go_upto_region 6 with (fail)
      refine wp_region_quiet_below (by kernel_rfl) (by kernel_rfl) ?_
      repeat (quiet_step (fail))
      quiet_step ((go_at_call 16; exact D2.out _ _))
      repeat (quiet_step (fail))
      refine wpQuiet_nil ?_
      intro w4 hw'
      have hb4 : Below wr.heap.size wr w4 := by
        obtain ⟨⟨dq, osq⟩, hw''⟩ := hw'
        subst hw''
        exact below_regrown _ _ _
      clear hw' D2 y0 y1 y2 y3 Y2 Y3
      go_wp2
      go_ret
      exact ⟨ret_str HFIN.out, below_then HBE.out hb4⟩
end Go.Proofs.YtkjfbeempmfipaaGreatDoor

/- The law's own OwnRule: the days lie in memory of its own. -/
namespace Go.Proofs.YtkjfbeempmfipaaGreatDoor
open Go.RowKit Cal

end Go.Proofs.YtkjfbeempmfipaaGreatDoor

/- Package commit's readNumbers. -/
namespace Go.Proofs.YtkjfbeempmfipaaGreatDoor
open Go Go.RowKit Go.Sort Cal
attribute [local go_sem] Oper.semAt_some

/-- a row of texts that may begin anywhere in its block -/
def TxO (W : World) (v : Value) (l : List ByteArray) : Prop :=
  ∃ (a : Option Addr) (c : Nat), v = .slice a l.length c ∧ l.length ≤ 1000 ∧ l.length ≤ c ∧
    ∀ (j : Nat) (h : j < l.length), ∃ b o : Nat, a = some ⟨b, o, none⟩ ∧ b < W.heap.size ∧ W.cell? ⟨b, o + j, none⟩ = some (.string l[j])
theorem TxO.step {w w' : World} {v : Value} {l : List ByteArray} (h : TxO w v l) (hb : Below w.heap.size w w') : TxO w' v l := by
  obtain ⟨a, c, h1, h2, h3, h4⟩ := h
  refine ⟨a, c, h1, h2, h3, fun j hj => ?_⟩
  obtain ⟨b, o, e, hl, hc⟩ := h4 j hj
  exact ⟨b, o, e, Nat.lt_of_lt_of_le hl hb.size, cell_step hc hb⟩
/-- the numbers that texts are; are they all? -/
def numsV (ws : List ByteArray) : List Int := ws.map fun x => (numOfC x.data.toList).getD 0
def numsOk (ws : List ByteArray) : Prop := ∀ x ∈ ws, (numOfC x.data.toList).isSome = true
theorem numsV_snoc (ws : List ByteArray) (x : ByteArray) {n : Int} (h : numOfC x.data.toList = some n) : numsV (ws ++ [x]) = numsV ws ++ [n] := by
  unfold numsV
  rw [List.map_append]
  simp [h]
theorem int_cellC (W : World) (n : Int) : ∀ (j : Nat) (v : Value), [Value.int .i64 n][j]? = some v → (W.alloc (.cells #[.int .i64 n] 3)).cell? ((⟨W.heap.size, 0, none⟩ : Addr).add j) = some v := fun j v hv => by
  match j, hv with
  | 0, hv => simp at hv; subst hv; simp [Addr.add]
theorem info_intC : (Tryz.prog.info? 3).map (fun i => (i.zero, i.size, i.bytes)) = some (some (.int .i64 0), 1, 8) := by kernel_rfl

set_option maxHeartbeats 2000000 in
set_option maxRecDepth 100000 in
theorem cmNums_any (ws : List ByteArray) (v : Value) (w : World) (g : GlobN w) (h : TxO w v ws) :
    Calls Tryz.prog 38 #[v] w fun r w' => Below w.heap.size w w' ∧ ((numsOk ws ∧ ∃ v', r = .returned (.tuple #[v', .bool true]) ∧ w'.ownsRow w.heap.size 3 1 v' (numsV ws).length ((numsV ws).map (Value.int .i64))) ∨ (¬ numsOk ws ∧ r = .returned (.tuple #[.slice none 0 0, .bool false]))) := by
  obtain ⟨a, c, rfl, h8, hc, hcells⟩ := h
  obtain ⟨i0, hi, hz0, hz1, hz2⟩ := info_parts info_intC
  have HC : Hid (_) := hcells
  have HG : Hid (GlobN w) := g
  clear hcells g
  obtain ⟨L, hL⟩ : ∃ L, ws.length = L := ⟨_, rfl⟩
  rw [hL] at h8 hc ⊢
  have HL : Hid (ws.length = L) := hL
  clear hL
  go_enter Tryz.func38, Tryz.ntmps38
  go_wp2
  go_loopw [4, 6, 7, 8, 11] (fun v _ _ _ i wr => ∃ m : Nat, m ≤ L ∧ i = .int .i64 m ∧ (∃ a n c, v = .slice a n c) ∧ Hid (Below w.heap.size w wr ∧ wr.ownsRow w.heap.size 3 1 v (numsV (ws.take m)).length ((numsV (ws.take m)).map (Value.int .i64)) ∧ numsOk (ws.take m))) (fun _ _ _ _ i _ => L - (intOf i).toNat)
  case atStart => exact ⟨0, Nat.zero_le _, rfl, ⟨_, _, _, rfl⟩, Below.refl _ _, by rw [List.take_zero]; exact World.ownsRow_nil _ _ _ _, fun x hx => by rw [List.take_zero] at hx; cases hx⟩
  case round =>
    obtain ⟨m, hm, rfl, ⟨va, vn, vc, rfl⟩, HR⟩ := hrel
    by_cases hlt : m < L
    · have hmp : m < ws.length := by rw [HL.out]; exact hlt
      obtain ⟨b, o, rfl, hbl, hcell⟩ := HC.out m hmp
      have HTK : Hid (ws.take (m + 1) = ws.take m ++ [ws[m]]) := List.take_succ_eq_append_getElem hmp
      have HMEM : Hid (ws[m] ∈ ws) := List.getElem_mem hmp
      generalize ws[m] = x at hcell HTK HMEM
      have hcr := cell_step2 hcell HR.out.1
      have NR : Hid (Calls _ _ _ _ _) := numR_allC x wr (HG.out.step HR.out.1)
      clear hcell HC
      go_upto_region 6 with (fail)
      refine Calls.mono NR.out ?_
      rintro r w3 ⟨⟨hnum, rfl⟩ | ⟨n, hnum, rfl⟩, hb3⟩
      · have HNO : Hid (¬ numsOk ws) := fun q => by have := q x HMEM.out; rw [hnum] at this; cases this
        have HB3 : Hid (Below w.heap.size w w3) := below_then HR.out.1 hb3
        clear HR hb3 hnum HTK HMEM NR
        go_wp2
        go_ret2
        exact ⟨HB3.out, .inr ⟨HNO.out, rfl⟩⟩
      · have HB3 : Hid (Below w.heap.size w w3) := below_then HR.out.1 hb3
        have HOK : Hid (numsOk (ws.take (m + 1))) := fun y hy => by
          rw [HTK.out] at hy
          rcases List.mem_append.1 hy with q | q
          · exact HR.out.2.2 y q
          · rw [List.mem_singleton.1 q, hnum]; rfl
        have HNV : Hid (numsV (ws.take (m + 1)) = numsV (ws.take m) ++ [n]) := by show _ = _; rw [HTK.out]; exact numsV_snoc _ _ hnum
        have OW3 : Hid (w3.ownsRow w.heap.size 3 1 (.slice va vn vc) (numsV (ws.take m)).length ((numsV (ws.take m)).map (Value.int .i64))) := own_step HR.out.2.1 hb3
        have hVL : (numsV (ws.take m)).length ≤ 1000 := by unfold numsV; rw [List.length_map, List.length_take]; omega
        generalize numsV (ws.take m) = V at OW3 HNV hVL
        have hvn : vn = V.length := by
          obtain ⟨a9, c9, e9⟩ := own_formC OW3.out
          injection e9
        subst hvn
        have hzz : w.heap.size ≤ w3.heap.size := HB3.out.size
        have NC : Hid (_) := int_cellC w3 n
        clear HR hb3 hnum HTK HMEM NR
        go_upto_region 9 with (first
          | (at_builtin; refine wpList_append_own_at _ rfl _ _ 22 rfl w.heap.size 3 i0 (.int .i64 0) 1 8 Tryz.underlying22 hi hz0 hz1 hz2 rfl (by decide) _ _ _ rfl (World.ownsRow.alloc OW3.out (.cells #[.int .i64 n] 3)) ⟨w3.heap.size, 0, none⟩ 1 1 [.int .i64 n] rfl rfl NC.out (fun v hv => by rw [List.mem_singleton.1 hv]; rfl) (by unfold maxLen; omega) (by omega) (by rw [World.size_alloc]; omega) ?_; intro v' w5 hown' hgrow _ hat; have O5 : Hid (w5.ownsRow w.heap.size 3 1 v' (V ++ [n]).length ((V ++ [n]).map (Value.int .i64))) := (by rw [List.length_append, List.map_append]; exact hown'); have B5 : Hid (Below w.heap.size w w5) := (below_then HB3.out (below_alloc w3 (.cells #[.int .i64 n] 3))).grown hgrow (by rw [World.size_alloc]; omega) (fun k q => (World.ownsRow.lt OW3.out k q).1); obtain ⟨g', cap', rfl⟩ := ownsRow_succ hown'; clear hown' hgrow hat)
          | go_in)
        go_wp2
        go_roundw
        case rel => exact ⟨m + 1, by omega, by go_num, ⟨_, _, _, rfl⟩, B5.out, by rw [HNV.out]; exact O5.out, HOK.out⟩
        case measure => simp [intOf]; omega
    · have HE : Hid (Below w.heap.size w wr ∧ wr.ownsRow w.heap.size 3 1 (.slice va vn vc) (numsV ws).length ((numsV ws).map (Value.int .i64)) ∧ numsOk ws) := by
        have := HR.out
        rw [List.take_of_length_le (by have := HL.out; omega)] at this
        exact this
      clear HR HC
      go_wp2
      go_ret2
      exact ⟨HE.out.1, .inl ⟨HE.out.2.2, _, rfl, HE.out.2.1⟩⟩
end Go.Proofs.YtkjfbeempmfipaaGreatDoor
