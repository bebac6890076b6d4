/- Names of commits: Text. -/
import Derived.Test.YtcaeafgkogfgdaaGreatDoorRaAL
import Derived.Test.YtcaeafgkogfgdaaGreatDoorRaAD
import Derived.Test.YtcaeafgkogfgdaaGreatDoorRaAA
import Derived.Test.YtcaeafgkogfgdaaGreatDoorRaAC
import Derived.Shelf.Abstract
import Derived.Shelf.RegionOpen
import Derived.WalkKit
import Derived.OwnWalkIn
import Derived.TacticsInMore
import Derived.LoopNIn
import Derived.LoopIn
import Derived.BigRegion
namespace Go.Proofs.YtcaeafgkogfgdaaGreatDoor
open Go Go.RowKit Go.Maps Go.Sort Go.Shelf Cal
attribute [local go_sem] Oper.semAt_some

theorem rbwrite (B b : Nat) (l : List UInt8) (x : ByteArray) (w : World) (h : Lib.IsBuilderF 67 5 B b (Lib.byteCells l) w) (hlen : l.length + x.size ≤ 140737488355328) (hB : B ≤ w.heap.size) :
    Calls Tryz.prog 26 #[.pointer (some ⟨b, 0, none⟩), .string x] w fun r w' => r = .returned (.tuple #[.int .i64 x.size, .nilIface]) ∧ Lib.IsBuilderF 67 5 B b (Lib.byteCells (l ++ x.data.toList)) w' ∧ Below B w w' ∧ Lib.OthersKept 5 (some b) w w' := by
  refine Calls.mono (Any.Builder_WriteString_k Tryz.plys166 Tryz.Builder_Extra_pl B b (Lib.byteCells l) x w h (by rw [Lib.byteCells_length]; exact hlen) hB) ?_
  rintro r w' ⟨rfl, h1, h2, h3⟩
  refine ⟨rfl, .inr ?_, h2, h3⟩
  rw [Lib.byteCells_append, ← Lib.strCells_eq]
  exact h1
theorem rbstring (B b : Nat) (l : List UInt8) (w : World) (h : Lib.IsBuilderF 67 5 B b (Lib.byteCells l) w) (hB : B ≤ w.heap.size) :
    Calls Tryz.prog 28 #[.pointer (some ⟨b, 0, none⟩)] w fun r w' => r = .returned (.string (bs l)) ∧ Below B w w' := by
  refine Calls.mono (Any.Builder_String_any_k Tryz.plys169 Tryz.Builder_Extra_pl B b l w h hB) ?_
  rintro r w' ⟨rfl, h1, h2, h3⟩
  exact ⟨rfl, h2⟩
theorem rrow_kept {W W' : World} {B b cap : Nat} {l : List ByteArray} (h : RowS W B cap l) (hk : Lib.OthersKept 5 (some b) W W') (hne : B ≠ b) : RowS W' B cap l := by
  obtain ⟨⟨cur, h1, h2, h3⟩, h4⟩ := h
  exact ⟨⟨cur, hk B _ h1 (fun q => hne (Option.some.inj q)) (fun c fz q => by injection q with _ q2 _; exact absurd q2 (by decide)), h2, h3⟩, h4⟩
theorem rb_both {B : Nat} {a b c : World} (h : Below B a b) (k : Below B b c) : Below B a c := ⟨k.os.trans h.os, k.tape.trans h.tape, k.output.trans h.output, Nat.le_trans h.size k.size, fun i hi => (k.block i hi).trans (h.block i hi)⟩

/-- Text's builder and row of names -/
structure TxI (w W : World) (ns : List ByteArray) (ia : Option Addr) (ic : Nat) (acc : List UInt8) : Prop where
  b : Below w.heap.size w W
  z : w.heap.size + 1 ≤ W.heap.size
  d : Lib.IsBuilderF 67 5 w.heap.size w.heap.size (Lib.byteCells acc) W
  r : ns.length = 0 ∨ ∃ ib, ia = some ⟨ib, 0, none⟩ ∧ w.heap.size < ib ∧ RowS W ib ic ns
theorem TxI.step {w W W' : World} {ns : List ByteArray} {ia : Option Addr} {ic : Nat} {acc : List UInt8} (h : TxI w W ns ia ic acc) (hb : Below W.heap.size W W') : TxI w W' ns ia ic acc :=
  ⟨below_then h.b hb, Nat.le_trans h.z hb.size, pb_step h.d hb, h.r.imp id (fun ⟨ib, q1, q2, q3⟩ => ⟨ib, q1, q2, q3.step hb⟩)⟩
theorem TxI.write {w W : World} {ns : List ByteArray} {ia : Option Addr} {ic : Nat} {acc : List UInt8} (h : TxI w W ns ia ic acc) (x : ByteArray) (hl : acc.length + x.size ≤ 140737488355328) :
    Calls Tryz.prog 26 #[.pointer (some ⟨w.heap.size, 0, none⟩), .string x] W fun r w' => r = .returned (.tuple #[.int .i64 x.size, .nilIface]) ∧ TxI w w' ns ia ic (acc ++ x.data.toList) ∧ Lib.OthersKept 5 (some w.heap.size) W w' := by
  refine Calls.mono (rbwrite w.heap.size w.heap.size acc x W h.d hl (by have := h.z; omega)) ?_
  rintro r w' ⟨rfl, h1, h2, h3⟩
  exact ⟨rfl, ⟨rb_both h.b h2, Nat.le_trans h.z h2.size, h1, h.r.imp id (fun ⟨ib, q1, q2, q3⟩ => ⟨ib, q1, q2, rrow_kept q3 h3 (by omega)⟩)⟩, h3⟩
theorem ent_kept {w W W' : World} {B : Nat} {x y : Int} (h : W.heap[B]? = some (.cells #[.int .i64 x, .int .i64 y] 48 (0, 0))) (hk : Lib.OthersKept 5 (some w.heap.size) W W') (hne : B ≠ w.heap.size) : W'.heap[B]? = some (.cells #[.int .i64 x, .int .i64 y] 48 (0, 0)) :=
  hk B _ h (fun q => hne (Option.some.inj q)) (fun c fz q => by injection q with _ q2 _; exact absurd q2 (by decide))

theorem bs_cat (a b : List UInt8) : bs a ++ bs b = bs (a ++ b) := by
  refine rs_ext ?_
  rw [bs_data]
  simp [bs]
set_option maxHeartbeats 1000000 in
set_option maxRecDepth 100000 in
theorem entryText_any (x y : Int) (w : World) (ht : Tab w) (h : EnB (x, y)) :
    Calls Tryz.prog 27 #[.agg #[.int .i64 x, .int .i64 y]] w fun r w' => r = .returned (.string (bs (entT (x, y)))) ∧ Below w.heap.size w w' := by
  obtain ⟨h1, h2, h3, h4⟩ := h
  dsimp only at h1 h2 h3 h4
  have hA := below_alloc w (.cells #[.int .i64 x, .int .i64 y] 48)
  have HT : Hid (Tab w) := ht
  have lx : (bs (Lib.itoa x)).size ≤ 13 := by rw [Lib.size_eq, bs_data]; exact itoa_lenR x h1 h2
  unfold entT
  dsimp only
  by_cases q : y = -1
  · subst q
    rw [if_pos rfl]
    have IX : Hid (∀ W, Below w.heap.size w W → Calls Tryz.prog 38 #[.int .i64 x] W fun e w' => e = .returned (.string (bs (Lib.itoa x))) ∧ Below W.heap.size W w') := fun W hW => itoa_all x W h1 (by omega) (HT.out.step hW)
    have HTX : Hid (bs (Lib.itoa x) ++ ⟨#[58]⟩ ++ ⟨#[45]⟩ = bs (Lib.itoa x ++ [58] ++ [45])) := by
      show bs (Lib.itoa x) ++ bs [58] ++ bs [45] = _
      rw [bs_cat, bs_cat]
    generalize bs (Lib.itoa x ++ [58] ++ [45]) = tx at HTX
    generalize bs (Lib.itoa x) = sx at IX HTX lx
    have s1 : (⟨#[58]⟩ : ByteArray).size = 1 := rfl
    have s2 : (⟨#[45]⟩ : ByteArray).size = 1 := rfl
    have n1 : ¬ 9223372036854775807 < sx.size + 1 := by omega
    have n2 : ¬ 9223372036854775807 < sx.size + 1 + 1 := by omega
    clear ht
    go_enter Tryz.func27, Tryz.ntmps27
    go_wp2_with (go_at_call 38; refine Calls.mono (IX.out _ hA) ?_; rintro r w2 ⟨rfl, hb2⟩)
    go_ret
    exact ⟨by rw [← HTX.out]; rfl, below_then hA hb2⟩
  · rw [if_neg q]
    have ly : (bs (Lib.itoa y)).size ≤ 13 := by rw [Lib.size_eq, bs_data]; exact itoa_lenR y (by omega) h4
    have IX : Hid (∀ W, Below w.heap.size w W → Calls Tryz.prog 38 #[.int .i64 x] W fun e w' => e = .returned (.string (bs (Lib.itoa x))) ∧ Below W.heap.size W w') := fun W hW => itoa_all x W h1 (by omega) (HT.out.step hW)
    have IY : Hid (∀ W, Below w.heap.size w W → Calls Tryz.prog 38 #[.int .i64 y] W fun e w' => e = .returned (.string (bs (Lib.itoa y))) ∧ Below W.heap.size W w') := fun W hW => itoa_all y W (by omega) (by omega) (HT.out.step hW)
    have HTX : Hid (bs (Lib.itoa x) ++ ⟨#[58]⟩ ++ bs (Lib.itoa y) = bs (Lib.itoa x ++ [58] ++ Lib.itoa y)) := by
      show bs (Lib.itoa x) ++ bs [58] ++ bs (Lib.itoa y) = _
      rw [bs_cat, bs_cat]
    generalize bs (Lib.itoa x ++ [58] ++ Lib.itoa y) = tx at HTX
    generalize bs (Lib.itoa x) = sx at IX HTX lx
    generalize bs (Lib.itoa y) = sy at IY HTX ly
    have n1 : ¬ 9223372036854775807 < sx.size + 1 := by omega
    have n2 : ¬ 9223372036854775807 < sx.size + 1 + sy.size := by omega
    have q1 : (y == -1) = false := by rw [beq_eq_false_iff_ne]; exact q
    obtain ⟨d0, d1⟩ := ent_cells (show (w.alloc (.cells #[.int .i64 x, .int .i64 y] 48)).heap[w.heap.size]? = _ from block_at _ rfl)
    clear ht
    go_enter Tryz.func27, Tryz.ntmps27
    go_upto_region 4 with (go_at_call 38; refine Calls.mono (IY.out _ hA) ?_; rintro r w2 ⟨rfl, hb2⟩)
    have d0 := cell_step d0 hb2
    go_wp2_with (go_at_call 38; refine Calls.mono (IX.out _ (below_then hA hb2)) ?_; rintro r w3 ⟨rfl, hb3⟩)
    go_ret
    exact ⟨by rw [← HTX.out]; rfl, below_then hA (below_then hb2 hb3)⟩

set_option maxHeartbeats 4000000 in
set_option maxRecDepth 100000 in
theorem rtext_any (lo rb mb n : Nat) (ns : List ByteArray) (L : ByteArray → List (Int × Int)) (w : World) (ht : Tab w) (h : RefsAt lo w rb mb n ns L) (hw : RW ns L) (hn : n ≤ 80000) (h8 : ns.length ≤ 100) (hl : ∀ x, (L x).length ≤ 100) :
    Calls Tryz.prog 11 #[.pointer (some ⟨rb, 0, none⟩)] w fun r w' => r = .returned (.string (bs (rfT ns L))) ∧ Below w.heap.size w w' := by
  have hEB : ∀ s, ∀ e ∈ L s, EnB e := fun s e he => (hw.en s).bd e he
  have hA := below_alloc w (.cells #[.pointer none, .slice none 0 0] 67)
  have AL : Hid (Calls _ _ _ _ _) := allNames_any lo rb mb n ns L _ (h.step hA) (by omega)
  have HBD : Hid (Lib.IsBuilderF 67 5 w.heap.size w.heap.size (Lib.byteCells []) (w.alloc (.cells #[.pointer none, .slice none 0 0] 67))) := Lib.IsBuilderF.of (Lib.fresh_isBuilder _ _ w)
  have HZ : Hid ((w.alloc (.cells #[.pointer none, .slice none 0 0] 67)).heap.size = w.heap.size + 1) := World.size_alloc _ _
  have HA : Hid (_) := hA
  generalize htx : bs (rfT ns L) = tx
  have HTX : Hid (bs (rfT ns L) = tx) := htx
  have hLn : ∀ m, (rfT (ns.take m) L).length ≤ 1000000 := fun m => by
    have := rfT_len (ns := ns.take m) (L := L) (k := 100) (fun s hs => hw.nm s (List.mem_of_mem_take hs)) hEB hl
    have h9 : (ns.take m).length ≤ 100 := by rw [List.length_take]; omega
    have : (ns.take m).length * (13 + 100 * 28) ≤ 100 * (13 + 100 * 28) := Nat.mul_le_mul_right _ h9
    omega
  have HLN : Hid (∀ m, (rfT (ns.take m) L).length ≤ 1000000) := hLn
  have HT : Hid (Tab w) := ht
  have HR : Hid (RefsAt lo w rb mb n ns L) := h
  have HW : Hid (RW ns L) := hw
  have HE : Hid (∀ s, ∀ e ∈ L s, EnB e) := hEB
  have HLS : Hid (∀ x, (L x).length ≤ 100) := hl
  clear hA h hw ht hEB hl htx hLn
  go_enter Tryz.func11, Tryz.ntmps11
  generalize hw0 : w.alloc (.cells #[.pointer none, .slice none 0 0] 67) = w0 at AL HBD HA HZ
  go_wp2_with (go_at_call 15; refine Calls.mono AL.out ?_; rintro r w1 ⟨vid, rfl, hrid, hb1⟩; have HRID : Hid (RowV w0.heap.size w1 vid ns) := hrid; obtain ⟨ia, ic, rfl⟩ := hrid.form)
  have HI1 : Hid (TxI w w1 ns ia ic (rfT (ns.take 0) L)) := by
    refine ⟨below_then HA.out hb1, by rw [← HZ.out]; exact hb1.size, ?_, ?_⟩
    · exact pb_step HBD.out hb1
    · rcases HRID.out with ⟨q1, q2⟩ | ⟨ib, cap, q1, q2, q3⟩
      · left; rw [q2]; rfl
      · right
        have hz := HZ.out
        injection q1 with a1 a2 a3
        exact ⟨ib, a1, by omega, by rw [a3]; exact q3⟩
  clear AL HBD hb1 hrid HRID HA HZ
  go_loopw [11] (fun i wr => ∃ m : Nat, m ≤ ns.length ∧ i = .int .i64 m ∧ Hid (TxI w wr ns ia ic (rfT (ns.take m) L))) (fun i _ => ns.length - (intOf i).toNat)
  case atStart => exact ⟨0, Nat.zero_le _, rfl, HI1.out⟩
  case round =>
    obtain ⟨m, hm, rfl, HI⟩ := hrel
    clear HI1
    by_cases hlt : m < ns.length
    · obtain ⟨ib, rfl, hib, hrow⟩ : ∃ ib, ia = some ⟨ib, 0, none⟩ ∧ w.heap.size < ib ∧ RowS wr ib ic ns := by
        rcases HI.out.r with q | q
        · omega
        · exact q
      have hcr := hrow.cell m hlt
      have hmem : ns[m] ∈ ns := List.getElem_mem hlt
      have hok := HW.out.nm _ hmem
      have hsz : ns[m].size ≤ 12 := hok.2.2
      have HTK : Hid (rfT (ns.take (m + 1)) L = rfT (ns.take m) L ++ (ns[m].data.toList ++ logT (L ns[m])) ++ [10]) := by
        show _ = _
        rw [List.take_succ_eq_append_getElem hlt, rfT_snoc]; rfl
      obtain ⟨v, LK, hv⟩ := HR.out.look ns[m] (by omega)
      have hLm := HLS.out ns[m]
      obtain ⟨va, vc, rfl⟩ := hv.form
      have HMV : Hid (Movs w (.slice va (L ns[m]).length vc) (L ns[m])) := hv.movs (by omega)
      have HLK : Hid (∀ W, Below w.heap.size w W → (Instr.lookup 43 (.map (some mb)) (.string ns[m]) false).run Tryz.prog W = .ok (.slice va (L ns[m]).length vc) W) := fun W hW => (rlook_step HR.out (by omega) LK hW).1
      have HEm : Hid (∀ e ∈ L ns[m], EnB e) := HE.out ns[m]
      have hl1 : (rfT (ns.take m) L).length ≤ 1000000 := HLN.out m
      clear hrow LK hv hmem hok HLN HLS HE
      generalize ns[m] = nm at hcr HTK HMV HLK HEm hsz hLm
      generalize L nm = l at HTK HMV HLK HEm hLm
      generalize rfT (ns.take m) L = acc at HI HTK hl1
      have WR : Hid (Calls _ _ _ _ _) := HI.out.write nm (by omega)
      go_upto_region 6 with (go_at_call 26; refine Calls.mono WR.out ?_; rintro r w2 ⟨rfl, hI2, _⟩)
      have LK2 := HLK.out w2 hI2.b
      have hc2 := (HR.out.step hI2.b).cell
      have HI2 : Hid (TxI w w2 ns (some ⟨ib, 0, none⟩) ic (acc ++ (nm.data.toList ++ logT (l.take 0)))) := by
        have e : acc ++ (nm.data.toList ++ logT (l.take 0)) = acc ++ nm.data.toList := by simp [logT]
        show TxI _ _ _ _ _ _
        rw [e]
        exact hI2
      clear hI2 WR HI HLK
      go_wp2
      go_loopw [24] (fun i wr => ∃ j : Nat, j ≤ l.length ∧ i = .int .i64 j ∧ Hid (TxI w wr ns (some ⟨ib, 0, none⟩) ic (acc ++ (nm.data.toList ++ logT (l.take j))))) (fun i _ => l.length - (intOf i).toNat)
      case atStart => exact ⟨0, Nat.zero_le _, rfl, HI2.out⟩
      case round =>
        obtain ⟨j, hj, rfl, HJ⟩ := hrel
        clear HI2 LK2 hc2
        by_cases hjl : j < l.length
        · obtain ⟨a', c', e', _, _, hcell⟩ := HMV.out
          injection e' with ea _ ec
          subst ea ec
          obtain ⟨b, rfl, hbl, c1, c2⟩ := hcell j hjl
          have c1 := cell_step c1 HJ.out.b
          have c2 := cell_step c2 HJ.out.b
          have hE := HEm.out l[j] (List.getElem_mem hjl)
          have HSN : Hid (logT (l.take (j + 1)) = logT (l.take j) ++ [32] ++ entT l[j]) := by
            show _ = _
            rw [List.take_succ_eq_append_getElem hjl, logT_snoc]
          have hll : (logT (l.take j)).length ≤ 2800 := by
            have := logT_len (l := l.take j) (fun e he => HEm.out e (List.mem_of_mem_take he))
            rw [List.length_take] at this
            omega
          have hes : (entT l[j]).length ≤ 27 := entT_len hE
          have hnl : nm.data.toList.length ≤ 12 := by rw [← Lib.size_eq]; exact hsz
          clear hcell HMV HEm
          generalize l[j] = e at c1 c2 hE HSN hes
          obtain ⟨x, y⟩ := e
          dsimp only at c1 c2
          have HEB : Hid (EnB (x, y)) := hE
          clear hE
          generalize logT (l.take j) = lt at HJ HSN hll
          have hA := below_alloc wr (.cells #[.int .i64 x, .int .i64 y] 48)
          have kb : (wr.alloc (.cells #[.int .i64 x, .int .i64 y] 48)).heap[wr.heap.size]? = some (.cells #[.int .i64 x, .int .i64 y] 48 (0, 0)) := block_at _ rfl
          have hne : wr.heap.size ≠ w.heap.size := by have := HJ.out.z; omega
          have WS : Hid (Calls _ _ _ _ _) := (HJ.out.step hA).write ⟨#[32]⟩ (by
            have : (⟨#[32]⟩ : ByteArray).size = 1 := rfl
            rw [List.length_append, List.length_append, this]; omega)
          have HKB : Hid (_) := kb
          clear kb
          go_upto_region 10 with (go_at_call 26; refine Calls.mono WS.out ?_; rintro r w3 ⟨rfl, hI3, hk3⟩)
          have kb3 := ent_kept HKB.out hk3 hne
          obtain ⟨d0, d1⟩ := ent_cells kb3
          have ET : Hid (Calls _ _ _ _ _) := entryText_any x y w3 (HT.out.step hI3.b) HEB.out
          have HI3 : Hid (TxI w w3 ns (some ⟨ib, 0, none⟩) ic (acc ++ (nm.data.toList ++ lt) ++ [32])) := hI3
          have hsz2 : (bs (entT (x, y))).size ≤ 27 := by rw [Lib.size_eq, bs_data]; exact hes
          have HWE : Hid (∀ W, Below w3.heap.size w3 W → Calls Tryz.prog 26 #[.pointer (some ⟨w.heap.size, 0, none⟩), .string (bs (entT (x, y)))] W fun r w' => r = .returned (.tuple #[.int .i64 (bs (entT (x, y))).size, .nilIface]) ∧ TxI w w' ns (some ⟨ib, 0, none⟩) ic (acc ++ (nm.data.toList ++ lt) ++ [32] ++ (bs (entT (x, y))).data.toList) ∧ Lib.OthersKept 5 (some w.heap.size) W w') := fun W hW => (HI3.out.step hW).write _ (by rw [List.length_append, List.length_append, List.length_append]; simp only [List.length_cons, List.length_nil]; omega)
          have HDT : Hid ((bs (entT (x, y))).data.toList = entT (x, y)) := bs_data _
          clear hI3 hk3 kb3 WS HKB
          generalize bs (entT (x, y)) = et at ET HWE HDT
          go_wp2_with (first
            | (go_at_call 27; refine Calls.mono ET.out ?_; rintro r w4 ⟨rfl, hb4⟩)
            | (go_at_call 26; refine Calls.mono (HWE.out _ hb4) ?_; rintro r w5 ⟨rfl, hI5, hk5⟩))
          go_roundw
          case rel =>
            refine ⟨j + 1, by omega, by go_num, ?_⟩
            show TxI _ _ _ _ _ _
            have e : acc ++ (nm.data.toList ++ logT (l.take (j + 1))) = acc ++ (nm.data.toList ++ lt) ++ [32] ++ et.data.toList := by
              rw [HSN.out, HDT.out]; simp
            rw [e]
            exact hI5
          case measure => simp [intOf]; omega
        · have hjf : l.take j = l := List.take_of_length_le (by omega)
          have HJF : Hid (TxI w wr ns (some ⟨ib, 0, none⟩) ic (acc ++ (nm.data.toList ++ logT l))) := by
            have := HJ.out
            rw [hjf] at this
            exact this
          have hll : (logT l).length ≤ 2800 := by
            have := logT_len HEm.out
            omega
          have hnl : nm.data.toList.length ≤ 12 := by rw [← Lib.size_eq]; exact hsz
          have WN : Hid (Calls _ _ _ _ _) := HJF.out.write ⟨#[10]⟩ (by
            have : (⟨#[10]⟩ : ByteArray).size = 1 := rfl
            rw [List.length_append, List.length_append, this]; omega)
          clear HJ HJF hjf HMV HEm
          go_wp2_with (go_at_call 26; refine Calls.mono WN.out ?_; rintro r w3 ⟨rfl, hI3, hk3⟩)
          go_roundw
          case rel =>
            refine ⟨m + 1, by omega, by go_num, ?_⟩
            show TxI _ _ _ _ _ _
            rw [HTK.out]
            exact hI3
          case measure => simp [intOf]; omega
    · have hfin : ns.take m = ns := List.take_of_length_le (by omega)
      have HBE : Hid (Calls Tryz.prog 28 #[.pointer (some ⟨w.heap.size, 0, none⟩)] wr fun r w' => r = .returned (.string (bs (rfT ns L))) ∧ Below w.heap.size wr w') := by
        have := HI.out.d
        rw [hfin] at this
        exact rbstring w.heap.size w.heap.size (rfT ns L) wr this (by have := HI.out.z; omega)
      have HB : Hid (Below w.heap.size w wr) := HI.out.b
      clear HI hfin
      rw [HTX.out] at HBE
      go_wp2_with (go_at_call 28; refine Calls.mono HBE.out ?_; rintro r w5 ⟨rfl, hb5⟩)
      go_ret
      exact ⟨rfl, rb_both HB.out hb5⟩
end Go.Proofs.YtcaeafgkogfgdaaGreatDoor

/- The iterator of strings.SplitSeq at a separator of one sign: it gives a text's pieces, one by one; between two rounds it writes its own variable. -/
namespace Go.Proofs.YtcaeafgkogfgdaaGreatDoor
open Go Go.RowKit Go.Shelf Cal
attribute [local go_sem] Oper.semAt_some

theorem ba_ext {a b : ByteArray} (h : a.data.toList = b.data.toList) : a = b := by
  obtain ⟨⟨x⟩⟩ := a
  obtain ⟨⟨y⟩⟩ := b
  have : x = y := h
  subst this
  rfl

/-- what is left of the text, read off the world -/
def leftOf (W : World) (B : Nat) : Nat := match W.cell? ⟨B, 0, none⟩ with
  | some (.string s) => s.size + 1
  | _ => 0

/-- the iterator's three variables -/
structure Its (W : World) (Bs Bp Bv : Nat) (s : ByteArray) (c : UInt8) : Prop where
  s : Boxed W Bs 9 (.string s)
  p : Boxed W Bp 9 (.string ⟨#[c]⟩)
  v : Boxed W Bv 3 (.int .i64 0)

theorem leftOf_eq {W : World} {B : Nat} {s : ByteArray} {t : TypeId} (h : Boxed W B t (.string s)) : leftOf W B = s.size + 1 := by
  unfold leftOf; rw [h.cell]

end Go.Proofs.YtcaeafgkogfgdaaGreatDoor

/- strings.Split, strings.Cut and package event's itemsOf, at one sign. -/
namespace Go.Proofs.YtcaeafgkogfgdaaGreatDoor
open Go Go.RowKit Go.Shelf Cal
attribute [local go_sem] Oper.semAt_some

/-- the row of a text's pieces -/
def pcO (ws : List (List UInt8)) : Obj := .cells (ws.map sv).toArray 9
/-- words in memory -/
def Wds (W : World) (v : Value) (ws : List (List UInt8)) : Prop :=
  ∃ (a : Option Addr) (c : Nat), v = .slice a ws.length c ∧ ws.length ≤ c ∧ ∀ (j : Nat) (h : j < ws.length), ∃ b, a = some ⟨b, 0, none⟩ ∧ b < W.heap.size ∧ W.cell? ⟨b, j, none⟩ = some (sv ws[j])
theorem Wds.step {W W' : World} {v : Value} {ws : List (List UInt8)} (h : Wds W v ws) (hb : Below W.heap.size W W') : Wds W' v ws := by
  obtain ⟨a, c, h1, h2, h3⟩ := h
  refine ⟨a, c, h1, h2, fun j hj => ?_⟩
  obtain ⟨b, e, hl, hc⟩ := h3 j hj
  exact ⟨b, e, Nat.lt_of_lt_of_le hl hb.size, cell_step hc hb⟩
theorem Wds.nil (W : World) (c : Nat) : Wds W (.slice none 0 c) [] := ⟨none, c, rfl, by simp, fun j h => absurd h (by simp)⟩
theorem Wds.new (w : World) (ws : List (List UInt8)) : Wds (w.alloc (pcO ws)) (.slice (some ⟨w.heap.size, 0, none⟩) ws.length ws.length) ws := by
  refine ⟨_, _, rfl, Nat.le_refl _, fun j hj => ⟨w.heap.size, rfl, by rw [World.size_alloc]; exact Nat.lt_succ_self _, ?_⟩⟩
  unfold pcO
  rw [World.cell?_alloc_new]
  simp [List.getElem?_eq_getElem hj]

theorem genSplit_any (s : ByteArray) (c : UInt8) (w : World) (hs : s.size ≤ 1000000) :
    Calls Tryz.prog 53 #[.string s, .string ⟨#[c]⟩, .int .i64 0, .int .i64 (-1)] w fun r w' =>
      r = .returned (.slice (some ⟨w.heap.size, 0, none⟩) (pieces c s.data.toList).length (pieces c s.data.toList).length) ∧ w' = w.alloc (pcO (pieces c s.data.toList)) := by
  have h1 : 1 ≤ ByteArray.size ⟨#[c]⟩ := Nat.le_refl 1
  have hle := Lib.countB_le ⟨#[c]⟩ h1 s.size s (Nat.le_refl _)
  have hlen := Lib.splitB_all ⟨#[c]⟩ h1 0 _ s rfl
  have hp := splitB_one c _ s rfl
  have k := Any.strings_genSplit_core Tryz.lays221 (by kernel_rfl) s ⟨#[c]⟩ 0 (-1) (Lib.countB s ⟨#[c]⟩ + 1) w (by omega) h1 (Nat.zero_le _)
    (fun x cs _ => (Tryz.strings_Index_one x c _).mono (fun e w' h => ⟨by rw [h.1]; exact congrArg (fun n => Ending.returned (.int .i64 n)) (Lib.index_one x.data.toList c).symm, h.2⟩))
    ((Tryz.strings_Count_one s c w).mono (fun e w' h => ⟨by rw [h.1]; exact congrArg (fun n : Nat => Ending.returned (.int .i64 (n : Int))) (Lib.count_one c s.data.toList).symm, h.2⟩))
    (by decide) (by decide) (by rw [if_pos (by decide)]; omega)
  rw [Nat.add_sub_cancel, hlen] at k
  have e1 : (pieces c s.data.toList).length = Lib.countB s ⟨#[c]⟩ + 1 := by rw [← hp, List.length_map, hlen]
  have e2 : Lib.cellsOf (Lib.splitB ⟨#[c]⟩ 0 (Lib.countB s ⟨#[c]⟩) s) (Lib.countB s ⟨#[c]⟩ + 1) = ((pieces c s.data.toList).map sv).toArray := by
    rw [← hlen, Lib.cellsOf_full, ← hp, List.map_map]
    rfl
  rw [e2] at k
  unfold pcO
  rw [e1]
  exact k

theorem split_any (s : ByteArray) (c : UInt8) (w : World) (hs : s.size ≤ 1000000) :
    Calls Tryz.prog 44 #[.string s, .string ⟨#[c]⟩] w fun r w' =>
      r = .returned (.slice (some ⟨w.heap.size, 0, none⟩) (pieces c s.data.toList).length (pieces c s.data.toList).length) ∧ w' = w.alloc (pcO (pieces c s.data.toList)) := by
  have G : Hid (_) := genSplit_any s c w hs
  generalize pieces c s.data.toList = ws at G ⊢
  go_enter Tryz.func44, Tryz.ntmps44
  go_wp2_with (go_at_call 53; refine Calls.mono G.out ?_; rintro r w' ⟨rfl, rfl⟩)
  go_ret
  exact ⟨rfl, rfl⟩

set_option maxHeartbeats 1000000 in
theorem slCut_any (m : Int × Int) (w : World) :
    Calls Tryz.prog 72 #[.string (bs (mtx m)), .string ⟨#[62]⟩] w fun r w' => r = .returned (.tuple #[.string (bs (dtx m.1)), .string (bs (dtx m.2)), .bool true]) ∧ Below w.heap.size w w' := by
  have hi := mtx_index m
  have hlen : (bs (mtx m)).size = (dtx m.1).length + (1 + (dtx m.2).length) := by show (mtx m).toArray.size = _; unfold mtx; simp; omega
  have hl1 := dtx_len m.1
  have e1 : (bs (mtx m)).extract 0 (dtx m.1).length = bs (dtx m.1) := ba_ext (by rw [Lib.extract_from_zero, bs_data, bs_data]; unfold mtx; simp)
  have e2 : (bs (mtx m)).extract ((dtx m.1).length + 1) (bs (mtx m)).size = bs (dtx m.2) := ba_ext (by rw [Lib.extract_to_end, bs_data, bs_data]; unfold mtx; simp)
  have I : Hid (∀ W, Calls Tryz.prog 87 #[.string (bs (mtx m)), .string ⟨#[62]⟩] W fun r w' => r = .returned (.int .i64 (dtx m.1).length) ∧ w' = W) := fun W => by
    have := Tryz.stringslite_Index_one (bs (mtx m)) 62 W
    rw [bs_data, hi] at this
    exact this
  generalize bs (mtx m) = s at hlen e1 e2 I ⊢
  generalize bs (dtx m.1) = s1 at e1 ⊢
  generalize bs (dtx m.2) = s2 at e2 ⊢
  generalize (dtx m.1).length = i at hlen hl1 e1 e2 I
  generalize (dtx m.2).length = j at hlen
  have c1 : (0 : Int) ≤ (i : Int) := by omega
  have c2 : (i : Int) ≤ (s.size : Int) := by omega
  have c3 : (0 : Int) ≤ (i : Int) + 1 := by omega
  have c4 : (i : Int) + 1 ≤ (s.size : Int) := by omega
  have E1 : Hid (_) := e1
  have E2 : Hid (_) := e2
  clear e1 e2 hi hlen
  go_enter Tryz.func72, Tryz.ntmps72
  go_wp2_with (go_at_call 87; refine Calls.mono (I.out _) ?_; rintro r w' ⟨rfl, rfl⟩)
  go_region
  go_wp2
  go_ret3
  refine ⟨?_, drew_below _⟩
  simp
  exact ⟨E1.out, E2.out⟩
theorem cut_any (m : Int × Int) (w : World) :
    Calls Tryz.prog 54 #[.string (bs (mtx m)), .string ⟨#[62]⟩] w fun r w' => r = .returned (.tuple #[.string (bs (dtx m.1)), .string (bs (dtx m.2)), .bool true]) ∧ Below w.heap.size w w' := by
  have C : Hid (_) := slCut_any m w
  generalize bs (mtx m) = s at C ⊢
  generalize bs (dtx m.1) = s1 at C ⊢
  generalize bs (dtx m.2) = s2 at C ⊢
  go_enter Tryz.func54, Tryz.ntmps54
  go_wp2_with (go_at_call 72; refine Calls.mono C.out ?_; rintro r w' ⟨rfl, hb⟩)
  go_ret3
  exact ⟨rfl, hb⟩
end Go.Proofs.YtcaeafgkogfgdaaGreatDoor
