/- Texts: Put, putNew. -/
import Derived.Test.YtbocknocmggcpaaGreatDoorPlA
import Derived.Lib.SmallJoins
import Derived.Deep.DeepCutAuto
import Derived.WalkArith
namespace Go.Proofs.YtbocknocmggcpaaGreatDoor
open Go Go.RowKit Go.Maps Cal
attribute [local go_sem] Oper.semAt_some

theorem pl_drew (w : World) (n : Nat) : Below w.heap.size w (w.drewN n) := ⟨rfl, rfl, rfl, Nat.le_refl _, fun _ _ => rfl⟩
theorem pl_info : (Tryz.prog.info? 9).map (fun i => (i.zero, i.size, i.bytes)) = some (some (.string ⟨#[]⟩), 1, 16) := by kernel_rfl
/-- the errors of package pool -/
structure GlobP (s : Nat → Addr) (w : World) : Prop where
  text : w.cell? ⟨0, 0, none⟩ = some (.iface 173 (.pointer (some (s 0))))
  bound : w.cell? ⟨1, 0, none⟩ = some (.iface 173 (.pointer (some (s 1))))
  none_ : w.cell? ⟨3, 0, none⟩ = some (.iface 173 (.pointer (some (s 2))))
  exist : w.cell? ⟨4, 0, none⟩ = some (.iface 173 (.pointer (some (s 3))))
  full : w.cell? ⟨2, 0, none⟩ = some (.iface 173 (.pointer (some (s 4))))
theorem GlobP.step {s : Nat → Addr} {w w' : World} (h : GlobP s w) (hb : Below w.heap.size w w') : GlobP s w' := ⟨cell_step h.text hb, cell_step h.bound hb, cell_step h.none_ hb, cell_step h.exist hb, cell_step h.full hb⟩
/-- an error of a pool: 1 text, 2 bound, 3 exist, 4 full, 5 none -/
def perr (s : Nat → Addr) (k : Nat) : Value := .iface 173 (.pointer (some (s (if k = 1 then 0 else if k = 2 then 1 else if k = 3 then 3 else if k = 4 then 4 else 2))))

set_option maxRecDepth 100000 in
theorem pput_long (pb : Nat) (x : ByteArray) (s : Nat → Addr) (w : World) (g : GlobP s w) (hx : 10000 < x.size) :
    Calls Tryz.prog 27 #[.pointer (some ⟨pb, 0, none⟩), .string x] w fun r w' => r = .returned (.tuple #[.int .i64 0, perr s 2]) ∧ Below w.heap.size w w' := by
  have hB := g.bound
  have hx' : (10000 : Int) < (x.size : Int) := by omega
  clear g
  go_enter Tryz.func27, Tryz.ntmps27
  go_wp2
  go_quiet (fail)
  go_wp2
  go_ret2
  exact ⟨rfl, pl_drew _ _⟩

set_option maxRecDepth 100000 in
theorem pput_old (lo pb mb : Nat) (tv : Value) (ts : List ByteArray) (x : ByteArray) (i : Nat) (w : World) (h : PoolAt lo w pb mb tv ts) (hx : x.size ≤ 10000) (hi : ts[i]? = some x) :
    Calls Tryz.prog 27 #[.pointer (some ⟨pb, 0, none⟩), .string x] w fun r w' => r = .returned (.tuple #[.int .i64 i, .nilIface]) ∧ w' = w := by
  have F : Hid (Calls Tryz.prog 51 #[.pointer (some ⟨pb, 0, none⟩), .string x] w fun r w' => w' = w ∧ r = .returned (.tuple #[.int .i64 i, .bool true])) := by
    refine Calls.mono (pfind_any lo pb mb tv ts x w h (by omega)) ?_
    rintro r w' ⟨rfl, hr⟩
    obtain ⟨D, hown, hl⟩ := h.map
    rcases hr with ⟨j, hj, rfl⟩ | ⟨hn, _⟩
    · have e1 := ((hl x).1 i hi).2
      have e2 := ((hl x).1 j hj).2
      rw [e1] at e2
      have e : (i : Int) = j := by injection e2 with q; injection q
      exact ⟨rfl, by rw [e]⟩
    · exact absurd (List.mem_of_getElem? hi) hn
  have hx' : (x.size : Int) ≤ 10000 := by omega
  clear h hi
  go_enter Tryz.func27, Tryz.ntmps27
  go_wp2_with (go_at_call 51; refine Calls.mono F.out ?_; rintro r w' ⟨hq, rfl⟩; have hq := hq.symm; subst hq)
  go_ret2
  exact ⟨rfl, rfl⟩

set_option maxRecDepth 100000 in
theorem pput_full (lo pb mb : Nat) (tv : Value) (ts : List ByteArray) (x : ByteArray) (s : Nat → Addr) (w : World) (g : GlobP s w) (h : PoolAt lo w pb mb tv ts) (hx : x.size ≤ 10000) (hm : x ∉ ts) (hl : 1000 ≤ ts.length) :
    Calls Tryz.prog 27 #[.pointer (some ⟨pb, 0, none⟩), .string x] w fun r w' => r = .returned (.tuple #[.int .i64 0, perr s 4]) ∧ Below w.heap.size w w' := by
  have F : Hid (Calls Tryz.prog 51 #[.pointer (some ⟨pb, 0, none⟩), .string x] w fun r w' => w' = w ∧ r = .returned (.tuple #[.int .i64 0, .bool false])) := by
    refine Calls.mono (pfind_any lo pb mb tv ts x w h (by omega)) ?_
    rintro r w' ⟨rfl, hr⟩
    rcases hr with ⟨j, hj, rfl⟩ | ⟨hn, rfl⟩
    · exact absurd (List.mem_of_getElem? hj) hm
    · exact ⟨rfl, rfl⟩
  have L : Hid (Calls _ _ _ _ _) := plen_any lo pb mb tv ts w h
  have hB := g.full
  have hx' : (x.size : Int) ≤ 10000 := by omega
  have hl' : (1000 : Int) ≤ (ts.length : Int) := by omega
  clear h g hm
  go_enter Tryz.func27, Tryz.ntmps27
  go_wp2_with (first
    | (go_at_call 51; refine Calls.mono F.out ?_; rintro r w' ⟨hq, rfl⟩; have hq := hq.symm; subst hq)
    | (go_at_call 30; refine Calls.mono L.out ?_; rintro r w' ⟨rfl, hq⟩; have hq := hq.symm; subst hq))
  go_quiet (fail)
  go_wp2
  go_ret2
  exact ⟨rfl, pl_drew _ _⟩

set_option maxHeartbeats 1000000 in
set_option maxRecDepth 100000 in
theorem pput_new (lo pb mb : Nat) (tv : Value) (ts : List ByteArray) (x : ByteArray) (w : World) (h : PoolAt lo w pb mb tv ts) (hx : x.size ≤ 10000) (hm : x ∉ ts) (hl : ts.length < 1000) :
    Calls Tryz.prog 27 #[.pointer (some ⟨pb, 0, none⟩), .string x] w fun r w' => r = .returned (.tuple #[.int .i64 ts.length, .nilIface]) ∧ ∃ tv', PoolAt lo w' pb mb tv' (ts ++ [x]) ∧ PKept w w' pb mb tv ∧ (tv'.ownBlock = tv.ownBlock ∨ ∃ k, w.heap.size ≤ k ∧ tv'.ownBlock = some k) := by
  have F : Hid (Calls Tryz.prog 51 #[.pointer (some ⟨pb, 0, none⟩), .string x] w fun r w' => w' = w ∧ r = .returned (.tuple #[.int .i64 0, .bool false])) := by
    refine Calls.mono (pfind_any lo pb mb tv ts x w h (by omega)) ?_
    rintro r w' ⟨rfl, hr⟩
    rcases hr with ⟨j, hj, rfl⟩ | ⟨hn, rfl⟩
    · exact absurd (List.mem_of_getElem? hj) hm
    · exact ⟨rfl, rfl⟩
  have L : Hid (Calls _ _ _ _ _) := plen_any lo pb mb tv ts w h
  have x0 := h.cells.1
  obtain ⟨i0, hi, hz0, hz1, hz2⟩ := info_parts pl_info
  obtain ⟨D, hown, hlook⟩ := h.map
  have hA := below_alloc w (.cells #[.string x] 9)
  have HROW : Hid (World.ownsRow (w.alloc (.cells #[.string x] 9)) lo 9 1 tv ts.length (ts.map Value.string)) := (h.step hA).row
  have HBLK : Hid (w.heap[pb]? = some (.cells #[tv, .map (some mb)] 88 (0, 0))) := h.blk
  have HOWN : Hid (World.ownsMap _ _ _ _ _ _ _) := hown
  have HLOOK : Hid (PLook D ts) := hlook
  have HKY : Hid (keyOf Tryz.prog 9 (.string x) = some (plKey x)) := plKey_of (by omega)
  have HP : Hid (pb < lo ∧ mb < lo ∧ mb ≠ pb ∧ lo ≤ w.heap.size) := ⟨h.hp, h.hm, h.ne, h.le⟩
  have HNB : Hid (∀ k, k < lo → tv.ownBlock ≠ some k) := fun k hk q => by have := (World.ownsRow.lt h.row k q).1; omega
  have HMEM : Hid (x ∉ ts) := hm
  have HROW0 : Hid (∀ k, tv.ownBlock = some k → k < w.heap.size) := fun k q => (World.ownsRow.lt h.row k q).2
  have hx' : (x.size : Int) ≤ 10000 := by omega
  have hl' : (ts.length : Int) < 1000 := by omega
  have HV : Hid (plainElem (H := Value) Tryz.prog 3 (.int .i64 ts.length) = some (.lit (.int .i64 ts.length), [])) := plainElem_int Tryz.underlying3 (Go.WalkArith.wf_i64 (by omega))
  have HNM : Hid (ts.length < maxLen) := by show ts.length < maxLen; unfold maxLen; omega
  have NC : Hid (∀ (j : Nat) (u : Value), [Value.string x][j]? = some u → (w.alloc (.cells #[.string x] 9)).cell? ((⟨w.heap.size, 0, none⟩ : Addr).add j) = some u) := fun j u hj => by
    match j, hj with
    | 0, hj => simp at hj; subst hj; simp [Addr.add]
  obtain ⟨ta, tc, rfl, _⟩ := h.form
  clear h hm hown hlook
  go_enter Tryz.func27, Tryz.ntmps27
  go_upto_region 9 with (first
    | (go_at_call 51; refine Calls.mono F.out ?_; rintro r w' ⟨hq, rfl⟩; have hq := hq.symm; subst hq)
    | (go_at_call 30; refine Calls.mono L.out ?_; rintro r w' ⟨rfl, hq⟩; have hq := hq.symm; subst hq))
  clear F L
  go_upto_region 10 with (at_builtin; refine wpList_append_own_at _ rfl _ _ 22 rfl lo 9 i0 (.string ⟨#[]⟩) 1 16 Tryz.underlying22 hi hz0 hz1 hz2 rfl (by decide) _ _ _ rfl HROW.out ⟨w.heap.size, 0, none⟩ 1 1 [.string x] rfl rfl NC.out (fun v hv => by rw [List.mem_singleton.1 hv]; rfl) (by unfold maxLen; omega) (by omega) (by have := HP.out.2.2.2; rw [World.size_alloc]; omega) ?_; intro v' w3 hown' hgrow _ hat; obtain ⟨gb, capb, rfl⟩ := Joins.ownsRow_form hown' (by omega); have hblk3 : w3.heap[pb]? = some (.cells #[.slice ta ts.length tc, .map (some mb)] 88 (0, 0)) := (hgrow.block pb (by have := HP.out; rw [World.size_alloc]; omega) (fun q => HNB.out pb HP.out.1 q.symm)).trans (block_alloc _ HBLK.out); have y0 : w3.cell? ⟨pb, 0, none⟩ = some (.slice ta ts.length tc) := (by simp [World.cell?, hblk3]); have y1 : w3.cell? ⟨pb, 1, none⟩ = some (.map (some mb)) := (by simp [World.cell?, hblk3]); have z0 : w3.frozen? ⟨pb, 0, none⟩ = false := (by simp [World.frozen?, hblk3]))
  have HG3 : Hid (World.grownBy (w.alloc (.cells #[.string x] 9)) w3 (Value.slice ta ts.length tc).ownBlock) := hgrow
  have HO3 : Hid (World.ownsRow _ _ _ _ _ _ _) := hown'
  have HB3 : Hid (_) := hblk3
  have HAT : Hid ((Value.slice (some ⟨gb, 0, none⟩) (ts.length + 1) capb).ownBlock = (Value.slice ta ts.length tc).ownBlock ∨ (Value.slice (some ⟨gb, 0, none⟩) (ts.length + 1) capb).ownBlock = some (w.heap.size + 1)) := by rw [World.size_alloc] at hat; exact hat
  have HM3 : Hid (World.ownsMap (w3.setCell ⟨pb, 0, none⟩ (.slice (some ⟨gb, 0, none⟩) (ts.length + 1) capb)) Tryz.prog 9 (plainElem Tryz.prog 3) mb ts.length D) := World.ownsMap.setCell ((HOWN.out.alloc _).kept hgrow (fun q => HNB.out mb HP.out.2.1 q.symm)) HP.out.2.2.1 _
  have HBW : Hid ((w3.setCell ⟨pb, 0, none⟩ (.slice (some ⟨gb, 0, none⟩) (ts.length + 1) capb)).heap[pb]? = some (.cells #[.slice (some ⟨gb, 0, none⟩) (ts.length + 1) capb, .map (some mb)] 88 (0, 0))) := set_block (i := 0) _ hblk3
  have y2 : (w3.setCell ⟨pb, 0, none⟩ (.slice (some ⟨gb, 0, none⟩) (ts.length + 1) capb)).cell? ⟨pb, 1, none⟩ = some (.map (some mb)) := by simp [World.cell?, HBW.out]
  have HSZ : Hid ((w3.setCell ⟨pb, 0, none⟩ (.slice (some ⟨gb, 0, none⟩) (ts.length + 1) capb)).heap.size = w3.heap.size) := set_size _ _ _
  have HGS : Hid (w3.grownBy (w3.setCell ⟨pb, 0, none⟩ (.slice (some ⟨gb, 0, none⟩) (ts.length + 1) capb)) (some pb)) := grown_set w3 ⟨pb, 0, none⟩ _
  have HO4 : Hid (World.ownsRow (w3.setCell ⟨pb, 0, none⟩ (.slice (some ⟨gb, 0, none⟩) (ts.length + 1) capb)) lo 9 1 (.slice (some ⟨gb, 0, none⟩) (ts.length + 1) capb) (ts.length + 1) (ts.map Value.string ++ [.string x])) := hown'.kept HGS.out (.inr (fun q => by have := (World.ownsRow.lt hown' pb q).1; have := HP.out.1; omega))
  clear hgrow hown' hblk3 hat y0 y1 z0 HROW NC
  generalize w3.setCell ⟨pb, 0, none⟩ (.slice (some ⟨gb, 0, none⟩) (ts.length + 1) capb) = w4 at HM3 HBW y2 HSZ HGS HO4 ⊢
  go_wp2_with (at_mapUpdate; refine wpList_mapUpdate_in _ rfl _ _ _ 86 rfl 9 3 plLaw Tryz.underlying86 _ mb _ D rfl HM3.out HNM.out _ _ (plKey x) rfl rfl HKY.out (.lit (.int .i64 ts.length)) [] HV.out ?_; intro w5 hown5 hturn5)
  go_ret2
  have hp1 := HP.out.1
  have hp2 := HP.out.2.1
  have hle := HP.out.2.2.2
  have hs3 := HG3.out.size
  rw [World.size_alloc] at hs3
  have hs4 := HSZ.out
  have hs5 := hturn5.grown.size
  refine ⟨rfl, _, ⟨hp1, hp2, HP.out.2.2.1, by omega, (hturn5.grown.block pb (by omega) (fun q => HP.out.2.2.1 (Option.some.inj q).symm)).trans HBW.out, ?_, _, ?_, HLOOK.out.put HOWN.out.isMap HMEM.out⟩, ⟨?_, ?_, ?_, by omega, fun k hk h1 h2 h3 => ?_⟩, ?_⟩
  · rw [List.length_append, List.map_append]
    exact HO4.out.kept hturn5.grown (.inr (fun q => by have := (World.ownsRow.lt HO4.out mb q).1; omega))
  · rw [List.length_append]
    exact hown5
  · exact hturn5.grown.os.trans (HGS.out.os.trans HG3.out.os)
  · exact hturn5.grown.tape.trans (HGS.out.tape.trans HG3.out.tape)
  · exact hturn5.grown.output.trans (HGS.out.output.trans HG3.out.output)
  · exact (hturn5.grown.block k (by omega) (fun q => h2 (Option.some.inj q))).trans ((HGS.out.block k (by omega) (fun q => h1 (Option.some.inj q))).trans ((HG3.out.block k (by rw [World.size_alloc]; omega) (fun q => h3 q.symm)).trans (hA.block k hk)))
  · rcases HAT.out with q | q
    · exact .inl q
    · exact .inr ⟨_, Nat.le_succ _, q⟩

/-- Put: where it is there, where it is new, and where it fails -/
theorem pput_any (lo pb mb : Nat) (tv : Value) (ts : List ByteArray) (x : ByteArray) (s : Nat → Addr) (w : World) (g : GlobP s w) (h : PoolAt lo w pb mb tv ts) :
    Calls Tryz.prog 27 #[.pointer (some ⟨pb, 0, none⟩), .string x] w fun r w' =>
      (10000 < x.size ∧ r = .returned (.tuple #[.int .i64 0, perr s 2]) ∧ Below w.heap.size w w') ∨
      (x.size ≤ 10000 ∧ ∃ i : Nat, ts[i]? = some x ∧ r = .returned (.tuple #[.int .i64 i, .nilIface]) ∧ w' = w) ∨
      (x.size ≤ 10000 ∧ x ∉ ts ∧ 1000 ≤ ts.length ∧ r = .returned (.tuple #[.int .i64 0, perr s 4]) ∧ Below w.heap.size w w') ∨
      (x.size ≤ 10000 ∧ x ∉ ts ∧ ts.length < 1000 ∧ r = .returned (.tuple #[.int .i64 ts.length, .nilIface]) ∧ ∃ tv', PoolAt lo w' pb mb tv' (ts ++ [x]) ∧ PKept w w' pb mb tv ∧ (tv'.ownBlock = tv.ownBlock ∨ ∃ k, w.heap.size ≤ k ∧ tv'.ownBlock = some k)) := by
  rcases Nat.lt_or_ge 10000 x.size with h1 | h1
  · refine Calls.mono (pput_long pb x s w g h1) ?_
    rintro r w' ⟨q1, q2⟩
    exact .inl ⟨h1, q1, q2⟩
  · by_cases hm : x ∈ ts
    · obtain ⟨i, hi⟩ := List.getElem?_of_mem hm
      refine Calls.mono (pput_old lo pb mb tv ts x i w h h1 hi) ?_
      rintro r w' ⟨q1, q2⟩
      exact .inr (.inl ⟨h1, i, hi, q1, q2⟩)
    · rcases Nat.lt_or_ge ts.length 1000 with h2 | h2
      · refine Calls.mono (pput_new lo pb mb tv ts x w h h1 hm h2) ?_
        rintro r w' ⟨q1, q2⟩
        exact .inr (.inr (.inr ⟨h1, hm, h2, q1, q2⟩))
      · refine Calls.mono (pput_full lo pb mb tv ts x s w g h h1 hm h2) ?_
        rintro r w' ⟨q1, q2⟩
        exact .inr (.inr (.inl ⟨h1, hm, h2, q1, q2⟩))

set_option maxRecDepth 100000 in
/-- putNew: as Put, but what is there is an error -/
theorem pputNew_any (lo pb mb : Nat) (tv : Value) (ts : List ByteArray) (x : ByteArray) (s : Nat → Addr) (w : World) (g : GlobP s w) (h : PoolAt lo w pb mb tv ts) (hx : x.size ≤ 10000) :
    Calls Tryz.prog 55 #[.pointer (some ⟨pb, 0, none⟩), .string x] w fun r w' =>
      (x ∈ ts ∧ r = .returned (perr s 3) ∧ Below w.heap.size w w') ∨
      (x ∉ ts ∧ 1000 ≤ ts.length ∧ r = .returned (perr s 4) ∧ Below w.heap.size w w') ∨
      (x ∉ ts ∧ ts.length < 1000 ∧ r = .returned .nilIface ∧ ∃ tv', PoolAt lo w' pb mb tv' (ts ++ [x]) ∧ PKept w w' pb mb tv ∧ (tv'.ownBlock = tv.ownBlock ∨ ∃ k, w.heap.size ≤ k ∧ tv'.ownBlock = some k)) := by
  have F : Hid (Calls _ _ _ _ _) := pfind_any lo pb mb tv ts x w h (by omega)
  by_cases hm : x ∈ ts
  · have hB := g.exist
    clear g h
    go_enter Tryz.func55, Tryz.ntmps55
    go_upto_region 2 with (go_at_call 51; refine Calls.mono F.out ?_; rintro r w' ⟨hq, hr⟩; have hq := hq.symm; subst hq; rcases hr with ⟨i, hi, rfl⟩ | ⟨hn, rfl⟩)
    · go_wp2
      go_ret
      exact .inl ⟨hm, rfl, Below.refl _ _⟩
    · exact absurd hm hn
  · rcases Nat.lt_or_ge ts.length 1000 with h2 | h2
    · have P : Hid (Calls _ _ _ _ _) := pput_new lo pb mb tv ts x w h hx hm h2
      clear g h
      go_enter Tryz.func55, Tryz.ntmps55
      go_upto_region 2 with (go_at_call 51; refine Calls.mono F.out ?_; rintro r w' ⟨hq, hr⟩; have hq := hq.symm; subst hq; rcases hr with ⟨i, hi, rfl⟩ | ⟨hn, rfl⟩)
      · exact absurd (List.mem_of_getElem? hi) hm
      · go_wp2_with (go_at_call 27; refine Calls.mono P.out ?_; rintro r w' ⟨rfl, hr⟩)
        go_ret
        exact .inr (.inr ⟨hm, h2, rfl, hr⟩)
    · have P : Hid (Calls _ _ _ _ _) := pput_full lo pb mb tv ts x s w g h hx hm h2
      unfold perr at P
      clear g h
      go_enter Tryz.func55, Tryz.ntmps55
      go_upto_region 2 with (go_at_call 51; refine Calls.mono F.out ?_; rintro r w' ⟨hq, hr⟩; have hq := hq.symm; subst hq; rcases hr with ⟨i, hi, rfl⟩ | ⟨hn, rfl⟩)
      · exact absurd (List.mem_of_getElem? hi) hm
      · go_wp2_with (go_at_call 27; refine Calls.mono P.out ?_; rintro r w' ⟨rfl, hr⟩)
        go_ret
        exact .inr (.inl ⟨hm, h2, rfl, hr⟩)
end Go.Proofs.YtbocknocmggcpaaGreatDoor
