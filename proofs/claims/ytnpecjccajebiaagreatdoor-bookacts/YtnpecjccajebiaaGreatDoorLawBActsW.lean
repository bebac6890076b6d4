/- The law BookActs: a book and its model, act by act. -/
import Derived.Test.YtnpecjccajebiaaGreatDoorYeAC
import Derived.Test.YtnpecjccajebiaaGreatDoorYeAD
import Derived.Deep.DeepCutAuto
namespace Go.Proofs.YtnpecjccajebiaaGreatDoor
open Go Go.RowKit Go.Maps Cal
attribute [local go_sem] Oper.semAt_some

theorem Sents.globk {s : Nat → Addr} {w : World} (g : Sents s w) : GlobK s w := ⟨g.c0, g.c1, g.c2, g.c3, g.c5, g.c6, g.c7⟩
theorem MR.keep {base : Nat} {W W' : World} {v : Value} {Xs : List EX} (h : MR base W v Xs) (hk : ∀ g, v.ownBlock = some g → base ≤ g → g < W.heap.size → W'.heap[g]? = W.heap[g]?) : MR base W' v Xs := by
  refine ⟨h.1, ?_⟩
  rcases h.2 with h2 | ⟨g, cap, cur, hv, hb, hg, r⟩
  · exact .inl h2
  · exact .inr ⟨g, cap, cur, hv, hb, (hk g (by rw [hv]; rfl) hb (Array.getElem?_eq_some_iff.1 hg).1).trans hg, r⟩
theorem MR.lt {base : Nat} {W : World} {v : Value} {Xs : List EX} (h : MR base W v Xs) {g : Nat} (hg : v.ownBlock = some g) : base ≤ g ∧ g < W.heap.size := by
  rcases h.2 with ⟨h2, _⟩ | ⟨g', cap, cur, hv, hb, hg', r⟩
  · rw [h2] at hg; cases hg
  · rw [hv] at hg
    have : g' = g := Option.some.inj hg
    subst this
    exact ⟨hb, (Array.getElem?_eq_some_iff.1 hg').1⟩
theorem BookAt.hi {lo : Nat} {W : World} {bb : Nat} {mo : Option Nat} {n : Nat} {C : List EV} (h : BookAt lo W bb mo n C) : ∀ mb, mo = some mb → lo ≤ mb := by
  obtain ⟨_, _, _, q, _⟩ := h
  exact q

theorem blk13 {W : World} {n : Nat} {v0 v1 v2 v3 v4 v5 v6 v7 v8 v9 v10 v11 v12 : Value} {t : TypeId} (h : W.heap[n]? = some (.cells #[v0, v1, v2, v3, v4, v5, v6, v7, v8, v9, v10, v11, v12] t (0, 0))) :
    W.cell? ⟨n, 0, none⟩ = some v0 ∧ W.cell? ⟨n, 1, none⟩ = some v1 ∧ W.cell? ⟨n, 2, none⟩ = some v2 ∧ W.cell? ⟨n, 3, none⟩ = some v3 ∧ W.cell? ⟨n, 4, none⟩ = some v4 ∧ W.cell? ⟨n, 5, none⟩ = some v5 ∧ W.cell? ⟨n, 6, none⟩ = some v6 ∧ W.cell? ⟨n, 7, none⟩ = some v7 ∧ W.cell? ⟨n, 8, none⟩ = some v8 ∧ W.cell? ⟨n, 9, none⟩ = some v9 ∧ W.cell? ⟨n, 10, none⟩ = some v10 ∧ W.cell? ⟨n, 11, none⟩ = some v11 ∧ W.cell? ⟨n, 12, none⟩ = some v12 :=
  ⟨by simp [World.cell?, h], by simp [World.cell?, h], by simp [World.cell?, h], by simp [World.cell?, h], by simp [World.cell?, h], by simp [World.cell?, h], by simp [World.cell?, h], by simp [World.cell?, h], by simp [World.cell?, h], by simp [World.cell?, h], by simp [World.cell?, h], by simp [World.cell?, h], by simp [World.cell?, h]⟩

/-- a book and its model; the model's row lies in no block of the book's own -/
structure BN (lo : Nat) (w W : World) (bb bm : Nat) (mo : Option Nat) (n : Nat) (C : List EV) (vm : Value) (Xs : List EX) : Prop where
  book : BookAt lo W bb mo n C
  cell : W.heap[bm]? = some (.cells #[vm] 27 (0, 0))
  row : MR lo W vm Xs
  hbm : bm < lo
  hbb : bb < bm
  map : ∀ mb, mo = some mb → vm.ownBlock ≠ some mb
  got : ∀ X ∈ Xs, XGot w X
  same : Xs.map EX.E = C
  le : C.length ≤ 60
theorem BN.step {lo : Nat} {w W W' : World} {bb bm : Nat} {mo : Option Nat} {n : Nat} {C : List EV} {vm : Value} {Xs : List EX} (h : BN lo w W bb bm mo n C vm Xs) (hb : Below W.heap.size W W') : BN lo w W' bb bm mo n C vm Xs :=
  ⟨h.book.step hb, (hb.block _ (Array.getElem?_eq_some_iff.1 h.cell).1).trans h.cell, h.row.far (fun k _ hk => hb.block k hk), h.hbm, h.hbb, h.map, h.got, h.same, h.le⟩
theorem BN.store {lo : Nat} {w W : World} {bb bm : Nat} {mo : Option Nat} {n : Nat} {C : List EV} {vm v' : Value} {Xs' : List EX} (hbk : BookAt lo W bb mo n C) (hcell : W.heap[bm]? = some (.cells #[vm] 27 (0, 0))) (hbm : bm < lo) (hbb : bb < bm) (hm : MR lo W v' Xs') (hmap : ∀ mb, mo = some mb → v'.ownBlock ≠ some mb) (hg : ∀ X ∈ Xs', XGot w X) (hs : Xs'.map EX.E = C) (hle : C.length ≤ 60) :
    BN lo w (W.setCell ⟨bm, 0, none⟩ v') bb bm mo n C v' Xs' :=
  ⟨hbk.grown (B := bm) (grown_set W ⟨bm, 0, none⟩ v') hbm (by omega), set_block (i := 0) _ hcell, MR.far hm (fun k hk _ => Below.heap_setCell _ _ _ k (by intro q; have q' : k = bm := q; omega)), hbm, hbb, hmap, hg, hs, hle⟩

theorem putC_le {E : EV} {C : List EV} (hr : Rises C) (hl : C.length ≤ 60) (h : ¬ ((¬ ∃ F ∈ C, F.id = E.id) ∧ 60 ≤ C.length)) : (putC E C).length ≤ 60 := by
  unfold putC
  rw [insE_len]
  by_cases hx : ∃ F ∈ C, F.id = E.id
  · obtain ⟨F, hF, e⟩ := hx
    have := woC_len hr hF
    rw [e] at this
    omega
  · rw [woC_same (fun F hF q => hx ⟨F, hF, q⟩)]
    have : ¬ 60 ≤ C.length := fun q => h ⟨hx, q⟩
    omega
theorem wo_map (x : ByteArray) (Xs : List EX) : (Xs.filter fun Y => decide (Y.E.id ≠ x)).map EX.E = woC x (Xs.map EX.E) := by
  unfold woC
  rw [List.filter_map]
  rfl
theorem find_map2 (x : ByteArray) (Xs : List EX) : (∃ Y ∈ Xs, Y.E.id = x) ↔ ∃ F ∈ Xs.map EX.E, F.id = x := by
  constructor
  · rintro ⟨Y, hY, q⟩; exact ⟨Y.E, List.mem_map_of_mem hY, q⟩
  · rintro ⟨F, hF, q⟩
    obtain ⟨Y, hY, rfl⟩ := List.mem_map.1 hF
    exact ⟨Y, hY, q⟩
theorem err_j {k : Int} (h0 : k ≠ 0) (h : k = 0 ∨ (1 ≤ k ∧ k ≤ 8)) (s : Nat → Addr) : ∃ j : Nat, j < 11 ∧ k = j + 1 ∧ errV s k = .iface 288 (.pointer (some (s j))) := by
  refine ⟨(k - 1).toNat, by omega, by omega, ?_⟩
  unfold errV
  rw [if_neg h0]
theorem MR.low {base base' : Nat} {W : World} {v : Value} {Xs : List EX} (h : MR base W v Xs) (hb : base' ≤ base) : MR base' W v Xs := own_base h hb

set_option maxHeartbeats 8000000 in
set_option maxRecDepth 100000 in
theorem bookActs_all (Ks : List AC) (v : Value) (d : Int) (id : ByteArray) (s : Nat → Addr) (w : World) (g : Sents s w) (gr : GlobR w) (hE : ActsL w v Ks) :
    Calls Tryz.prog 5 #[v, .int .i64 d, .string id] w fun r w' => r = .returned (.bool true) ∧ Below w.heap.size w w' := by
  classical
  have BK : Hid (Calls _ _ _ _ _) := booked_any s w g.globk
  have LA : Hid (∀ W, Below w.heap.size w W → Calls Tryz.prog 20 #[v] W fun r w' => ∃ b : Bool, r = .returned (.bool b) ∧ (b = true ∨ (b = false ∧ Ks.length ≤ 90 ∧ ∀ K ∈ Ks, lngE K.E = 0 ∧ K.id.size ≤ 30)) ∧ Below W.heap.size W w') := fun W hW => longActs_any Ks v W (hE.step hW)
  have HKS : Hid (ActsL w v Ks) := hE
  obtain ⟨a, cap, rfl, _, hcap, _⟩ := hE
  have HG : Hid (Sents s w) := g
  have HR : Hid (GlobR w) := gr
  clear g gr
  go_enter Tryz.func5, Tryz.ntmps5
  go_upto_region 2 with (go_at_call 6; refine Calls.mono BK.out ?_; rintro r w1 ⟨rfl, hb1⟩)
  have LA1 : Hid (Calls _ _ _ _ _) := LA.out w1 hb1
  have B1 : Hid (Below w.heap.size w w1) := hb1
  clear LA BK hb1
  by_cases hid : (30 : Int) < (id.size : Int)
  · clear HKS
    go_wp2_with (go_at_call 20; refine Calls.mono LA1.out ?_; rintro r w2 ⟨b, rfl, hk, hb2⟩; clear hk; cases b)
    all_goals
      go_ret
      exact ⟨rfl, below_then B1.out hb2⟩
  · go_upto_if 30 with (go_at_call 20; refine Calls.mono LA1.out ?_; rintro r w2 ⟨b, rfl, hk, hb2⟩; rcases hk with rfl | ⟨rfl, h90, hl⟩)
    · go_wp2
      go_ret
      exact ⟨rfl, below_then B1.out hb2⟩
    · have hid30 : id.size ≤ 30 := by omega
      have B2 : Hid (Below w.heap.size w w2) := below_then B1.out hb2
      have HL : Hid (∀ K ∈ Ks, lngE K.E = 0 ∧ K.id.size ≤ 30) := hl
      have NW : Hid (Calls _ _ _ _ _) := bookAt_new w2
      clear B1 LA1 hb2 hl
      go_wp2_with (go_at_call 13; refine Calls.mono NW.out ?_; rintro r w3 ⟨rfl, hbk, hb3⟩)
      have hz3 : w2.heap.size < w3.heap.size := hbk.lt.1
      have hsz : (w3.alloc (Obj.cells #[Value.slice none 0 0] 27)).heap.size = w3.heap.size + 1 := World.size_alloc _ _
      have B4 : Hid (Below w.heap.size w (w3.alloc (Obj.cells #[Value.slice none 0 0] 27))) := below_then B2.out (below_then hb3 (below_alloc _ _))
      have BN4 : Hid (BN (w3.heap.size + 1) w (w3.alloc (Obj.cells #[Value.slice none 0 0] 27)) w2.heap.size w3.heap.size none 0 [] (.slice none 0 0) []) :=
        ⟨(BookAt.step hbk (below_alloc _ _)).lift (Nat.le_of_eq hsz.symm), block_at _ rfl, MR.nil _ _, Nat.lt_succ_self _, hz3, (fun mb e => by cases e), (fun X hX => by cases hX), rfl, Nat.zero_le _⟩
      have hwb : w.heap.size ≤ w2.heap.size := B2.out.size
      have hbb : w2.heap.size < w3.heap.size := hz3
      clear hbk hb3 NW B2 hz3 hsz
      generalize w3.alloc (Obj.cells #[Value.slice none 0 0] 27) = w4 at B4 BN4 ⊢
      generalize w2.heap.size = bb at BN4 hwb hbb ⊢
      generalize w3.heap.size = bm at BN4 hbb ⊢
      go_loopw [10, 11, 12, 13, 14] (fun i _ _ _ _ wr => ∃ m : Nat, m ≤ Ks.length ∧ i = .int .i64 m ∧ Hid (∃ mo n C vm Xs, BN (bm + 1) w wr bb bm mo n C vm Xs ∧ n ≤ m ∧ Below w.heap.size w wr)) (fun i _ _ _ _ _ => Ks.length - (intOf i).toNat)
      case atStart => exact ⟨0, Nat.zero_le _, rfl, none, 0, [], _, [], BN4.out, Nat.le_refl _, B4.out⟩
      case round =>
        obtain ⟨m, hm, rfl, HV⟩ := hrel
        obtain ⟨mo, n, C, vm, Xs, hBN, hn, hB⟩ := HV.out
        clear HV
        by_cases hlt : m < Ks.length
        · obtain ⟨a', cap', ea, _, _, hc⟩ := HKS.out
          cases ea
          obtain ⟨ad, rfl, k1, k2, k3, k4, ra, rc, sa, sc, ma, mc, hAct, g1, g2, g3⟩ := hc m hlt
          obtain ⟨hlg, hidl⟩ := HL.out _ (List.getElem_mem hlt)
          have hActr := hAct.step hB
          clear hc hAct
          generalize Ks[m] = K at k1 k2 k3 k4 g1 g2 g3 hlg hidl hActr
          obtain ⟨kd, E, aid⟩ := K
          dsimp only at k1 k2 k3 k4 g1 g2 g3 hlg hidl hActr
          obtain ⟨l1, l2, l3, l4, l5, l6⟩ := lngE_0 hlg
          obtain ⟨z0, ⟨x0, x1, x2, x3, x4, x5, x6, x7, x8, x9, x10⟩, z1⟩ := hActr
          dsimp only at z0 x0 x1 x2 x3 x4 x5 x6 x7 x8 x9 x10 z1
          have HBN : Hid (_) := hBN
          have HB : Hid (Below w.heap.size w wr) := hB
          have hXG : XGot w ⟨E, .slice ra E.ds.length rc, .slice sa E.sk.length sc, .slice ma E.mv.length mc⟩ := ⟨g1, g2, g3, hlg⟩
          have HXG : Hid (XGot w ⟨E, .slice ra E.ds.length rc, .slice sa E.sk.length sc, .slice ma E.mv.length mc⟩) := hXG
          clear hBN hB hXG hlg
          go_upto_region 12 with (fail)
          have kA : (wr.alloc (Obj.cells #[.string kd, .string E.id, .string E.ti, .int .i64 E.st, .int .i64 E.lg, .string E.f, .int .i64 E.e, .slice ra E.ds.length rc, .int .i64 E.c, .int .i64 E.u, .slice sa E.sk.length sc, .slice ma E.mv.length mc, .string aid] 57)).heap[wr.heap.size]? = some (.cells #[.string kd, .string E.id, .string E.ti, .int .i64 E.st, .int .i64 E.lg, .string E.f, .int .i64 E.e, .slice ra E.ds.length rc, .int .i64 E.c, .int .i64 E.u, .slice sa E.sk.length sc, .slice ma E.mv.length mc, .string aid] 57 (0, 0)) := block_at _ rfl
          have hb5 : Below wr.heap.size wr (wr.alloc (Obj.cells #[.string kd, .string E.id, .string E.ti, .int .i64 E.st, .int .i64 E.lg, .string E.f, .int .i64 E.e, .slice ra E.ds.length rc, .int .i64 E.c, .int .i64 E.u, .slice sa E.sk.length sc, .slice ma E.mv.length mc, .string aid] 57)) := below_alloc _ _
          have HBN5 : Hid (BN (bm + 1) w (wr.alloc (Obj.cells #[.string kd, .string E.id, .string E.ti, .int .i64 E.st, .int .i64 E.lg, .string E.f, .int .i64 E.e, .slice ra E.ds.length rc, .int .i64 E.c, .int .i64 E.u, .slice sa E.sk.length sc, .slice ma E.mv.length mc, .string aid] 57)) bb bm mo n C vm Xs) := BN.step HBN.out hb5
          have B5 : Hid (Below w.heap.size w (wr.alloc (Obj.cells #[.string kd, .string E.id, .string E.ti, .int .i64 E.st, .int .i64 E.lg, .string E.f, .int .i64 E.e, .slice ra E.ds.length rc, .int .i64 E.c, .int .i64 E.u, .slice sa E.sk.length sc, .slice ma E.mv.length mc, .string aid] 57))) := below_then HB.out hb5
          have HAB : Hid (wr.heap.size < (wr.alloc (Obj.cells #[.string kd, .string E.id, .string E.ti, .int .i64 E.st, .int .i64 E.lg, .string E.f, .int .i64 E.e, .slice ra E.ds.length rc, .int .i64 E.c, .int .i64 E.u, .slice sa E.sk.length sc, .slice ma E.mv.length mc, .string aid] 57)).heap.size ∧ bm < wr.heap.size ∧ (∀ mb, mo = some mb → mb < wr.heap.size)) := ⟨by rw [World.size_alloc]; exact Nat.lt_succ_self _, (Array.getElem?_eq_some_iff.1 HBN.out.cell).1, HBN.out.book.lt.2⟩
          clear z0 x0 x1 x2 x3 x4 x5 x6 x7 x8 x9 x10 z1 hb5 HBN HB
          generalize (wr.alloc (Obj.cells #[.string kd, .string E.id, .string E.ti, .int .i64 E.st, .int .i64 E.lg, .string E.f, .int .i64 E.e, .slice ra E.ds.length rc, .int .i64 E.c, .int .i64 E.u, .slice sa E.sk.length sc, .slice ma E.mv.length mc, .string aid] 57)) = w5 at kA HBN5 B5 HAB ⊢
          generalize wr.heap.size = ab at kA HAB ⊢
          obtain ⟨y0, y1, y2, y3, y4, y5, y6, y7, y8, y9, y10, y11, y12⟩ := blk13 kA
          have HKA : Hid (∀ W, Below w5.heap.size w5 W → W.heap[ab]? = some (.cells #[.string kd, .string E.id, .string E.ti, .int .i64 E.st, .int .i64 E.lg, .string E.f, .int .i64 E.e, .slice ra E.ds.length rc, .int .i64 E.c, .int .i64 E.u, .slice sa E.sk.length sc, .slice ma E.mv.length mc, .string aid] 57 (0, 0))) := fun W hW => (hW.block _ (Array.getElem?_eq_some_iff.1 kA).1).trans kA
          clear kA
          obtain ⟨oa, oc, hvm, _, _⟩ := HBN5.out.row.form
          subst hvm
          have cM := cell_of HBN5.out.cell
          have fM := blk11_frozen HBN5.out.cell 0
          have hXl : Xs.length ≤ 60 := by
            have h1 := congrArg List.length HBN5.out.same
            have h2 := HBN5.out.le
            rw [List.length_map] at h1
            omega
          cases hkd : (kd.toList == [112, 117, 116]) with
          | true =>
            obtain ⟨k, hk⟩ := evK_ex E
            obtain ⟨kr, hkr⟩ := errK_ex E.f E.e E.ds E.c E.u
            have hkb := evK_bd hk
            have HEE : Hid (∀ W, Below w.heap.size w W → Calls Tryz.prog 48 #[ev E (.slice ra E.ds.length rc) (.slice sa E.sk.length sc) (.slice ma E.mv.length mc)] W fun r w' => r = .returned (.int .i64 k) ∧ Below W.heap.size W w') := fun W hW => eventError_k E (.slice ra E.ds.length rc) (.slice sa E.sk.length sc) (.slice ma E.mv.length mc) k kr W (g1.step hW) (g2.step hW) (g3.step hW) (by omega) (by omega) (by omega) (by omega) hkr hk (fun W' hG => ruleError_k E.f E.e _ E.c E.u E.ds kr W' hG l2 hkr)
            have HMP : Hid (Calls Tryz.prog 21 #[.agg #[.slice oa Xs.length oc], ev E (.slice ra E.ds.length rc) (.slice sa E.sk.length sc) (.slice ma E.mv.length mc)] w5 fun r w' => ∃ a' n' c' k', r = .returned (.tuple #[.agg #[.slice a' n' c'], .int .i64 k']) ∧ Below w5.heap.size w5 w' ∧ MPutIs w5.heap.size (.slice oa Xs.length oc) Xs ⟨E, .slice ra E.ds.length rc, .slice sa E.sk.length sc, .slice ma E.mv.length mc⟩ k (.slice a' n' c') k' w') := mput_any (bm + 1) E ra _ rc sa _ sc ma _ mc _ Xs k w5 HBN5.out.row (by omega) (fun X hX => (HBN5.out.got X hX).ok) hkb (fun W' hW' => HEE.out W' (below_then B5.out hW'))
            have HOE : Hid (∀ W, Below w.heap.size w W → Calls Tryz.prog 23 #[ev E (.slice ra E.ds.length rc) (.slice sa E.sk.length sc) (.slice ma E.mv.length mc)] W fun r w' => ∃ sl' skv' mvv', r = .returned (ev E sl' skv' mvv') ∧ Lists w' E sl' skv' mvv' ∧ Below W.heap.size W w') := fun W hW => ownEvent_any E _ _ _ W (g1.step hW) (g2.step hW) (g3.step hW) l2 (by omega) (by omega)
            have HPT : Hid (∀ (W : World) (sl skv mvv : Value), Below w5.heap.size w5 W → Lists W E sl skv mvv → Calls Tryz.prog 15 #[.pointer (some ⟨bb, 0, none⟩), ev E sl skv mvv] W fun r w' => (k ≠ 0 ∧ r = .returned (errV s k) ∧ Below W.heap.size W w') ∨ (k = 0 ∧ ((¬ ∃ F ∈ C, F.id = E.id) ∧ 60 ≤ C.length) ∧ r = .returned (.iface 288 (.pointer (some (s 6)))) ∧ Below W.heap.size W w') ∨ (k = 0 ∧ ¬ ((¬ ∃ F ∈ C, F.id = E.id) ∧ 60 ≤ C.length) ∧ r = .returned .nilIface ∧ PutTo (bm + 1) W w' bb mo n (putC E C))) := fun W sl skv mvv hW hLs => put_C (bm + 1) bb n mo C E sl skv mvv k s W (HG.out.step (below_then B5.out hW)).globk (HBN5.out.book.step hW) (by omega) (by omega) (by omega) ⟨hLs.d, hLs.s, hLs.m⟩ hk
            clear HEE g1 g2 g3 hk hkr
            unfold ev at HMP HOE HPT
            go_upto_region 14 with (go_at_call 21; refine Calls.mono HMP.out ?_; rintro r w6 ⟨a', n', c', k', rfl, hb6, hIs⟩)
            have hb7 : Below w5.heap.size w5 (w6.alloc (Obj.cells #[.slice a' n' c'] 27)) := below_then hb6 (below_alloc _ _)
            have kX : (w6.alloc (Obj.cells #[.slice a' n' c'] 27)).heap[w6.heap.size]? = some (.cells #[.slice a' n' c'] 27 (0, 0)) := block_at _ rfl
            have HEC : Hid ((∃ j : Nat, j < 11 ∧ k' = j + 1 ∧ Value.slice a' n' c' = .slice oa Xs.length oc ∧ ∀ (W : World) (sl skv mvv : Value), Below w5.heap.size w5 W → Lists W E sl skv mvv → Calls Tryz.prog 15 #[.pointer (some ⟨bb, 0, none⟩), ev E sl skv mvv] W fun r w' => r = .returned (.iface 288 (.pointer (some (s j)))) ∧ Below W.heap.size W w')
              ∨ (k' = 0 ∧ MR w5.heap.size (w6.alloc (Obj.cells #[.slice a' n' c'] 27)) (.slice a' n' c') (ins ⟨E, .slice ra E.ds.length rc, .slice sa E.sk.length sc, .slice ma E.mv.length mc⟩ (Xs.filter fun Y => decide (Y.E.id ≠ E.id))) ∧ (putC E C).length ≤ 60 ∧ ∀ (W : World) (sl skv mvv : Value), Below w5.heap.size w5 W → Lists W E sl skv mvv → Calls Tryz.prog 15 #[.pointer (some ⟨bb, 0, none⟩), ev E sl skv mvv] W fun r w' => r = .returned .nilIface ∧ PutTo (bm + 1) W w' bb mo n (putC E C))) := by
              have hfull : ((¬ ∃ Y ∈ Xs, Y.E.id = E.id) ∧ 60 ≤ Xs.length) ↔ ((¬ ∃ F ∈ C, F.id = E.id) ∧ 60 ≤ C.length) := by
                rw [find_map2, HBN5.out.same, ← HBN5.out.same, List.length_map]
              rcases hIs with ⟨q0, q1, q2⟩ | ⟨q0, q1, q2, q3⟩ | ⟨q0, q1, q2, q3⟩
              · obtain ⟨j, hj, hkj, hev⟩ := err_j q0 hkb s
                refine .inl ⟨j, hj, q1.trans hkj, q2, fun W sl skv mvv hW hLs => Calls.mono (HPT.out W sl skv mvv hW hLs) ?_⟩
                rintro r w' (⟨_, rfl, hb⟩ | ⟨h0, _⟩ | ⟨h0, _⟩)
                · rw [hev]; exact ⟨rfl, hb⟩
                · exact absurd h0 q0
                · exact absurd h0 q0
              · refine .inl ⟨6, by omega, q2, q3, fun W sl skv mvv hW hLs => Calls.mono (HPT.out W sl skv mvv hW hLs) ?_⟩
                rintro r w' (⟨h0, _⟩ | ⟨_, _, rfl, hb⟩ | ⟨_, h1, _⟩)
                · exact absurd q0 h0
                · exact ⟨rfl, hb⟩
                · exact absurd (hfull.1 q1) h1
              · refine .inr ⟨q2, MR.far q3 (fun k _ hk => (below_alloc w6 _).block k hk), putC_le HBN5.out.book.rises.1 HBN5.out.le (fun z => q1 (hfull.2 z)), fun W sl skv mvv hW hLs => Calls.mono (HPT.out W sl skv mvv hW hLs) ?_⟩
                rintro r w' (⟨h0, _⟩ | ⟨_, h1, _⟩ | ⟨_, _, rfl, hp⟩)
                · exact absurd q0 h0
                · exact absurd (hfull.2 h1) q1
                · exact ⟨rfl, hp⟩
            have HX7 : Hid (w5.heap.size ≤ w6.heap.size) := hb6.size
            have hb7' := hb7
            clear y0 y1 y2 y3 y4 y5 y6 y7 y8 y9 y10 y11 y12 hIs HPT HMP cM fM hb6
            obtain ⟨y0, y1, y2, y3, y4, y5, y6, y7, y8, y9, y10, y11, y12⟩ := blk13 (HKA.out _ hb7)
            have HB7 : Hid (Below w5.heap.size w5 (w6.alloc (Obj.cells #[.slice a' n' c'] 27))) := hb7
            have HOE7 : Hid (Calls _ _ _ _ _) := HOE.out _ (below_then B5.out hb7)
            have HBN7 : Hid (BN (bm + 1) w (w6.alloc (Obj.cells #[.slice a' n' c'] 27)) bb bm mo n C (.slice oa Xs.length oc) Xs) := BN.step HBN5.out hb7
            have HKX : Hid (∀ W, Below (w6.alloc (Obj.cells #[.slice a' n' c'] 27)).heap.size (w6.alloc (Obj.cells #[.slice a' n' c'] 27)) W → W.heap[w6.heap.size]? = some (.cells #[.slice a' n' c'] 27 (0, 0))) := fun W hW => (hW.block _ (Array.getElem?_eq_some_iff.1 kX).1).trans kX
            clear hb7 hb7' HOE kX HKA
            generalize w6.alloc (Obj.cells #[.slice a' n' c'] 27) = w7 at HEC HB7 HOE7 HBN7 HKX y0 y1 y2 y3 y4 y5 y6 y7 y8 y9 y10 y11 y12 ⊢
            generalize w6.heap.size = bx at HX7 HKX ⊢
            rcases HEC.out with ⟨j, hj, rfl, hv', hput⟩ | ⟨rfl, hmr, hle, hput⟩
            · have HP : Hid (∀ (W : World) (sl skv mvv : Value), Below w5.heap.size w5 W → Lists W E sl skv mvv → Calls Tryz.prog 15 #[.pointer (some ⟨bb, 0, none⟩), ev E sl skv mvv] W fun r w' => r = .returned (.iface 288 (.pointer (some (s j)))) ∧ Below W.heap.size W w') := hput
              have HCD : Hid (∀ W, Below w.heap.size w W → Calls Tryz.prog 22 #[.iface 288 (.pointer (some (s j))), .int .i64 (j + 1)] W fun e w' => e = .returned (.bool true) ∧ Below W.heap.size W w') := fun W hW => coded2_err s j W (HG.out.step hW) hj
              injection hv' with e1 e2 e3
              subst e1 e2 e3
              clear HEC hput
              unfold ev at HP
              go_wp2_with (first
                | (go_at_call 22; refine Calls.mono CD9.out ?_; rintro r w10 ⟨rfl, hb10⟩; have k10 : Below w7.heap.size w7 w10 := below_then k9 hb10; have cX := cell_of (HKX.out w10 k10); have HBNe : Hid (BN (bm + 1) w w10 bb bm mo n C (.slice a' Xs.length c') Xs) := BN.step HBN7.out k10; have cM := cell_of HBNe.out.cell; have fM := blk11_frozen HBNe.out.cell 0)
                | (go_at_call 15; refine Calls.mono PT.out ?_; rintro r w9 ⟨rfl, hb9⟩; have k9 : Below w7.heap.size w7 w9 := below_then k8 hb9; have CD9 : Hid (Calls _ _ _ _ _) := HCD.out w9 (below_then B5.out (below_then HB7.out k9)))
                | (go_at_call 23; refine Calls.mono HOE7.out ?_; rintro r w8 ⟨sl8, sk8, mv8, rfl, hLs8, k8⟩; have PT : Hid (Calls _ _ _ _ _) := HP.out w8 sl8 sk8 mv8 (below_then HB7.out k8) hLs8; obtain ⟨r3, rc3, rfl⟩ := got_form hLs8.gd; obtain ⟨s3, sc3, rfl⟩ := got_form hLs8.gs; obtain ⟨m3, mc3, rfl⟩ := gotM_form hLs8.gm))
              go_roundw
              case rel => exact ⟨m + 1, by omega, by go_num, mo, n, C, _, Xs, BN.store HBNe.out.book HBNe.out.cell HBNe.out.hbm HBNe.out.hbb HBNe.out.row HBNe.out.map HBNe.out.got HBNe.out.same HBNe.out.le, by omega, set_below (below_then B5.out (below_then HB7.out k10)) (by omega)⟩
              case measure => simp [intOf]; omega
            · have HP : Hid (∀ (W : World) (sl skv mvv : Value), Below w5.heap.size w5 W → Lists W E sl skv mvv → Calls Tryz.prog 15 #[.pointer (some ⟨bb, 0, none⟩), ev E sl skv mvv] W fun r w' => r = .returned .nilIface ∧ PutTo (bm + 1) W w' bb mo n (putC E C)) := hput
              have HMR : Hid (MR w5.heap.size w7 (.slice a' n' c') (ins ⟨E, .slice ra E.ds.length rc, .slice sa E.sk.length sc, .slice ma E.mv.length mc⟩ (Xs.filter fun Y => decide (Y.E.id ≠ E.id)))) := hmr
              have HLE : Hid ((putC E C).length ≤ 60) := hle
              clear HEC hput hmr hle
              unfold ev at HP
              have FIN : Hid (∀ (w8 w9 : World), Below w7.heap.size w7 w8 → PutTo (bm + 1) w8 w9 bb mo n (putC E C) → w9.heap[bx]? = some (.cells #[.slice a' n' c'] 27 (0, 0)) ∧ w9.heap[bm]? = some (.cells #[.slice oa Xs.length oc] 27 (0, 0)) ∧ (∃ mo', BN (bm + 1) w (w9.setCell ⟨bm, 0, none⟩ (.slice a' n' c')) bb bm mo' (n + 1) (putC E C) (.slice a' n' c') (ins ⟨E, .slice ra E.ds.length rc, .slice sa E.sk.length sc, .slice ma E.mv.length mc⟩ (Xs.filter fun Y => decide (Y.E.id ≠ E.id)))) ∧ Below w.heap.size w (w9.setCell ⟨bm, 0, none⟩ (.slice a' n' c'))) := fun w8 w9 k8 hp => by
                obtain ⟨mo', q1, q2, q3⟩ := hp
                have hBN8 := BN.step HBN7.out k8
                have hbmlo := hBN8.hbm
                have hbbm := hBN8.hbb
                have hhi := hBN8.book.hi
                obtain ⟨hab1, hab2, hab3⟩ := HAB.out
                have hw57 : w5.heap.size ≤ w7.heap.size := HB7.out.size
                have kx8 := HKX.out w8 k8
                have hbx : w5.heap.size ≤ bx := HX7.out
                have c9 : w9.heap[bm]? = some (.cells #[.slice oa Xs.length oc] 27 (0, 0)) := (q2.block bm (Array.getElem?_eq_some_iff.1 hBN8.cell).1 (by omega) (fun q => by have := hhi bm q.symm; omega)).trans hBN8.cell
                have x9 : w9.heap[bx]? = some (.cells #[.slice a' n' c'] 27 (0, 0)) := (q2.block bx (Array.getElem?_eq_some_iff.1 kx8).1 (by omega) (fun q => by have := hab3 bx q.symm; omega)).trans kx8
                have m8 : MR w5.heap.size w8 (.slice a' n' c') _ := HMR.out.far (fun k _ hk => k8.block k hk)
                have m9 : MR (bm + 1) w9 (.slice a' n' c') (ins ⟨E, .slice ra E.ds.length rc, .slice sa E.sk.length sc, .slice ma E.mv.length mc⟩ (Xs.filter fun Y => decide (Y.E.id ≠ E.id))) := (m8.keep (fun g hg h1 h2 => q2.block g h2 (by omega) (fun q => by have := hab3 g q.symm; omega))).low (by omega)
                refine ⟨x9, c9, ⟨mo', BN.store q1 c9 hbmlo hbbm m9 (fun mb e q => ?_) (fun X hX => ?_) (by rw [with_map, hBN8.same]) HLE.out⟩, set_below (q2.below (below_then B5.out (below_then HB7.out k8)) (by omega) (fun mb e => by have := hhi mb e; omega)) (by omega)⟩
                · have hg := m8.lt q
                  rcases q3 with rfl | ⟨_, q4⟩
                  · have := hab3 mb e; omega
                  · have := q4 mb e; omega
                · rcases ins_mem.1 hX with rfl | hX'
                  · exact HXG.out
                  · exact hBN8.got X (List.mem_filter.1 hX').1
              go_wp2_with (first
                | (go_at_call 22; refine Calls.mono (coded2_nil _) ?_; rintro r w10 ⟨rfl, hq⟩; have hq := hq.symm; subst hq; obtain ⟨kx9, kb9, hBNe, hbe⟩ := FIN.out w8 w9 k8 hp9; have cX := cell_of kx9; have cM := cell_of kb9; have fM := blk11_frozen kb9 0; have HBNe : Hid (_) := hBNe; have HBe : Hid (_) := hbe; clear hBNe hbe kx9 kb9)
                | (go_at_call 15; refine Calls.mono PT.out ?_; rintro r w9 ⟨rfl, hp9⟩)
                | (go_at_call 23; refine Calls.mono HOE7.out ?_; rintro r w8 ⟨sl8, sk8, mv8, rfl, hLs8, k8⟩; have PT : Hid (Calls _ _ _ _ _) := HP.out w8 sl8 sk8 mv8 (below_then HB7.out k8) hLs8; obtain ⟨r3, rc3, rfl⟩ := got_form hLs8.gd; obtain ⟨s3, sc3, rfl⟩ := got_form hLs8.gs; obtain ⟨m3, mc3, rfl⟩ := gotM_form hLs8.gm))
              go_roundw
              case rel =>
                obtain ⟨mo', hfin⟩ := HBNe.out
                exact ⟨m + 1, by omega, by go_num, mo', n + 1, _, _, _, hfin, by omega, HBe.out⟩
              case measure => simp [intOf]; omega
          | false =>
            have HFA : Hid (Calls _ _ _ _ _) := find_at (bm + 1) aid (.slice oa Xs.length oc) Xs w5 HBN5.out.row (by omega)
            have HDR : Hid (∀ W, Below w5.heap.size w5 W → Calls Tryz.prog 16 #[.pointer (some ⟨bb, 0, none⟩), .string aid] W fun r w' => ((∃ F ∈ C, F.id = aid) ∧ r = .returned .nilIface ∧ BookAt (bm + 1) w' bb mo n (woC aid C) ∧ Kept W w' bb mo) ∨ ((¬ ∃ F ∈ C, F.id = aid) ∧ r = .returned (.iface 288 (.pointer (some (s 4)))) ∧ Below W.heap.size W w')) := fun W hW => drop_C (bm + 1) bb n mo C aid (by omega) (s 4) W (HBN5.out.book.step hW) (HG.out.step (below_then B5.out hW)).c4
            have HFX : Hid ((∃ Y ∈ Xs, Y.E.id = aid) ↔ ∃ F ∈ C, F.id = aid) := by
              have := find_map2 aid Xs
              rw [HBN5.out.same] at this
              exact this
            have hwle : (woC aid C).length ≤ 60 := Nat.le_trans (List.length_filter_le _ _) HBN5.out.le
            have HWO : Hid (∀ W, MR (bm + 1) W (.slice oa Xs.length oc) Xs → Calls Tryz.prog 25 #[.agg #[.slice oa Xs.length oc], .string aid] W fun r w' => ∃ a' n' c', r = .returned (.agg #[.slice a' n' c']) ∧ MR W.heap.size w' (.slice a' n' c') (Xs.filter fun X => decide (X.E.id ≠ aid)) ∧ Below W.heap.size W w') := fun W hR => by
              refine Calls.mono (without_any (bm + 1) aid _ Xs W hR (by omega) (fun X hX => (HBN5.out.got X hX).ok)) ?_
              rintro r w' ⟨v', rfl, hm, hb⟩
              obtain ⟨a', c', rfl, _⟩ := hm.form
              exact ⟨a', _, c', rfl, hm, hb⟩
            have FIN : Hid (∀ (W w' : World) (a' : Option Addr) (n' c' : Nat), BookAt (bm + 1) W bb mo n (woC aid C) → W.heap[bm]? = some (.cells #[.slice oa Xs.length oc] 27 (0, 0)) → MR W.heap.size w' (.slice a' n' c') (Xs.filter fun X => decide (X.E.id ≠ aid)) → Below W.heap.size W w' → Below w.heap.size w W → w'.heap[bm]? = some (.cells #[.slice oa Xs.length oc] 27 (0, 0)) ∧ BN (bm + 1) w (w'.setCell ⟨bm, 0, none⟩ (.slice a' n' c')) bb bm mo n (woC aid C) (.slice a' n' c') (Xs.filter fun X => decide (X.E.id ≠ aid)) ∧ Below w.heap.size w (w'.setCell ⟨bm, 0, none⟩ (.slice a' n' c'))) := fun W w' a' n' c' hbk hcell hm hb hB => by
              have hbml := (Array.getElem?_eq_some_iff.1 hcell).1
              have c9 := (hb.block _ hbml).trans hcell
              have hbmlo := HBN5.out.hbm
              have hbbm := HBN5.out.hbb
              refine ⟨c9, BN.store (hbk.step hb) c9 hbmlo hbbm (hm.low (by omega)) (fun mb e q => ?_) (fun X hX => HBN5.out.got X (List.mem_filter.1 hX).1) (by rw [wo_map, HBN5.out.same]) hwle, set_below (below_then hB hb) (by omega)⟩
              have h1 := (hm.lt q).1
              have h2 := hbk.lt.2 mb e
              omega
            by_cases hx : ∃ F ∈ C, F.id = aid
            · have HX : Hid (∃ F ∈ C, F.id = aid) := hx
              clear hx
              have DK : Hid (∀ (w6 w7 : World), Below w5.heap.size w5 w6 → BookAt (bm + 1) w7 bb mo n (woC aid C) → Kept w6 w7 bb mo → w7.heap[ab]? = some (.cells #[.string kd, .string E.id, .string E.ti, .int .i64 E.st, .int .i64 E.lg, .string E.f, .int .i64 E.e, .slice ra E.ds.length rc, .int .i64 E.c, .int .i64 E.u, .slice sa E.sk.length sc, .slice ma E.mv.length mc, .string aid] 57 (0, 0)) ∧ w7.heap[bm]? = some (.cells #[.slice oa Xs.length oc] 27 (0, 0)) ∧ MR (bm + 1) w7 (.slice oa Xs.length oc) Xs ∧ Below w.heap.size w w7) := fun w6 w7 k6 hbk hK => by
                have hBN6 := BN.step HBN5.out k6
                have hbmlo := hBN6.hbm
                have hbbm := hBN6.hbb
                have hhi := hBN6.book.hi
                obtain ⟨hab1, hab2, hab3⟩ := HAB.out
                have ka := HKA.out w6 k6
                refine ⟨(hK.block ab (Array.getElem?_eq_some_iff.1 ka).1 (by omega) (fun q => by have := hab3 ab q.symm; omega)).trans ka, (hK.block bm (Array.getElem?_eq_some_iff.1 hBN6.cell).1 (by omega) (fun q => by have := hhi bm q.symm; omega)).trans hBN6.cell, hBN6.row.keep (fun g hg h1 h2 => hK.block g h2 (by omega) (fun q => hBN6.map g q.symm hg)), hK.below (below_then B5.out k6) (by omega) (fun mb e => by have := hhi mb e; omega)⟩
              go_upto_region 20 with (go_at_call 24; refine Calls.mono HFA.out ?_; rintro r w6 ⟨fk, rfl, hfk, k6⟩; rcases hfk with ⟨_, hno⟩ | ⟨fm, hfm, rfl, _⟩; exact absurd (HFX.out.2 HX.out) hno)
              have DR6 : Hid (Calls _ _ _ _ _) := HDR.out w6 k6
              clear y0 y1 y2 y3 y4 y5 y6 y7 y8 y9 y10 y11 y12 cM fM
              obtain ⟨y0, y1, y2, y3, y4, y5, y6, y7, y8, y9, y10, y11, y12⟩ := blk13 (HKA.out w6 k6)
              go_upto_region 22 with (first
                | (go_at_call 16; refine Calls.mono DR6.out ?_; rintro r w7 (⟨_, rfl, hbk7, hK7⟩ | ⟨hno, _⟩); rotate_left; exact absurd HX.out hno)
                | (go_at_call 22; refine Calls.mono (coded2_nil _) ?_; rintro r w10 ⟨rfl, hq⟩; have hq := hq.symm; subst hq))
              obtain ⟨ka7, kb7, hR7, hB7⟩ := DK.out w6 w7 k6 hbk7 hK7
              clear y0 y1 y2 y3 y4 y5 y6 y7 y8 y9 y10 y11 y12
              obtain ⟨y0, y1, y2, y3, y4, y5, y6, y7, y8, y9, y10, y11, y12⟩ := blk13 ka7
              have cM := cell_of kb7
              have WO : Hid (Calls _ _ _ _ _) := HWO.out w7 hR7
              have HBK7 : Hid (_) := hbk7
              have HKB7 : Hid (w7.heap[bm]? = _) := kb7
              have HB7 : Hid (_) := hB7
              clear hbk7 hK7 hR7 kb7 hB7 ka7
              go_wp2_with (go_at_call 25; refine Calls.mono WO.out ?_; rintro r w8 ⟨a8, n8, c8, rfl, hm8, hb8⟩; obtain ⟨kb8, hBN8, hB8⟩ := FIN.out w7 w8 a8 n8 c8 HBK7.out HKB7.out hm8 hb8 HB7.out; have cM8 := cell_of kb8; have fM8 := blk11_frozen kb8 0; have HBN8 : Hid (_) := hBN8; have HB8 : Hid (_) := hB8; clear hBN8 hB8 hm8 kb8)
              go_roundw
              case rel => exact ⟨m + 1, by omega, by go_num, mo, n, _, _, _, HBN8.out, by omega, HB8.out⟩
              case measure => simp [intOf]; omega
            · have HX : Hid (¬ ∃ F ∈ C, F.id = aid) := hx
              have HWS : Hid (woC aid C = C) := woC_same (fun F hF q => hx ⟨F, hF, q⟩)
              clear hx
              have HCD : Hid (∀ W, Below w.heap.size w W → Calls Tryz.prog 22 #[.iface 288 (.pointer (some (s 4))), .int .i64 5] W fun e w' => e = .returned (.bool true) ∧ Below W.heap.size W w') := fun W hW => coded2_err s 4 W (HG.out.step hW) (by omega)
              go_upto_region 20 with (go_at_call 24; refine Calls.mono HFA.out ?_; rintro r w6 ⟨fk, rfl, hfk, k6⟩; rcases hfk with ⟨rfl, _⟩ | ⟨fm, hfm, rfl, hfe⟩; rotate_left; exact absurd (HFX.out.1 ⟨_, List.getElem_mem hfm, hfe⟩) HX.out)
              have DR6 : Hid (Calls _ _ _ _ _) := HDR.out w6 k6
              clear y0 y1 y2 y3 y4 y5 y6 y7 y8 y9 y10 y11 y12 cM fM
              obtain ⟨y0, y1, y2, y3, y4, y5, y6, y7, y8, y9, y10, y11, y12⟩ := blk13 (HKA.out w6 k6)
              go_upto_region 22 with (first
                | (go_at_call 16; refine Calls.mono DR6.out ?_; rintro r w7 (⟨hno, _⟩ | ⟨_, rfl, hb7⟩); exact absurd hno HX.out; have CD7 : Hid (Calls _ _ _ _ _) := HCD.out w7 (below_then B5.out (below_then k6 hb7)))
                | (go_at_call 22; refine Calls.mono CD7.out ?_; rintro r w9 ⟨rfl, hb9⟩))
              have k9 : Below w5.heap.size w5 w9 := below_then k6 (below_then hb7 hb9)
              have hBN9 := BN.step HBN5.out k9
              clear y0 y1 y2 y3 y4 y5 y6 y7 y8 y9 y10 y11 y12
              obtain ⟨y0, y1, y2, y3, y4, y5, y6, y7, y8, y9, y10, y11, y12⟩ := blk13 (HKA.out w9 k9)
              have cM := cell_of hBN9.cell
              have WO : Hid (Calls _ _ _ _ _) := HWO.out w9 hBN9.row
              have HBK7 : Hid (BookAt (bm + 1) w9 bb mo n (woC aid C)) := by rw [HWS.out]; exact hBN9.book
              have HKB7 : Hid (w9.heap[bm]? = _) := hBN9.cell
              have HB7 : Hid (_) := below_then B5.out k9
              clear hBN9 k9
              go_wp2_with (go_at_call 25; refine Calls.mono WO.out ?_; rintro r w8 ⟨a8, n8, c8, rfl, hm8, hb8⟩; obtain ⟨kb8, hBN8, hB8⟩ := FIN.out w9 w8 a8 n8 c8 HBK7.out HKB7.out hm8 hb8 HB7.out; have cM8 := cell_of kb8; have fM8 := blk11_frozen kb8 0; have HBN8 : Hid (_) := hBN8; have HB8 : Hid (_) := hB8; clear hBN8 hB8 hm8 kb8)
              go_roundw
              case rel => exact ⟨m + 1, by omega, by go_num, mo, n, _, _, _, HBN8.out, by omega, HB8.out⟩
              case measure => simp [intOf]; omega
        · have hmK : m ≤ 90 := by omega
          obtain ⟨oa, oc, hvm, _, hrows⟩ := hBN.row.form
          subst hvm
          have hXC : Xs.length = C.length := by
            have h1 := congrArg List.length hBN.same
            rw [List.length_map] at h1
            exact h1
          have hC60 : C.length ≤ 60 := hBN.le
          have hX60 : Xs.length ≤ 60 := by omega
          have HBN : Hid (BN (bm + 1) w wr bb bm mo n C (.slice oa Xs.length oc) Xs) := hBN
          have HB : Hid (Below w.heap.size w wr) := hB
          have HRW : Hid (∀ (j : Nat) (hj : j < Xs.length), ∃ b : Nat, oa = some ⟨b, 0, none⟩ ∧ EvAt wr b (j * 11) Xs[j].E Xs[j].sl Xs[j].skv Xs[j].mvv) := hrows
          have CP : Hid (Calls _ _ _ _ _) := copy_C (bm + 1) bb n mo C wr hBN.book hC60
          obtain ⟨cv, hcv⟩ : ∃ cv : EV → Bool, ∀ E, cv E = true ↔ covers E d := ⟨fun E => decide (covers E d), fun E => decide_eq_true_iff⟩
          obtain ⟨lst, hlst⟩ : ∃ l, (C.filter cv).map EV.id = l := ⟨_, rfl⟩
          obtain ⟨nl, hnl⟩ : ∃ nl, lst.length = nl := ⟨_, rfl⟩
          have hl80 : lst.length ≤ 80000 := by
            rw [← hlst, List.length_map]
            have := List.length_filter_le cv C
            omega
          have AB : Hid (∀ W, Below wr.heap.size wr W → Calls Tryz.prog 27 #[.pointer (some ⟨bb, 0, none⟩), .agg #[.slice oa Xs.length oc]] W fun r w' => r = .returned (.int .i64 1) ∧ Below W.heap.size W w') := fun W hW => asBook_any (bm + 1) bb n mo C (bm + 1) _ Xs s W w (below_then HB.out hW) (HG.out.step (below_then HB.out hW)).globk (HR.out.step (below_then HB.out hW)) (HBN.out.book.step hW) (by omega) hC60 (BN.step HBN.out hW).row HBN.out.got HBN.out.same
          have ON : Hid (∀ W, Below wr.heap.size wr W → Calls Tryz.prog 17 #[.pointer (some ⟨bb, 0, none⟩), .int .i64 d] W fun r w' => ∃ a c, r = .returned (.slice a nl c) ∧ Txs w' (.slice a nl c) lst ∧ Below W.heap.size W w') := fun W hW => by
            refine Calls.mono (on_C (bm + 1) bb n mo C d cv (fun E _ => hcv E) s W (HG.out.step (below_then HB.out hW)).globk (HBN.out.book.step hW) (by omega)) ?_
            rintro r w' ⟨v1, rfl, hr, hb1⟩
            rw [hlst] at hr
            have ht := hr.txs hl80
            obtain ⟨a1, c1, rfl⟩ := txs_form ht hnl
            exact ⟨a1, c1, rfl, ht, hb1⟩
          have MO : Hid (∀ W, Below wr.heap.size wr W → Calls Tryz.prog 30 #[.agg #[.slice oa Xs.length oc], .int .i64 d] W fun r w' => ∃ a c, r = .returned (.slice a nl c) ∧ Txs w' (.slice a nl c) lst ∧ Below W.heap.size W w') := fun W hW => by
            refine Calls.mono (mon_any (bm + 1) _ Xs d cv hcv W w (below_then HB.out hW) (BN.step HBN.out hW).row hX60 HBN.out.got (fun X hX => HBN.out.book.rises.2 X.E (by rw [← HBN.out.same]; exact List.mem_map_of_mem hX))) ?_
            rintro r w' ⟨v1, rfl, ht, hb1⟩
            rw [HBN.out.same, hlst] at ht
            obtain ⟨a1, c1, rfl⟩ := txs_form ht hnl
            exact ⟨a1, c1, rfl, ht, hb1⟩
          have CM : Hid (∀ W, Below wr.heap.size wr W → W.cell? ⟨bm, 0, none⟩ = some (.slice oa Xs.length oc)) := fun W hW => cell_step (cell_of HBN.out.cell) hW
          clear hBN hB hrows hcv hlst hl80 HKS HL hXC hnl
          go_upto_region 24 with (go_at_call 26; refine Calls.mono CP.out ?_; rintro r w5 ⟨cmo, cn, rfl, hbc, hcn, k5⟩)
          have AC2 : Hid (∀ W, Below w5.heap.size w5 W → Calls Tryz.prog 27 #[.pointer (some ⟨wr.heap.size, 0, none⟩), .agg #[.slice oa Xs.length oc]] W fun r w' => r = .returned (.int .i64 1) ∧ Below W.heap.size W w') := fun W hW => asBook_any wr.heap.size wr.heap.size cn cmo C (bm + 1) _ Xs s W w (below_then HB.out (below_then k5 hW)) (HG.out.step (below_then HB.out (below_then k5 hW))).globk (HR.out.step (below_then HB.out (below_then k5 hW))) (hbc.step hW) (by omega) hC60 (BN.step HBN.out (below_then k5 hW)).row HBN.out.got HBN.out.same
          have SM : Hid (∀ W, Below w5.heap.size w5 W → Calls Tryz.prog 11 #[.pointer (some ⟨bb, 0, none⟩), .pointer (some ⟨wr.heap.size, 0, none⟩)] W fun r w' => r = .returned (.bool true) ∧ Below W.heap.size W w') := fun W hW => by
            have := same_C (.pointer (some ⟨bb, 0, none⟩)) (.pointer (some ⟨wr.heap.size, 0, none⟩)) _ _ W (btext_C (bm + 1) bb n mo C s W (HG.out.step (below_then HB.out (below_then k5 hW))).globk (HR.out.step (below_then HB.out (below_then k5 hW))) (HBN.out.book.step (below_then k5 hW)) (by omega) hC60) (fun W' hW' => btext_C wr.heap.size wr.heap.size cn cmo C s W' (HG.out.step (below_then HB.out (below_then k5 (below_then hW hW')))).globk (HR.out.step (below_then HB.out (below_then k5 (below_then hW hW')))) (hbc.step (below_then hW hW')) (by omega) hC60)
            rw [beq_self_eq_true] at this
            exact this
          have K5 : Hid (Below wr.heap.size wr w5) := k5
          have FA : Hid (∀ W, Below w5.heap.size w5 W → Calls Tryz.prog 24 #[.agg #[.slice oa Xs.length oc], .string id] W fun r w' => ∃ k : Int, r = .returned (.int .i64 k) ∧ ((k = -1 ∧ ¬ ∃ X ∈ Xs, X.E.id = id) ∨ ∃ (m : Nat) (h : m < Xs.length), k = m ∧ Xs[m].E.id = id) ∧ Below W.heap.size W w') := fun W hW => find_at (bm + 1) id _ Xs W (BN.step HBN.out (below_then k5 hW)).row (by omega)
          have HFX : Hid ((∃ Y ∈ Xs, Y.E.id = id) ↔ ∃ F ∈ C, F.id = id) := by
            have := find_map2 id Xs
            rw [HBN.out.same] at this
            exact this
          clear CP hbc
          by_cases hx : ∃ E ∈ C, E.id = id
          · obtain ⟨E, hE, rfl⟩ := hx
            have GT : Hid (Calls _ _ _ _ _) := get_C (bm + 1) bb n mo C E hE w5 (HBN.out.book.step K5.out)
            have HEC : Hid (E ∈ C) := hE
            clear hE
            unfold ev at GT
            go_upto_region 25 with (go_at_call 14; refine Calls.mono GT.out ?_; rintro r w6 ⟨sl6, sk6, mv6, rfl, hL6, hb6⟩; obtain ⟨r6, rc6, rfl, _⟩ := hL6.d; obtain ⟨s6, sc6, rfl, _⟩ := hL6.s; obtain ⟨m6, mc6, rfl, _⟩ := hL6.m)
            have HL7 : Hid (Ls (w6.alloc (Obj.cells #[.string E.id, .string E.ti, .int .i64 E.st, .int .i64 E.lg, .string E.f, .int .i64 E.e, .slice r6 E.ds.length rc6, .int .i64 E.c, .int .i64 E.u, .slice s6 E.sk.length sc6, .slice m6 E.mv.length mc6] 44)) E (.slice r6 E.ds.length rc6) (.slice s6 E.sk.length sc6) (.slice m6 E.mv.length mc6)) := hL6.step (below_alloc _ _)
            have K7 : Hid (Below w5.heap.size w5 (w6.alloc (Obj.cells #[.string E.id, .string E.ti, .int .i64 E.st, .int .i64 E.lg, .string E.f, .int .i64 E.e, .slice r6 E.ds.length rc6, .int .i64 E.c, .int .i64 E.u, .slice s6 E.sk.length sc6, .slice m6 E.mv.length mc6] 44))) := below_then hb6 (below_alloc _ _)
            have kX : ((w6.alloc (Obj.cells #[.string E.id, .string E.ti, .int .i64 E.st, .int .i64 E.lg, .string E.f, .int .i64 E.e, .slice r6 E.ds.length rc6, .int .i64 E.c, .int .i64 E.u, .slice s6 E.sk.length sc6, .slice m6 E.mv.length mc6] 44))).heap[w6.heap.size]? = some (.cells #[.string E.id, .string E.ti, .int .i64 E.st, .int .i64 E.lg, .string E.f, .int .i64 E.e, .slice r6 E.ds.length rc6, .int .i64 E.c, .int .i64 E.u, .slice s6 E.sk.length sc6, .slice m6 E.mv.length mc6] 44 (0, 0)) := block_at _ rfl
            have HKX : Hid (∀ W, Below ((w6.alloc (Obj.cells #[.string E.id, .string E.ti, .int .i64 E.st, .int .i64 E.lg, .string E.f, .int .i64 E.e, .slice r6 E.ds.length rc6, .int .i64 E.c, .int .i64 E.u, .slice s6 E.sk.length sc6, .slice m6 E.mv.length mc6] 44))).heap.size ((w6.alloc (Obj.cells #[.string E.id, .string E.ti, .int .i64 E.st, .int .i64 E.lg, .string E.f, .int .i64 E.e, .slice r6 E.ds.length rc6, .int .i64 E.c, .int .i64 E.u, .slice s6 E.sk.length sc6, .slice m6 E.mv.length mc6] 44))) W → _) := fun W hW => blk11 ((hW.block _ (Array.getElem?_eq_some_iff.1 kX).1).trans kX)
            clear hL6 hb6 kX GT
            generalize (w6.alloc (Obj.cells #[.string E.id, .string E.ti, .int .i64 E.st, .int .i64 E.lg, .string E.f, .int .i64 E.e, .slice r6 E.ds.length rc6, .int .i64 E.c, .int .i64 E.u, .slice s6 E.sk.length sc6, .slice m6 E.mv.length mc6] 44)) = w7 at HL7 K7 HKX ⊢
            generalize w6.heap.size = xb at HKX ⊢
            have cM7 := CM.out w7 (below_then K5.out K7.out)
            have FA7 : Hid (Calls _ _ _ _ _) := FA.out w7 K7.out
            have HSE : Hid (∀ (fm : Nat) (h : fm < Xs.length), Xs[fm].E.id = E.id → Xs[fm].E = E ∧ XGot w Xs[fm]) := fun fm h q => by
              have hmem : Xs[fm].E ∈ C := by rw [← HBN.out.same]; exact List.mem_map_of_mem (List.getElem_mem h)
              exact ⟨HBN.out.book.rises.1.uniq hmem HEC.out q, HBN.out.got _ (List.getElem_mem h)⟩
            go_upto_region 26 with (go_at_call 24; refine Calls.mono FA7.out ?_; rintro r w8 ⟨fk, rfl, hfk, hb8⟩; rcases hfk with ⟨_, hno⟩ | ⟨fm, hfm, rfl, hfe⟩; exact absurd (HFX.out.2 ⟨E, HEC.out, rfl⟩) hno)
            obtain ⟨hEq, hGot⟩ := HSE.out fm hfm hfe
            have K8 : Hid (Below wr.heap.size wr w8) := below_then K5.out (below_then K7.out hb8)
            have K58 : Hid (Below w5.heap.size w5 w8) := below_then K7.out hb8
            have K78 : Hid (Below w7.heap.size w7 w8) := hb8
            have cM8 := CM.out w8 K8.out
            have AB8 : Hid (Calls _ _ _ _ _) := AB.out w8 K8.out
            have hfm0 : (0 : Int) ≤ (fm : Int) := by omega
            go_upto_region 29 with (first
              | (go_at_call_of 27 (Value.pointer (some ⟨bb, 0, none⟩)); refine Calls.mono AB8.out ?_; rintro r w9 ⟨rfl, hb9⟩; have K9 : Hid (Below w8.heap.size w8 w9) := hb9; have cM9 := CM.out w9 (below_then K8.out hb9); have AC9 : Hid (Calls _ _ _ _ _) := AC2.out w9 (below_then K58.out hb9))
              | (go_at_call_of 27 (Value.pointer (some ⟨wr.heap.size, 0, none⟩)); refine Calls.mono AC9.out ?_; rintro r w10 ⟨rfl, hb10⟩))
            obtain ⟨b, hoa, hev⟩ := HRW.out fm hfm
            subst hoa
            have K10 : Hid (Below wr.heap.size wr w10) := below_then K8.out (below_then K9.out hb10)
            have K510 : Hid (Below w5.heap.size w5 w10) := below_then K58.out (below_then K9.out hb10)
            have K710 : Hid (Below w7.heap.size w7 w10) := below_then K78.out (below_then K9.out hb10)
            have hev10 := hev.step K10.out
            have hfl : (fm : Int) < (Xs.length : Int) := by omega
            clear hev HRW HSE
            generalize Xs[fm] = X at hev10 hEq hGot hfe
            obtain ⟨E1, sl1, sk1, mv1⟩ := X
            dsimp only at hev10 hEq hGot hfe
            subst hEq
            obtain ⟨gX1, gX2, gX3, _⟩ := hGot
            dsimp only at gX1 gX2 gX3
            have hGL : GLs w10 E1 sl1 sk1 mv1 := ⟨gX1.step (below_then HB.out K10.out), gX2.step (below_then HB.out K10.out), gX3.step (below_then HB.out K10.out)⟩
            obtain ⟨p1, pc1, rfl⟩ := got_form gX1
            obtain ⟨p2, pc2, rfl⟩ := got_form gX2
            obtain ⟨p3, pc3, rfl⟩ := gotM_form gX3
            obtain ⟨x0, x1, x2, x3, x4, x5, x6, x7, x8, x9, x10⟩ := HKX.out w10 K710.out
            obtain ⟨y0, y1, y2, y3, y4, y5, y6, y7, y8, y9, y10⟩ := hev10
            have cM10 := CM.out w10 K10.out
            have SE := fun dd os => Calls.regrown_of (sameEvent_mix E1 _ _ _ _ _ _ _ ((HL7.out.step K710.out).step (below_regrown w10 dd os)) (hGL.step (below_regrown w10 dd os)))
            unfold ev at SE
            have HSE : Hid (_) := SE
            clear SE hGL gX1 gX2 gX3 hb10 AB8 AC9 cM7 cM8 cM9
            have X0 := cell_regrown x0
            have Y0 := cell_regrown y0
            have X1 := cell_regrown x1
            have Y1 := cell_regrown y1
            have X2 := cell_regrown x2
            have Y2 := cell_regrown y2
            have X3 := cell_regrown x3
            have Y3 := cell_regrown y3
            have X4 := cell_regrown x4
            have Y4 := cell_regrown y4
            have X5 := cell_regrown x5
            have Y5 := cell_regrown y5
            have X6 := cell_regrown x6
            have Y6 := cell_regrown y6
            have X7 := cell_regrown x7
            have Y7 := cell_regrown y7
            have X8 := cell_regrown x8
            have Y8 := cell_regrown y8
            have X9 := cell_regrown x9
            have Y9 := cell_regrown y9
            have X10 := cell_regrown x10
            have Y10 := cell_regrown y10
            have CM10 := cell_regrown cM10
            clear x0 x1 x2 x3 x4 x5 x6 x7 x8 x9 x10 y0 y1 y2 y3 y4 y5 y6 y7 y8 y9 y10
            refine wp_region_quiet_below (by kernel_rfl) (by kernel_rfl) ?_
            repeat (quiet_step ((go_at_call 28; exact HSE.out _ _)))
            refine wpQuiet_nil ?_
            intro w11 hw'
            have hb11 : Below w10.heap.size w10 w11 := by
              obtain ⟨⟨dq, osq⟩, hw''⟩ := hw'
              subst hw''
              exact below_regrown _ _ _
            clear hw' CM10 cM10 X0 Y0 X1 Y1 X2 Y2 X3 Y3 X4 Y4 X5 Y5 X6 Y6 X7 Y7 X8 Y8 X9 Y9 X10 Y10
            have KQ : Hid (Below wr.heap.size wr w11) := below_then K10.out hb11
            have KQ5 : Hid (Below w5.heap.size w5 w11) := below_then K510.out hb11
            have cM11 := CM.out w11 KQ.out
            clear HL7 HKX HSE hb11
            go_upto_region 31 with (fail)
            go_region_with (first
              | (go_at_call 11; refine Calls.mono (SM.out _ (below_then KQ5.out kS)) ?_; rintro r wZ ⟨rfl, hbZ⟩; have kZ : Below w11.heap.size w11 wZ := below_then kS hbZ)
              | (go_at_call 29; refine Calls.mono (sameTexts_eq (l := lst) (by first | exact HTI.out | exact HTI.out.step hbM) (by first | exact HTM.out | exact HTM.out.step hbI)) ?_; rintro r wS ⟨rfl, hbS⟩; have kS : Below w11.heap.size w11 wS := (by first | with_reducible exact below_then kM hbS | with_reducible exact below_then kI hbS))
              | (go_at_call 17; refine Calls.mono (ON.out _ (below_then KQ.out ?_)) ?_; (first | with_reducible assumption | with_reducible exact drew_below _); rintro r wI ⟨aI, cI, rfl, htI, hbI⟩; have HTI : Hid (Txs wI (.slice aI nl cI) lst) := htI; have kI : Below w11.heap.size w11 wI := (by first | with_reducible exact below_then (drew_below _) hbI | with_reducible exact below_then kM hbI); have cI1 := CM.out _ (below_then KQ.out kI); clear htI)
              | (go_at_call 30; refine Calls.mono (MO.out _ (below_then KQ.out ?_)) ?_; (first | with_reducible assumption | with_reducible exact drew_below _); rintro r wM ⟨aM, cM, rfl, htM, hbM⟩; have HTM : Hid (Txs wM (.slice aM nl cM) lst) := htM; have kM : Below w11.heap.size w11 wM := (by first | with_reducible exact below_then (drew_below _) hbM | with_reducible exact below_then kI hbM); clear htM))
            all_goals
              go_wp2
              go_ret
              exact ⟨rfl, below_then HB.out (below_then KQ.out kZ)⟩
          · have GT : Hid (Calls _ _ _ _ _) := get_no (bm + 1) bb n mo C id (by omega) hx w5 (HBN.out.book.step K5.out)
            have HX : Hid (¬ ∃ E ∈ C, E.id = id) := hx
            clear hx
            generalize zE = E0 at GT
            unfold ev at GT
            go_upto_region 25 with (go_at_call 14; refine Calls.mono GT.out ?_; rintro r w6 ⟨sl6, sk6, mv6, rfl, hL6, hb6⟩; obtain ⟨r6, rc6, rfl, _⟩ := hL6.d; obtain ⟨s6, sc6, rfl, _⟩ := hL6.s; obtain ⟨m6, mc6, rfl, _⟩ := hL6.m)
            have HL7 : Hid (Ls (w6.alloc (Obj.cells #[.string E0.id, .string E0.ti, .int .i64 E0.st, .int .i64 E0.lg, .string E0.f, .int .i64 E0.e, .slice r6 E0.ds.length rc6, .int .i64 E0.c, .int .i64 E0.u, .slice s6 E0.sk.length sc6, .slice m6 E0.mv.length mc6] 44)) E0 (.slice r6 E0.ds.length rc6) (.slice s6 E0.sk.length sc6) (.slice m6 E0.mv.length mc6)) := hL6.step (below_alloc _ _)
            have K7 : Hid (Below w5.heap.size w5 (w6.alloc (Obj.cells #[.string E0.id, .string E0.ti, .int .i64 E0.st, .int .i64 E0.lg, .string E0.f, .int .i64 E0.e, .slice r6 E0.ds.length rc6, .int .i64 E0.c, .int .i64 E0.u, .slice s6 E0.sk.length sc6, .slice m6 E0.mv.length mc6] 44))) := below_then hb6 (below_alloc _ _)
            have kX : ((w6.alloc (Obj.cells #[.string E0.id, .string E0.ti, .int .i64 E0.st, .int .i64 E0.lg, .string E0.f, .int .i64 E0.e, .slice r6 E0.ds.length rc6, .int .i64 E0.c, .int .i64 E0.u, .slice s6 E0.sk.length sc6, .slice m6 E0.mv.length mc6] 44))).heap[w6.heap.size]? = some (.cells #[.string E0.id, .string E0.ti, .int .i64 E0.st, .int .i64 E0.lg, .string E0.f, .int .i64 E0.e, .slice r6 E0.ds.length rc6, .int .i64 E0.c, .int .i64 E0.u, .slice s6 E0.sk.length sc6, .slice m6 E0.mv.length mc6] 44 (0, 0)) := block_at _ rfl
            have HKX : Hid (∀ W, Below ((w6.alloc (Obj.cells #[.string E0.id, .string E0.ti, .int .i64 E0.st, .int .i64 E0.lg, .string E0.f, .int .i64 E0.e, .slice r6 E0.ds.length rc6, .int .i64 E0.c, .int .i64 E0.u, .slice s6 E0.sk.length sc6, .slice m6 E0.mv.length mc6] 44))).heap.size ((w6.alloc (Obj.cells #[.string E0.id, .string E0.ti, .int .i64 E0.st, .int .i64 E0.lg, .string E0.f, .int .i64 E0.e, .slice r6 E0.ds.length rc6, .int .i64 E0.c, .int .i64 E0.u, .slice s6 E0.sk.length sc6, .slice m6 E0.mv.length mc6] 44))) W → _) := fun W hW => blk11 ((hW.block _ (Array.getElem?_eq_some_iff.1 kX).1).trans kX)
            clear hL6 hb6 kX GT
            generalize (w6.alloc (Obj.cells #[.string E0.id, .string E0.ti, .int .i64 E0.st, .int .i64 E0.lg, .string E0.f, .int .i64 E0.e, .slice r6 E0.ds.length rc6, .int .i64 E0.c, .int .i64 E0.u, .slice s6 E0.sk.length sc6, .slice m6 E0.mv.length mc6] 44)) = w7 at HL7 K7 HKX ⊢
            generalize w6.heap.size = xb at HKX ⊢
            have cM7 := CM.out w7 (below_then K5.out K7.out)
            have FA7 : Hid (Calls _ _ _ _ _) := FA.out w7 K7.out
            go_upto_region 26 with (go_at_call 24; refine Calls.mono FA7.out ?_; rintro r w8 ⟨fk, rfl, hfk, hb8⟩; rcases hfk with ⟨rfl, _⟩ | ⟨fm, hfm, rfl, hfe⟩; rotate_left; exact absurd (HFX.out.1 ⟨_, List.getElem_mem hfm, hfe⟩) HX.out)
            have K8 : Hid (Below wr.heap.size wr w8) := below_then K5.out (below_then K7.out hb8)
            have K58 : Hid (Below w5.heap.size w5 w8) := below_then K7.out hb8
            have cM8 := CM.out w8 K8.out
            have AB8 : Hid (Calls _ _ _ _ _) := AB.out w8 K8.out
            clear hb8
            go_upto_region 31 with (first
              | (go_at_call_of 27 (Value.pointer (some ⟨bb, 0, none⟩)); refine Calls.mono AB8.out ?_; rintro r w9 ⟨rfl, hb9⟩; have K9 : Hid (Below w8.heap.size w8 w9) := hb9; have cM9 := CM.out w9 (below_then K8.out hb9); have AC9 : Hid (Calls _ _ _ _ _) := AC2.out w9 (below_then K58.out hb9))
              | (go_at_call_of 27 (Value.pointer (some ⟨wr.heap.size, 0, none⟩)); refine Calls.mono AC9.out ?_; rintro r w10 ⟨rfl, hb10⟩))
            have KQ : Hid (Below wr.heap.size wr w10) := below_then K8.out (below_then K9.out hb10)
            have KQ5 : Hid (Below w5.heap.size w5 w10) := below_then K58.out (below_then K9.out hb10)
            have cM10 := CM.out w10 KQ.out
            clear AB8 AC9 cM8 cM9 cM7 HL7 HKX hb10
            go_region_with (first
              | (go_at_call 11; refine Calls.mono (SM.out _ (below_then KQ5.out kS)) ?_; rintro r wZ ⟨rfl, hbZ⟩; have kZ : Below w10.heap.size w10 wZ := below_then kS hbZ)
              | (go_at_call 29; refine Calls.mono (sameTexts_eq (l := lst) (by first | exact HTI.out | exact HTI.out.step hbM) (by first | exact HTM.out | exact HTM.out.step hbI)) ?_; rintro r wS ⟨rfl, hbS⟩; have kS : Below w10.heap.size w10 wS := (by first | with_reducible exact below_then kM hbS | with_reducible exact below_then kI hbS))
              | (go_at_call 17; refine Calls.mono (ON.out _ (below_then KQ.out ?_)) ?_; (first | with_reducible assumption | with_reducible exact drew_below _); rintro r wI ⟨aI, cI, rfl, htI, hbI⟩; have HTI : Hid (Txs wI (.slice aI nl cI) lst) := htI; have kI : Below w10.heap.size w10 wI := (by first | with_reducible exact below_then (drew_below _) hbI | with_reducible exact below_then kM hbI); have cI1 := CM.out _ (below_then KQ.out kI); clear htI)
              | (go_at_call 30; refine Calls.mono (MO.out _ (below_then KQ.out ?_)) ?_; (first | with_reducible assumption | with_reducible exact drew_below _); rintro r wM ⟨aM, cM, rfl, htM, hbM⟩; have HTM : Hid (Txs wM (.slice aM nl cM) lst) := htM; have kM : Below w10.heap.size w10 wM := (by first | with_reducible exact below_then (drew_below _) hbM | with_reducible exact below_then kI hbM); clear htM))
            all_goals
              go_wp2
              go_ret
              exact ⟨rfl, below_then HB.out (below_then KQ.out kZ)⟩
end Go.Proofs.YtnpecjccajebiaaGreatDoor
