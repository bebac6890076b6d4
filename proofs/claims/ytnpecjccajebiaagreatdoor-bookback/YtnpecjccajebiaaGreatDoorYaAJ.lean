/- Words of one's own, gathered and joined: strings.Join, strconv.Itoa. -/
import Derived.Test.YtnpecjccajebiaaGreatDoorYaAI
import Derived.Test.YtnpecjccajebiaaGreatDoorYaAA
import Derived.Lib.Join
import Derived.WalkKit
import Derived.Test.YtnpecjccajebiaaGreatDoorYaAH
import Derived.Deep.DeepCutAuto
import Derived.Maps.AppendAt
namespace Go.Proofs.YtnpecjccajebiaaGreatDoor
open Go.RowKit Cal

theorem info_str : (Tryz.prog.info? 9).map (fun i => (i.zero, i.size, i.bytes)) = some (some (.string ⟨#[]⟩), 1, 16) := by kernel_rfl
/-- a word as a value's bytes -/
def bs (l : List UInt8) : ByteArray := ⟨l.toArray⟩
def sv (l : List UInt8) : Value := .string (bs l)
theorem bs_data (l : List UInt8) : (bs l).data.toList = l := rfl

theorem join_any (v : Value) (base : Nat) (ws : List (List UInt8)) (sep : List UInt8) (w : World) (hx : ws ≠ []) (h : w.ownsRow base 9 1 v ws.length (ws.map sv)) (hN : ws.length ≤ 1000) (hlen : (Lib.join ws sep).length ≤ 100000) :
    Calls Tryz.prog 62 #[v, .string (bs sep)] w fun e w' => e = .returned (.string (bs (Lib.join ws sep))) ∧ Below w.heap.size w w' := by
  rcases h.2 with ⟨_, h0⟩ | ⟨g, cap, cur, rfl, hb, hg, hcap, hmax, hsz, htake⟩
  · exact absurd (List.length_eq_zero_iff.1 h0) hx
  · have hm : (ws.map bs).map (fun x => x.data.toList) = ws := by rw [List.map_map]; exact List.map_id'' (fun x => rfl) ws
    have hl : (ws.map bs).length = ws.length := List.length_map _
    have := Tryz.strings_Join g 0 cap (ws.map bs) (bs sep) w (fun j x hj => ?_) (Array.getElem?_eq_some_iff.1 hg).1 (by omega) (by omega) (by rw [hm, bs_data]; omega)
    · rw [hl, hm, bs_data] at this
      exact this
    · have hj' : ws[j]?.map bs = some x := by rw [← List.getElem?_map]; exact hj
      obtain ⟨y, hy, rfl⟩ := Option.map_eq_some_iff.1 hj'
      have hjl : j < ws.length := (List.getElem?_eq_some_iff.1 hy).1
      have := h.cellAt j (by omega)
      rw [Nat.zero_add, this, List.getElem?_map, hy]; rfl

theorem itoa_any (n : Int) (w : World) (h0 : 0 ≤ n) (h1 : n ≤ 100000) (ht : Tab w) :
    Calls Tryz.prog 91 #[.int .i64 n] w fun e w' => e = .returned (.string (bs (Lib.itoa n))) ∧ Below w.heap.size w w' := by
  refine (Tryz.strconv_Itoa n (by omega) (by omega) w ht).mono ?_
  rintro e w' ⟨rfl, k, os, rfl⟩
  exact ⟨rfl, grow_below _ _ _⟩

theorem drew_below (w : World) : Below w.heap.size w w.drew := ⟨rfl, rfl, rfl, Nat.le_refl _, fun _ _ => rfl⟩

/-- the words gathered so far -/
structure TR (W0 wx : World) (v : Value) (L : List (List UInt8)) : Prop where
  own : wx.ownsRow W0.heap.size 9 1 v L.length (L.map sv)
  below : Below W0.heap.size W0 wx

theorem own_step {w w' : World} {base : Nat} {e : TypeId} {size : Nat} {v : Value} {n : Nat} {xs : List Value} (h : w.ownsRow base e size v n xs) (hb : Below w.heap.size w w') : w'.ownsRow base e size v n xs := by
  refine ⟨h.1, ?_⟩
  rcases h.2 with h2 | ⟨g, cap, cur, hv, hg, hh, r⟩
  · exact Or.inl h2
  · exact Or.inr ⟨g, cap, cur, hv, hg, (hb.block g (Array.getElem?_eq_some_iff.1 hh).1).trans hh, r⟩
theorem TR.step {W0 wx w2 : World} {v : Value} {L : List (List UInt8)} (h : TR W0 wx v L) (hb : Below wx.heap.size wx w2) : TR W0 w2 v L := ⟨own_step h.own hb, below_then h.below hb⟩
theorem TR.app {W0 w2 w3 : World} {v v' : Value} {L : List (List UInt8)} {n : Nat} {xs : List Value} {o : Obj} (M : List (List UInt8)) (h : TR W0 w2 v L) (hn : n = (L ++ M).length) (hx : xs = (L ++ M).map sv)
    (hown : w3.ownsRow W0.heap.size 9 1 v' n xs) (hg : (w2.alloc o).grownBy w3 v.ownBlock) : TR W0 w3 v' (L ++ M) := by
  subst hn hx
  exact ⟨hown, (h.below.alloc h.below.size _).grown hg (by have := h.below.size; simp; omega) (fun j ej => (h.own.lt j ej).1)⟩
theorem TR.lit {W0 w2 : World} (hb : Below W0.heap.size W0 w2) (x y : ByteArray) : TR W0 (w2.alloc (.cells #[.string x, .string y] 9)) (.slice (some ⟨w2.heap.size, 0, none⟩) 2 2) [x.data.toList, y.data.toList] :=
  ⟨World.ownsRow_lit (size := 1) w2 #[.string x, .string y] 2 hb.size (by unfold maxLen; omega) rfl, hb.alloc hb.size _⟩

theorem TR.one {W0 w2 : World} (hb : Below W0.heap.size W0 w2) (x : ByteArray) : TR W0 (w2.alloc (.cells #[.string x] 9)) (.slice (some ⟨w2.heap.size, 0, none⟩) 1 1) [x.data.toList] :=
  ⟨World.ownsRow_lit (size := 1) w2 #[.string x] 1 hb.size (by unfold maxLen; omega) rfl, hb.alloc hb.size _⟩
theorem TR.nil (W0 : World) : TR W0 W0 (.slice none 0 0) [] := ⟨World.ownsRow_nil _ _ _ _, Below.refl _ _⟩
theorem TR.form {W0 wx : World} {v : Value} {L : List (List UInt8)} (h : TR W0 wx v L) : ∃ a cap, v = .slice a L.length cap := by
  rcases h.own.2 with ⟨rfl, h0⟩ | ⟨g, cap, cur, rfl, _⟩
  · rw [h0]; exact ⟨none, 0, rfl⟩
  · exact ⟨_, cap, rfl⟩
/-- one word more: the new cell -/
theorem word_cell (w : World) (x : ByteArray) : ∀ (j : Nat) (v : Value), [Value.string x][j]? = some v → (w.alloc (.cells #[.string x] 9)).cell? ((⟨w.heap.size, 0, none⟩ : Addr).add j) = some v := fun j v hv => by
  obtain ⟨hj, he⟩ := List.getElem?_eq_some_iff.1 hv
  have hj0 : j = 0 := by simpa using hj
  subst hj0
  have he' : Value.string x = v := by simpa using he
  rw [← he']
  exact (Boxed.new w 9 (.string x)).cell
theorem lens_le : ∀ (ws : List (List UInt8)) (K : Nat), (∀ y ∈ ws, y.length ≤ K) → Lib.lens ws ≤ ws.length * K
  | [], K, _ => by simp [Lib.lens]
  | x :: r, K, h => by
    have h1 := h x (List.mem_cons_self ..)
    have h2 := lens_le r K (fun y hy => h y (List.mem_cons_of_mem _ hy))
    have e : Lib.lens (x :: r) = x.length + Lib.lens r := by simp [Lib.lens]
    rw [e, List.length_cons, Nat.add_mul, Nat.one_mul]
    omega
theorem joinLen (ws : List (List UInt8)) (sep : List UInt8) (K : Nat) (h : ∀ y ∈ ws, y.length ≤ K) : (Lib.join ws sep).length ≤ ws.length * (K + sep.length) := by
  cases ws with
  | nil => simp [Lib.join_nil]
  | cons x r =>
    rw [Lib.join_length, List.length_cons]
    have h2 := lens_le (x :: r) K h
    rw [List.length_cons] at h2
    have e : (r.length + 1) * (K + sep.length) = (r.length + 1) * K + (sep.length * r.length + sep.length) := by
      rw [Nat.mul_add, Nat.mul_comm (r.length + 1) sep.length, Nat.mul_add, Nat.mul_one]
    omega
/-- any words joined -/
theorem joins_any (W0 : World) (v : Value) (ws : List (List UInt8)) (sep : List UInt8) (w : World) (h : TR W0 w v ws) (hN : ws.length ≤ 1000) (hlen : (Lib.join ws sep).length ≤ 100000) :
    Calls Tryz.prog 62 #[v, .string (bs sep)] w fun e w' => e = .returned (.string (bs (Lib.join ws sep))) ∧ Below w.heap.size w w' := by
  by_cases hx : ws = []
  · obtain ⟨a, cap, rfl⟩ := h.form
    subst hx
    refine (Tryz.strings_Join_none a cap (bs sep) w).mono ?_
    rintro r w' ⟨rfl, rfl⟩
    exact ⟨rfl, Below.refl _ _⟩
  · exact join_any v _ ws sep w hx h.own hN hlen
end Go.Proofs.YtnpecjccajebiaaGreatDoor

/- Package event's Fields, Get, listText and Text: an event's parts, one behind the other. -/
namespace Go.Proofs.YtnpecjccajebiaaGreatDoor
open Go Go.RowKit Cal
attribute [local go_sem] Oper.semAt_some

/-- the fields' names -/
def fldB : Nat → ByteArray
  | 0 => ⟨#[116, 105, 116, 108, 101]⟩
  | 1 => ⟨#[115, 116, 97, 114, 116]⟩
  | 2 => ⟨#[108, 111, 110, 103]⟩
  | 3 => ⟨#[114, 117, 108, 101]⟩
  | 4 => ⟨#[115, 107, 105, 112, 115]⟩
  | _ => ⟨#[109, 111, 118, 101, 115]⟩
/-- the row of the fields' names -/
def fldO : Obj := .cells #[.string ⟨#[116, 105, 116, 108, 101]⟩, .string ⟨#[115, 116, 97, 114, 116]⟩, .string ⟨#[108, 111, 110, 103]⟩, .string ⟨#[114, 117, 108, 101]⟩, .string ⟨#[115, 107, 105, 112, 115]⟩, .string ⟨#[109, 111, 118, 101, 115]⟩] 9
theorem fld_cell (w : World) (i : Nat) (h : i < 6) : (w.alloc fldO).cell? ⟨w.heap.size, i, none⟩ = some (.string (fldB i)) := by
  unfold fldO
  rw [World.cell?_alloc_new]
  match i, h with
  | 0, _ => rfl
  | 1, _ => rfl
  | 2, _ => rfl
  | 3, _ => rfl
  | 4, _ => rfl
  | 5, _ => rfl
theorem fields_any (w : World) : Calls Tryz.prog 60 #[] w fun r w' => r = .returned (.slice (some ⟨w.heap.size, 0, none⟩) 6 6) ∧ w' = w.alloc fldO := by
  unfold fldO
  go_enter Tryz.func60, Tryz.ntmps60
  go_wp2
  go_ret
  exact ⟨rfl, rfl⟩

set_option maxHeartbeats 1600000 in
set_option maxRecDepth 100000 in
theorem listTextI_any (ds : List Int) (sl : Value) (tx : Int → List UInt8) (w : World) (hd : Ints w sl ds) (h20 : ds.length ≤ 60) (hl : ∀ x ∈ ds, (tx x).length ≤ 30)
    (hc : ∀ x ∈ ds, ∀ W, Below w.heap.size w W → Calls Tryz.prog 90 #[.int .i64 x] W fun r w' => r = .returned (.string (bs (tx x))) ∧ Below W.heap.size W w') :
    Calls Tryz.prog 93 #[sl, .func (.func 90) #[] #[]] w fun r w' => r = .returned (.string (bs (Lib.join (ds.map tx) [44]))) ∧ Below w.heap.size w w' := by
  obtain ⟨a, cap, rfl, _, hcap, hcell⟩ := hd
  obtain ⟨i0, hi, hz0, hz1, hz2⟩ := info_parts info_str
  have HC : Hid (_) := hcell
  have HT : Hid (_) := hc
  have HL : Hid (_) := hl
  clear hcell hc hl
  go_enter Tryz.func93, Tryz.ntmps93
  go_wp2
  go_loopw [5, 7, 10] (fun v _ i wr => ∃ m : Nat, m ≤ ds.length ∧ i = .int .i64 m ∧ Hid (TR w wr v ((ds.map tx).take m))) (fun _ _ i _ => ds.length - (intOf i).toNat)
  case atStart => exact ⟨0, Nat.zero_le _, rfl, TR.nil w⟩
  case round =>
    obtain ⟨m, hm, rfl, HO⟩ := hrel
    by_cases hlt : m < ds.length
    · obtain ⟨blk, rfl, hblk, hcl⟩ := HC.out m hlt
      have hc1 := cell_step hcl HO.out.below
      have HN : Hid ((ds.map tx).take (m + 1) = (ds.map tx).take m ++ [tx ds[m]]) := by
        show _ = _
        rw [List.take_succ_eq_append_getElem (by simpa using hlt)]; simp
      have hcall := HT.out ds[m] (List.getElem_mem hlt) wr HO.out.below
      have hlen : ((ds.map tx).take m).length = m := by simp; omega
      clear HC HT HL hcl
      generalize ds[m] = x at hc1 HN hcall
      generalize (ds.map tx).take m = L at HO HN hlen
      obtain ⟨oa, oc, rfl⟩ := HO.out.form
      rw [hlen] at HO
      have HLN : Hid (L.length = m) := hlen
      have HCL : Hid (_) := hcall
      generalize hbt : bs (tx x) = bt at HCL
      have HBT : Hid (bs (tx x) = bt) := hbt
      clear hlen hcall hbt
      rw [HLN.out]
      go_wp2_with (first
        | (go_at_call 90; refine Calls.mono HCL.out ?_; rintro r w2 ⟨rfl, hb2⟩; have T2 : Hid (TR w w2 (.slice oa m oc) L) := HO.out.step hb2; have NC : Hid (_) := word_cell w2 bt; have hz2' : w.heap.size ≤ w2.heap.size := T2.out.below.size)
        | (at_builtin; refine wpList_append_own _ rfl _ _ 36 rfl w.heap.size 9 i0 (.string ⟨#[]⟩) 1 16 Tryz.underlying36 hi hz0 hz1 hz2 rfl (by decide) _ _ _ rfl (show World.ownsRow _ _ _ _ _ m (L.map sv) by have := T2.out.own.alloc (.cells #[.string bt] 9); rwa [HLN.out] at this) ⟨w2.heap.size, 0, none⟩ 1 1 [.string bt] rfl rfl NC.out (fun v hv => by rw [List.mem_singleton.1 hv]; rfl) (by unfold maxLen; omega) (by omega) (by simp; omega) ?_; intro v' w3 hown' hgrow _; have T3 : Hid (TR w w3 v' (L ++ [tx x])) := TR.app [tx x] T2.out (by rw [List.length_append, HLN.out]; rfl) (by rw [List.map_append, ← HBT.out]; rfl) hown' hgrow; obtain ⟨g', cap', rfl⟩ := ownsRow_succ hown'; clear hown' hgrow)
        | go_in)
      go_roundw
      case rel => exact ⟨m + 1, by omega, by go_num, by rw [HN.out]; exact T3.out⟩
      case measure => simp [intOf]; omega
    · have HE : Hid ((ds.map tx).take m = ds.map tx) := List.take_of_length_le (by simp; omega)
      rw [HE.out] at HO
      have hle : (Lib.join (ds.map tx) [44]).length ≤ 100000 := by
        have := joinLen (ds.map tx) [44] 30 (fun y hy => by obtain ⟨x, hx, rfl⟩ := List.mem_map.1 hy; exact HL.out x hx)
        simp at this
        have h31 : ds.length * 31 ≤ 60 * 31 := Nat.mul_le_mul_right _ h20
        omega
      have J : Hid (_) := joins_any w _ (ds.map tx) [44] wr HO.out (by simp; omega) hle
      obtain ⟨oa, oc, rfl⟩ := HO.out.form
      rw [List.length_map] at HO J ⊢
      clear HC HT HL hle
      unfold bs at J
      go_wp2_with (go_at_call 62; refine Calls.mono J.out ?_; rintro r w2 ⟨rfl, hb2⟩)
      go_ret
      exact ⟨rfl, below_then HO.out.below hb2⟩
theorem get_title (E : EV) (ra : Option Addr) (rn rc : Nat) (sa : Option Addr) (sn sc : Nat) (ma : Option Addr) (mn mc : Nat) (w : World) :
    Calls Tryz.prog 61 #[ev E (.slice ra rn rc) (.slice sa sn sc) (.slice ma mn mc), .string (fldB 0)] w fun r w' => r = .returned (.string E.ti) ∧ Below w.heap.size w w' := by
  obtain ⟨idn, ti, st, lg, f, e, ds, c, u, sk, mv⟩ := E
  unfold ev fldB
  dsimp only
  go_enter Tryz.func61, Tryz.ntmps61
  go_wp2
  go_ret
  exact ⟨rfl, below_alloc _ _⟩
theorem get_start (E : EV) (ra : Option Addr) (rn rc : Nat) (sa : Option Addr) (sn sc : Nat) (ma : Option Addr) (mn mc : Nat) (b : ByteArray) (w : World)
    (h : ∀ W, Below w.heap.size w W → Calls Tryz.prog 90 #[.int .i64 E.st] W fun r w' => r = .returned (.string b) ∧ Below W.heap.size W w') :
    Calls Tryz.prog 61 #[ev E (.slice ra rn rc) (.slice sa sn sc) (.slice ma mn mc), .string (fldB 1)] w fun r w' => r = .returned (.string b) ∧ Below w.heap.size w w' := by
  obtain ⟨idn, ti, st, lg, f, e, ds, c, u, sk, mv⟩ := E
  unfold ev fldB
  dsimp only at h ⊢
  have H : Hid (_) := h _ (below_alloc w (.cells #[.string idn, .string ti, .int .i64 st, .int .i64 lg, .string f, .int .i64 e, .slice ra rn rc, .int .i64 c, .int .i64 u, .slice sa sn sc, .slice ma mn mc] 44))
  clear h
  go_enter Tryz.func61, Tryz.ntmps61
  go_wp2_with (go_at_call 90; refine Calls.mono H.out ?_; rintro r w1 ⟨rfl, hb1⟩)
  go_ret
  exact ⟨rfl, below_then (below_alloc _ _) hb1⟩
theorem get_long (E : EV) (ra : Option Addr) (rn rc : Nat) (sa : Option Addr) (sn sc : Nat) (ma : Option Addr) (mn mc : Nat) (b : ByteArray) (w : World)
    (h : ∀ W, Below w.heap.size w W → Calls Tryz.prog 91 #[.int .i64 E.lg] W fun r w' => r = .returned (.string b) ∧ Below W.heap.size W w') :
    Calls Tryz.prog 61 #[ev E (.slice ra rn rc) (.slice sa sn sc) (.slice ma mn mc), .string (fldB 2)] w fun r w' => r = .returned (.string b) ∧ Below w.heap.size w w' := by
  obtain ⟨idn, ti, st, lg, f, e, ds, c, u, sk, mv⟩ := E
  unfold ev fldB
  dsimp only at h ⊢
  have H : Hid (_) := h _ (below_alloc w (.cells #[.string idn, .string ti, .int .i64 st, .int .i64 lg, .string f, .int .i64 e, .slice ra rn rc, .int .i64 c, .int .i64 u, .slice sa sn sc, .slice ma mn mc] 44))
  clear h
  go_enter Tryz.func61, Tryz.ntmps61
  go_wp2_with (go_at_call 91; refine Calls.mono H.out ?_; rintro r w1 ⟨rfl, hb1⟩)
  go_ret
  exact ⟨rfl, below_then (below_alloc _ _) hb1⟩
theorem get_rule (E : EV) (ra : Option Addr) (rn rc : Nat) (sa : Option Addr) (sn sc : Nat) (ma : Option Addr) (mn mc : Nat) (b : ByteArray) (w : World)
    (h : ∀ W, Below w.heap.size w W → Calls Tryz.prog 92 #[.agg #[.string E.f, .int .i64 E.e, .slice ra rn rc, .int .i64 E.c, .int .i64 E.u]] W fun r w' => r = .returned (.string b) ∧ Below W.heap.size W w') :
    Calls Tryz.prog 61 #[ev E (.slice ra rn rc) (.slice sa sn sc) (.slice ma mn mc), .string (fldB 3)] w fun r w' => r = .returned (.string b) ∧ Below w.heap.size w w' := by
  obtain ⟨idn, ti, st, lg, f, e, ds, c, u, sk, mv⟩ := E
  unfold ev fldB
  dsimp only at h ⊢
  have H : Hid (_) := h _ (below_alloc w (.cells #[.string idn, .string ti, .int .i64 st, .int .i64 lg, .string f, .int .i64 e, .slice ra rn rc, .int .i64 c, .int .i64 u, .slice sa sn sc, .slice ma mn mc] 44))
  clear h
  go_enter Tryz.func61, Tryz.ntmps61
  go_wp2_with (go_at_call 92; refine Calls.mono H.out ?_; rintro r w1 ⟨rfl, hb1⟩)
  go_ret
  exact ⟨rfl, below_then (below_alloc _ _) hb1⟩
theorem get_skips (E : EV) (ra : Option Addr) (rn rc : Nat) (sa : Option Addr) (sn sc : Nat) (ma : Option Addr) (mn mc : Nat) (b : ByteArray) (w : World)
    (h : ∀ W, Below w.heap.size w W → Calls Tryz.prog 93 #[.slice sa sn sc, .func (.func 90) #[] #[]] W fun r w' => r = .returned (.string b) ∧ Below W.heap.size W w') :
    Calls Tryz.prog 61 #[ev E (.slice ra rn rc) (.slice sa sn sc) (.slice ma mn mc), .string (fldB 4)] w fun r w' => r = .returned (.string b) ∧ Below w.heap.size w w' := by
  obtain ⟨idn, ti, st, lg, f, e, ds, c, u, sk, mv⟩ := E
  unfold ev fldB
  dsimp only at h ⊢
  have H : Hid (_) := h _ (below_alloc w (.cells #[.string idn, .string ti, .int .i64 st, .int .i64 lg, .string f, .int .i64 e, .slice ra rn rc, .int .i64 c, .int .i64 u, .slice sa sn sc, .slice ma mn mc] 44))
  clear h
  go_enter Tryz.func61, Tryz.ntmps61
  go_wp2_with (go_at_call 93; refine Calls.mono H.out ?_; rintro r w1 ⟨rfl, hb1⟩)
  go_ret
  exact ⟨rfl, below_then (below_alloc _ _) hb1⟩
theorem get_moves (E : EV) (ra : Option Addr) (rn rc : Nat) (sa : Option Addr) (sn sc : Nat) (ma : Option Addr) (mn mc : Nat) (b : ByteArray) (w : World)
    (h : ∀ W, Below w.heap.size w W → Calls Tryz.prog 94 #[.slice ma mn mc, .func (.func 95) #[] #[]] W fun r w' => r = .returned (.string b) ∧ Below W.heap.size W w') :
    Calls Tryz.prog 61 #[ev E (.slice ra rn rc) (.slice sa sn sc) (.slice ma mn mc), .string (fldB 5)] w fun r w' => r = .returned (.string b) ∧ Below w.heap.size w w' := by
  obtain ⟨idn, ti, st, lg, f, e, ds, c, u, sk, mv⟩ := E
  unfold ev fldB
  dsimp only at h ⊢
  have H : Hid (_) := h _ (below_alloc w (.cells #[.string idn, .string ti, .int .i64 st, .int .i64 lg, .string f, .int .i64 e, .slice ra rn rc, .int .i64 c, .int .i64 u, .slice sa sn sc, .slice ma mn mc] 44))
  clear h
  go_enter Tryz.func61, Tryz.ntmps61
  go_wp2_with (go_at_call 94; refine Calls.mono H.out ?_; rintro r w1 ⟨rfl, hb1⟩)
  go_ret
  exact ⟨rfl, below_then (below_alloc _ _) hb1⟩

theorem listTextM_nil (a : Option Addr) (cap : Nat) (w : World) :
    Calls Tryz.prog 94 #[.slice a 0 cap, .func (.func 95) #[] #[]] w fun r w' => r = .returned (.string ⟨#[]⟩) ∧ Below w.heap.size w w' := by
  have J : Hid (∀ W, _) := fun W => Tryz.strings_Join_none none 0 ⟨#[44]⟩ W
  go_enter Tryz.func94, Tryz.ntmps94
  go_wp2
  go_loop [5, 10] (fun v i => v = .slice none 0 0 ∧ i = .int .i64 0) (fun _ _ => 0)
  case atStart => exact ⟨rfl, rfl⟩
  case round =>
    obtain ⟨rfl, rfl⟩ := hrel
    go_wp2_with (go_at_call 62; refine (J.out _).mono ?_; rintro r w2 ⟨rfl, rfl⟩)
    go_ret
    exact ⟨rfl, Below.refl _ _⟩

set_option maxHeartbeats 1600000 in
set_option maxRecDepth 100000 in
/-- an event's text, out of the texts of its fields -/
theorem etext_of (E : EV) (sl skv mvv : Value) (ps : List (List UInt8)) (s : Nat → Addr) (w : World) (g : GlobK s w) (hd : Days w sl E.ds) (hs : Ints w skv E.sk) (hm : Movs w mvv E.mv) (h30 : E.id.size ≤ 60) (h60 : E.ti.size ≤ 60) (hw : EW E) (hps : ps.length = 6) (hpl : ∀ p ∈ ps, p.length ≤ 10000)
    (hget : ∀ (i : Nat), i < 6 → ∀ (W : World), Below w.heap.size w W → Calls Tryz.prog 61 #[ev E sl skv mvv, .string (fldB i)] W fun r w' => r = .returned (.string (bs (ps.getD i []))) ∧ Below W.heap.size W w') :
    Calls Tryz.prog 35 #[ev E sl skv mvv] w fun r w' => r = .returned (.string (bs (Lib.join (E.id.data.toList :: ps) [124]))) ∧ Below w.heap.size w w' := by
  have hA := below_alloc w (.cells #[.string E.id, .string E.ti, .int .i64 E.st, .int .i64 E.lg, .string E.f, .int .i64 E.e, sl, .int .i64 E.c, .int .i64 E.u, skv, mvv] 44)
  have hB := EB.new w E sl skv mvv
  have CK : Calls Tryz.prog 42 #[ev E sl skv mvv] _ _ := evCheck_k E sl skv mvv 0 s _ (g.step hA) (hd.step hA) (hs.step hA) (hm.step hA) h30 h60 (by obtain ⟨k, hk⟩ := evK_ex E; have := (evK_0 hk).2 hw; subst this; exact hk)
  rw [errV_0] at CK
  obtain ⟨ra, rc, rfl, _⟩ := hd
  obtain ⟨sa, sc, rfl, _⟩ := hs
  obtain ⟨ma, mc, rfl, _⟩ := hm
  obtain ⟨i0, hi, hz0, hz1, hz2⟩ := info_parts info_str
  have HCK : Hid (Calls _ _ _ _ _) := CK
  have HG : Hid (_) := hget
  have HPL : Hid (_) := hpl
  have HPS : Hid (_) := hps
  clear CK hget g hw hpl hps
  obtain ⟨idn, ti, st, lg, f, e, ds, c, u, sk, mv⟩ := E
  unfold ev EB at *
  dsimp only at *
  have HA : Hid (_) := hA
  clear hA
  generalize hw0 : w.alloc (.cells #[.string idn, .string ti, .int .i64 st, .int .i64 lg, .string f, .int .i64 e, .slice ra ds.length rc, .int .i64 c, .int .i64 u, .slice sa sk.length sc, .slice ma mv.length mc] 44) = w0 at HCK HA hB
  obtain ⟨x0, x1, x2, x3, x4, x5, x6, x7, x8, x9, x10⟩ := blk11 hB
  have BX : Hid (∀ W, Below w0.heap.size w0 W → _) := fun W h => blk11 ((h.block _ (Array.getElem?_eq_some_iff.1 hB).1).trans hB)
  clear hB
  have FA : Hid (∀ W, _) := fun W => fields_any W
  go_enter Tryz.func35, Tryz.ntmps35
  go_upto_region 4 with (go_at_call 42; refine Calls.mono HCK.out ?_; rintro r w1 ⟨rfl, hb1⟩; obtain ⟨y0, y1, y2, y3, y4, y5, y6, y7, y8, y9, y10⟩ := BX.out _ hb1)
  have T1 : Hid (TR w0 (w1.alloc (.cells #[.string idn] 9)) (.slice (some ⟨w1.heap.size, 0, none⟩) 1 1) [idn.data.toList]) := TR.one hb1 idn
  generalize hw2 : w1.alloc (.cells #[.string idn] 9) = w2 at T1
  clear x0 x1 x2 x3 x4 x5 x6 x7 x8 x9 x10 y0 y1 y2 y3 y4 y5 y6 y7 y8 y9 y10
  go_wp2_with (go_at_call 60; refine (FA.out _).mono ?_; rintro r w' ⟨rfl, rfl⟩)
  have T2 : Hid (TR w0 (w2.alloc fldO) (.slice (some ⟨w1.heap.size, 0, none⟩) 1 1) [idn.data.toList]) := T1.out.step (below_alloc _ _)
  have FC : Hid (∀ (i : Nat), i < 6 → (w2.alloc fldO).cell? ⟨w2.heap.size, i, none⟩ = some (.string (fldB i))) := fun i hi => fld_cell w2 i hi
  have hnf : w2.heap.size < (w2.alloc fldO).heap.size := by rw [World.size_alloc]; exact Nat.lt_succ_self _
  have hnp : w1.heap.size ≠ w2.heap.size := by rw [← hw2, World.size_alloc]; exact Nat.ne_of_lt (Nat.lt_succ_self _)
  clear T1 hb1 hw2
  generalize w2.alloc fldO = w3 at T2 FC hnf ⊢
  generalize w2.heap.size = nf at FC hnf hnp ⊢
  generalize w1.heap.size = np at T2 hnp ⊢
  go_loopw [3, 5, 14] (fun v _ i wr => ∃ m : Nat, m ≤ 6 ∧ i = .int .i64 m ∧ Hid ((∀ (i : Nat), i < 6 → wr.cell? ⟨nf, i, none⟩ = some (.string (fldB i))) ∧ nf < wr.heap.size ∧ v.ownBlock ≠ some nf) ∧ Hid (TR w0 wr v (idn.data.toList :: ps.take m))) (fun _ _ i _ => 6 - (intOf i).toNat)
  case atStart => exact ⟨0, Nat.zero_le _, rfl, ⟨FC.out, hnf, by simp [Value.ownBlock]; exact hnp⟩, T2.out⟩
  case round =>
    obtain ⟨m, hm, rfl, hB, HO⟩ := hrel
    by_cases hlt : m < 6
    · have hc1 := hB.out.1 m hlt
      have HN : Hid (ps.take (m + 1) = ps.take m ++ [ps.getD m []]) := by
        show _ = _
        rw [List.take_succ_eq_append_getElem (by rw [HPS.out]; exact hlt), List.getD_eq_getElem?_getD, List.getElem?_eq_getElem (by rw [HPS.out]; exact hlt)]; rfl
      have hcall := HG.out m hlt wr (below_then HA.out HO.out.below)
      obtain ⟨y0, y1, y2, y3, y4, y5, y6, y7, y8, y9, y10⟩ := BX.out wr HO.out.below
      have hlen : (idn.data.toList :: ps.take m).length = m + 1 := by simp; rw [HPS.out]; omega
      have HNL : Hid (idn.data.toList :: ps.take (m + 1) = (idn.data.toList :: ps.take m) ++ [ps.getD m []]) := by show _ = _; rw [HN.out]; rfl
      clear HN HG
      generalize idn.data.toList :: ps.take m = L at HO hlen HNL
      generalize ps.getD m [] = px at HNL hcall
      obtain ⟨oa, oc, rfl⟩ := HO.out.form
      rw [hlen] at HO hB
      have HLN : Hid (L.length = m + 1) := hlen
      have HCL : Hid (Calls _ _ _ _ _) := hcall
      generalize hbt : bs px = bt at HCL
      have HBT : Hid (bs px = bt) := hbt
      have hw3 : w0.heap.size ≤ wr.heap.size := HO.out.below.size
      clear hlen hcall hbt
      rw [HLN.out]
      generalize fldB m = fb at hc1 HCL
      go_wp2_with (first
        | (go_at_call 61; refine Calls.mono HCL.out ?_; rintro r w2 ⟨rfl, hb2⟩; have T3 : Hid (TR w0 w2 (.slice oa (m + 1) oc) L) := HO.out.step hb2; have NC : Hid (_) := word_cell w2 bt; have hz2' : w0.heap.size ≤ w2.heap.size := T3.out.below.size; have CW : Hid ((∀ (i : Nat), i < 6 → w2.cell? ⟨nf, i, none⟩ = some (.string (fldB i))) ∧ nf < w2.heap.size) := ⟨fun i hi => cell_step (hB.out.1 i hi) hb2, Nat.lt_of_lt_of_le hB.out.2.1 hb2.size⟩)
        | (at_builtin; refine wpList_append_own_at _ rfl _ _ 36 rfl w0.heap.size 9 i0 (.string ⟨#[]⟩) 1 16 Tryz.underlying36 hi hz0 hz1 hz2 rfl (by decide) _ _ _ rfl (show World.ownsRow _ _ _ _ _ (m + 1) (L.map sv) by have := T3.out.own.alloc (.cells #[.string bt] 9); rwa [HLN.out] at this) ⟨w2.heap.size, 0, none⟩ 1 1 [.string bt] rfl rfl NC.out (fun v hv => by rw [List.mem_singleton.1 hv]; rfl) (by unfold maxLen; omega) (by omega) (by simp; omega) ?_; intro v' w3' hown' hgrow _ hat; have T4 : Hid (TR w0 w3' v' (L ++ [px])) := TR.app [px] T3.out (by rw [List.length_append, HLN.out]; rfl) (by rw [List.map_append, ← HBT.out]; rfl) hown' hgrow; obtain ⟨g', cap', rfl⟩ := ownsRow_succ hown'; have HGR : Hid ((w2.alloc (.cells #[.string bt] 9)).grownBy w3' (Value.slice oa (m + 1) oc).ownBlock) := hgrow; have HAT : Hid (_) := hat; clear hown' hgrow hat)
        | go_in)
      go_roundw
      case rel =>
        have hne := hB.out.2.2
        have hblk : w3'.heap[nf]? = w2.heap[nf]? := (HGR.out.block nf (by rw [World.size_alloc]; have := CW.out.2; omega) (fun q => hne q.symm)).trans ((below_alloc w2 _).block nf CW.out.2)
        refine ⟨m + 1, by omega, by go_num, ⟨fun i hi => (World.cell?_of_block (a := ⟨nf, i, none⟩) hblk).trans (CW.out.1 i hi), ?_, ?_⟩, by rw [HNL.out]; exact T4.out⟩
        · have := HGR.out.size; rw [World.size_alloc] at this; have := CW.out.2; omega
        · rcases HAT.out with q | q
          · exact fun q2 => hne (q.symm.trans q2)
          · rw [q, World.size_alloc]
            intro q2
            have q3 : w2.heap.size + 1 = nf := by simpa using q2
            have := CW.out.2
            omega
      case measure => simp [intOf]; omega
    · have hm6 : m = 6 := by omega
      subst hm6
      have HE : Hid (ps.take 6 = ps) := List.take_of_length_le (by rw [HPS.out]; exact Nat.le_refl _)
      rw [HE.out] at HO
      have hle : (Lib.join (idn.data.toList :: ps) [124]).length ≤ 100000 := by
        have := joinLen (idn.data.toList :: ps) [124] 10000 (fun y hy => by
          rcases List.mem_cons.1 hy with rfl | q
          · have : idn.data.toList.length = idn.size := Array.length_toList
            omega
          · exact HPL.out y q)
        rw [List.length_cons, HPS.out] at this
        simp at this
        omega
      have J : Hid (_) := joins_any w0 _ (idn.data.toList :: ps) [124] wr HO.out (by rw [List.length_cons, HPS.out]; omega) hle
      obtain ⟨oa, oc, rfl⟩ := HO.out.form
      clear HG hle
      generalize hrb : bs (Lib.join (idn.data.toList :: ps) [124]) = rb at J
      have HRB : Hid (_) := hrb
      clear hrb
      unfold bs at J
      go_wp2_with (go_at_call 62; refine Calls.mono J.out ?_; rintro r w2 ⟨rfl, hb2⟩)
      go_ret
      exact ⟨by rw [HRB.out]; rfl, below_then HA.out (below_then HO.out.below hb2)⟩
end Go.Proofs.YtnpecjccajebiaaGreatDoor
