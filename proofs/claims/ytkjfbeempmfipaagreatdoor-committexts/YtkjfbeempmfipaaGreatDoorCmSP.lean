/- Package commit's split, Read: of any text. -/
import Derived.Test.YtkjfbeempmfipaaGreatDoorJtAM
import Derived.Test.YtkjfbeempmfipaaGreatDoorJtAN
namespace Go.Proofs.YtkjfbeempmfipaaGreatDoor
open Go Go.RowKit Go.Sort Cal
attribute [local go_sem] Oper.semAt_some

theorem pieces_some (c : UInt8) : ∀ l : List UInt8, pieces c l ≠ []
  | [] => by simp [pieces]
  | b :: t => by
    unfold pieces
    split
    · simp
    · split <;> simp
theorem pieces_len (c : UInt8) : ∀ l : List UInt8, (pieces c l).length ≤ l.length + 1
  | [] => by simp [pieces]
  | b :: t => by
    have h := pieces_len c t
    unfold pieces
    split
    · simp only [List.length_cons]; omega
    · split
      · simp
      · rename_i hq
        rw [hq] at h
        simp only [List.length_cons] at h ⊢
        omega
/-- a text in three: the words of its first row, what stands ahead of the first blank behind it, and what behind -/
def cutsC (l : List UInt8) : Option (List (List UInt8) × List UInt8 × List UInt8) :=
  if Lib.indexByte l 10 < 0 then none
  else if Lib.indexByte (l.drop ((Lib.indexByte l 10).toNat + 1)) 32 < 0 then none
  else some (pieces 32 (l.take (Lib.indexByte l 10).toNat), (l.drop ((Lib.indexByte l 10).toNat + 1)).take (Lib.indexByte (l.drop ((Lib.indexByte l 10).toNat + 1)) 32).toNat, (l.drop ((Lib.indexByte l 10).toNat + 1)).drop ((Lib.indexByte (l.drop ((Lib.indexByte l 10).toNat + 1)) 32).toNat + 1))
/-- it has a commit's form, with these numbers and this note -/
structure FrmC (l : List UInt8) (t : Int) (ps : List Int) (at_ : Int) (note : List UInt8) : Prop where
  e : ∃ (w1 : List UInt8) (ws : List (List UInt8)) (wh : List UInt8), cutsC l = some ([99, 111, 109, 109, 105, 116] :: w1 :: ws, wh, note) ∧ numOfC w1 = some t ∧ (numsOk (ws.map bs) ∧ numsV (ws.map bs) = ps) ∧ numOfC wh = some at_
theorem FrmC.one {l : List UInt8} {t t' : Int} {ps ps' : List Int} {a a' : Int} {n n' : List UInt8} (h : FrmC l t ps a n) (h' : FrmC l t' ps' a' n') : t = t' ∧ ps = ps' ∧ a = a' ∧ n = n' := by
  obtain ⟨w1, ws, wh, e1, e2, e3, e4⟩ := h.e
  obtain ⟨w1', ws', wh', e1', e2', e3', e4'⟩ := h'.e
  rw [e1] at e1'
  injection e1' with q
  injection q with q1 q2
  injection q1 with _ q1
  injection q1 with q1 q3
  injection q2 with q2 q4
  subst q1 q2 q3 q4
  rw [e2] at e2'
  rw [e4] at e4'
  exact ⟨Option.some.inj e2', e3.2.symm.trans e3'.2, Option.some.inj e4', rfl⟩
theorem put4_blkC {W : World} {B : Nat} {a0 a1 a2 a3 : Value} {T : TypeId} {fr : Nat × Nat} (v0 v1 v2 v3 : Value) (h : W.heap[B]? = some (.cells #[a0, a1, a2, a3] T fr)) : ((((W.setCell ⟨B, 0, none⟩ v0).setCell ⟨B, 1, none⟩ v1).setCell ⟨B, 2, none⟩ v2).setCell ⟨B, 3, none⟩ v3).heap[B]? = some (.cells #[v0, v1, v2, v3] T fr) := by
  have h0 := set_block (i := 0) v0 h
  have h1 := set_block (i := 1) v1 h0
  have h2 := set_block (i := 2) v2 h1
  exact set_block (i := 3) v3 h2
theorem put4_grownC (W : World) (B : Nat) (v0 v1 v2 v3 : Value) : W.grownBy ((((W.setCell ⟨B, 0, none⟩ v0).setCell ⟨B, 1, none⟩ v1).setCell ⟨B, 2, none⟩ v2).setCell ⟨B, 3, none⟩ v3) (some B) := grown_then (grown_then (grown_then (grown_set _ ⟨B, 0, none⟩ _) (grown_set _ ⟨B, 1, none⟩ _)) (grown_set _ ⟨B, 2, none⟩ _)) (grown_set _ ⟨B, 3, none⟩ _)
theorem blkC_frozen {W : World} {b T : Nat} {a0 a1 a2 a3 : Value} (h : W.heap[b]? = some (.cells #[a0, a1, a2, a3] T (0, 0))) : W.frozen? ⟨b, 0, none⟩ = false ∧ W.frozen? ⟨b, 1, none⟩ = false ∧ W.frozen? ⟨b, 2, none⟩ = false ∧ W.frozen? ⟨b, 3, none⟩ = false := by
  simp [World.frozen?, h]
theorem numRB (s : ByteArray) (w : World) (g : GlobN w) : Calls Tryz.prog 37 #[.string s, .int .i64 13] w fun r w' => ∃ (n : Int) (b : Bool), r = .returned (.tuple #[.int .i64 n, .bool b]) ∧ ((b = true ∧ numOfC s.data.toList = some n) ∨ (b = false ∧ numOfC s.data.toList = none)) ∧ Below w.heap.size w w' := by
  refine (numR_allC s w g).mono ?_
  rintro r w' ⟨⟨h, rfl⟩ | ⟨n, h, rfl⟩, hb⟩
  · exact ⟨0, false, rfl, .inr ⟨rfl, h⟩, hb⟩
  · exact ⟨n, true, rfl, .inl ⟨rfl, h⟩, hb⟩
theorem numsB (ws : List ByteArray) (v : Value) (w : World) (g : GlobN w) (h : TxO w v ws) : Calls Tryz.prog 38 #[v] w fun r w' => ∃ (a : Option Addr) (n c : Nat) (b : Bool), r = .returned (.tuple #[.slice a n c, .bool b]) ∧ ((b = true ∧ numsOk ws ∧ w'.ownsRow w.heap.size 3 1 (.slice a n c) (numsV ws).length ((numsV ws).map (Value.int .i64))) ∨ (b = false ∧ ¬ numsOk ws)) ∧ Below w.heap.size w w' := by
  refine (cmNums_any ws v w g h).mono ?_
  rintro r w' ⟨hb, ⟨h1, v', rfl, h2⟩ | ⟨h1, rfl⟩⟩
  · obtain ⟨a, c, rfl⟩ := own_formC h2
    exact ⟨a, _, c, true, rfl, .inl ⟨rfl, h1, h2⟩, hb⟩
  · exact ⟨none, 0, 0, false, rfl, .inr ⟨rfl, h1⟩, hb⟩
/-- how split ends -/
def SplitIs (l : List UInt8) (base : Nat) (r : Ending) (w' : World) : Prop :=
  ∃ (t at_ : Int) (a : Option Addr) (n c : Nat) (note : ByteArray) (b : Bool), r = .returned (.tuple #[.agg #[.int .i64 t, .slice a n c, .int .i64 at_, .string note], .bool b]) ∧
    ((b = true ∧ ∃ ps, FrmC l t ps at_ note.data.toList ∧ w'.ownsRow base 3 1 (.slice a n c) ps.length (ps.map (Value.int .i64))) ∨ (b = false ∧ ¬ ∃ t ps at_ note, FrmC l t ps at_ note))

theorem splitEnd {l b : List UInt8} {r : List (List UInt8)} {wh nt : ByteArray} {n1 n3 : Int} {b1 b2 b3 : Bool} {pa : Option Addr} {pn pc B base : Nat} {w6 : World} (hcu : cutsC l = some ([99, 111, 109, 109, 105, 116] :: b :: r, wh.data.toList, nt.data.toList))
    (h1 : (b1 = true ∧ numOfC b = some n1) ∨ (b1 = false ∧ numOfC b = none)) (h2 : (b2 = true ∧ numsOk (r.map bs) ∧ w6.ownsRow base 3 1 (.slice pa pn pc) (numsV (r.map bs)).length ((numsV (r.map bs)).map (Value.int .i64))) ∨ (b2 = false ∧ ¬ numsOk (r.map bs)))
    (h3 : (b3 = true ∧ numOfC wh.data.toList = some n3) ∨ (b3 = false ∧ numOfC wh.data.toList = none)) (hB : B < base) :
    SplitIs l B (.returned (.tuple #[.agg #[.int .i64 n1, .slice pa pn pc, .int .i64 n3, .string nt], .bool (b1 && (b2 && b3))])) ((((w6.setCell ⟨B, 0, none⟩ (.int .i64 n1)).setCell ⟨B, 1, none⟩ (.slice pa pn pc)).setCell ⟨B, 2, none⟩ (.int .i64 n3)).setCell ⟨B, 3, none⟩ (.string nt)) := by
  refine ⟨n1, n3, pa, pn, pc, nt, _, rfl, ?_⟩
  have hno : ∀ {t ps at_ note}, FrmC l t ps at_ note → numOfC b = some t ∧ numsOk (r.map bs) ∧ numOfC wh.data.toList = some at_ := fun hf => by
    obtain ⟨w1, ws, wh', e1, e2, e3, e4⟩ := hf.e
    rw [hcu] at e1
    injection e1 with q
    injection q with q1 q2
    injection q1 with _ q1
    injection q1 with q1 q3
    injection q2 with q2 q4
    subst q1 q3
    rw [← q2] at e4
    exact ⟨e2, e3.1, e4⟩
  rcases h1 with ⟨rfl, h1⟩ | ⟨rfl, h1⟩
  · rcases h2 with ⟨rfl, h2, ho⟩ | ⟨rfl, h2⟩
    · rcases h3 with ⟨rfl, h3⟩ | ⟨rfl, h3⟩
      · exact .inl ⟨rfl, _, ⟨b, r, _, hcu, h1, ⟨h2, rfl⟩, h3⟩, own_base (ho.kept (put4_grownC w6 B _ _ _ _) (.inr (fun q => by have := (World.ownsRow.lt ho _ q).1; omega))) (Nat.le_of_lt hB)⟩
      · exact .inr ⟨rfl, fun ⟨t, ps, at_, note, hf⟩ => by have := (hno hf).2.2; rw [h3] at this; cases this⟩
    · exact .inr ⟨by cases b3 <;> rfl, fun ⟨t, ps, at_, note, hf⟩ => h2 (hno hf).2.1⟩
  · exact .inr ⟨by cases b2 <;> cases b3 <;> rfl, fun ⟨t, ps, at_, note, hf⟩ => by have := (hno hf).1; rw [h1] at this; cases this⟩

set_option maxHeartbeats 4000000 in
set_option maxRecDepth 100000 in
theorem cmSplit_any (s : ByteArray) (w : World) (g : GlobN w) (hs : s.size ≤ 1000) :
    Calls Tryz.prog 17 #[.string s] w fun r w' => Below w.heap.size w w' ∧ SplitIs s.data.toList w.heap.size r w' := by
  have HG : Hid (GlobN w) := g
  clear g
  have KR : Hid ((w.alloc (.cells #[.int .i64 0, .slice none 0 0, .int .i64 0, .string ⟨#[]⟩] 26)).heap[w.heap.size]? = some (.cells #[.int .i64 0, .slice none 0 0, .int .i64 0, .string ⟨#[]⟩] 26 (0, 0))) := block_at _ rfl
  have HA : Hid (Below w.heap.size w (w.alloc (.cells #[.int .i64 0, .slice none 0 0, .int .i64 0, .string ⟨#[]⟩] 26))) := below_alloc _ _
  have HLT : Hid (w.heap.size < (w.alloc (.cells #[.int .i64 0, .slice none 0 0, .int .i64 0, .string ⟨#[]⟩] 26)).heap.size) := by show _ < _; rw [World.size_alloc]; omega
  -- the head, the rest
  obtain ⟨hd, rs, en, hcut⟩ : ∃ (hd rs : ByteArray) (en : Bool), (∀ W, Calls Tryz.prog 35 #[.string s, .string ⟨#[10]⟩] W fun r w' => r = .returned (.tuple #[.string hd, .string rs, .bool en]) ∧ Below W.heap.size W w') ∧ hd.size ≤ 1000 ∧ rs.size ≤ 1000 ∧ ((en = false ∧ Lib.indexByte s.data.toList 10 < 0) ∨ (en = true ∧ ∃ i : Nat, Lib.indexByte s.data.toList 10 = i ∧ hd = bs (s.data.toList.take i) ∧ rs = bs (s.data.toList.drop (i + 1)))) := by
    have hsz : s.data.toList.length = s.size := (Lib.size_eq s).symm
    by_cases hi : Lib.indexByte s.data.toList 10 < 0
    · exact ⟨s, ⟨#[]⟩, false, fun W => pcut_no s 10 W hi, hs, by decide, .inl ⟨rfl, hi⟩⟩
    · obtain ⟨i, hi'⟩ : ∃ i : Nat, Lib.indexByte s.data.toList 10 = i := ⟨(Lib.indexByte s.data.toList 10).toNat, by omega⟩
      refine ⟨_, _, true, fun W => pcut_yes s 10 i W hi' (by omega), ?_, ?_, .inr ⟨rfl, i, hi', rfl, rfl⟩⟩
      · rw [Lib.size_eq, bs_data, List.length_take]; omega
      · rw [Lib.size_eq, bs_data, List.length_drop]; omega
  obtain ⟨hcut1, hd1, rs1, hen⟩ := hcut
  obtain ⟨wh, nt, pt, hcut2⟩ : ∃ (wh nt : ByteArray) (pt : Bool), (∀ W, Calls Tryz.prog 35 #[.string rs, .string ⟨#[32]⟩] W fun r w' => r = .returned (.tuple #[.string wh, .string nt, .bool pt]) ∧ Below W.heap.size W w') ∧ ((pt = false ∧ Lib.indexByte rs.data.toList 32 < 0) ∨ (pt = true ∧ ∃ i : Nat, Lib.indexByte rs.data.toList 32 = i ∧ wh = bs (rs.data.toList.take i) ∧ nt = bs (rs.data.toList.drop (i + 1)))) := by
    by_cases hi : Lib.indexByte rs.data.toList 32 < 0
    · exact ⟨rs, ⟨#[]⟩, false, fun W => pcut_no rs 32 W hi, .inl ⟨rfl, hi⟩⟩
    · obtain ⟨i, hi'⟩ : ∃ i : Nat, Lib.indexByte rs.data.toList 32 = i := ⟨(Lib.indexByte rs.data.toList 32).toNat, by omega⟩
      exact ⟨_, _, true, fun W => pcut_yes rs 32 i W hi' (by omega), .inr ⟨rfl, i, hi', rfl, rfl⟩⟩
  obtain ⟨hcut2, hpt⟩ := hcut2
  have SP : Hid (∀ W, Calls Tryz.prog 36 #[.string hd, .string ⟨#[32]⟩] W fun r w' => r = .returned (.slice (some ⟨W.heap.size, 0, none⟩) (pieces 32 hd.data.toList).length (pieces 32 hd.data.toList).length) ∧ w' = W.alloc (pcO (pieces 32 hd.data.toList))) := fun W => split_any hd 32 W (by omega)
  have HCUTS : Hid (cutsC s.data.toList = if en = true ∧ pt = true then some (pieces 32 hd.data.toList, wh.data.toList, nt.data.toList) else none) := by
    show _ = _
    unfold cutsC
    rcases hen with ⟨rfl, hi⟩ | ⟨rfl, i, hi, rfl, rfl⟩
    · rw [if_pos hi, if_neg (by simp)]
    · rw [if_neg (by omega), hi, Int.toNat_natCast]
      rw [bs_data] at hpt
      rcases hpt with ⟨rfl, hj⟩ | ⟨rfl, j, hj, rfl, rfl⟩
      · rw [if_pos hj, if_neg (by simp)]
      · rw [if_neg (by omega), hj, Int.toNat_natCast, if_pos ⟨rfl, rfl⟩, bs_data, bs_data, bs_data]
  have HPL : Hid ((pieces 32 hd.data.toList).length ≤ 1001) := by
    show _ ≤ _
    have := pieces_len 32 hd.data.toList
    rw [← Lib.size_eq] at this
    omega
  have HPP : Hid ((pieces 32 hd.data.toList) ≠ []) := pieces_some 32 _
  have C1 : Hid (∀ W, _) := hcut1
  have C2 : Hid (∀ W, _) := hcut2
  clear hcut1 hcut2 hen hpt hd1 rs1 hs
  generalize pieces 32 hd.data.toList = ws at SP HCUTS HPL HPP
  generalize hwA : w.alloc (.cells #[.int .i64 0, .slice none 0 0, .int .i64 0, .string ⟨#[]⟩] 26) = w0 at KR HA HLT
  go_enter Tryz.func17, Tryz.ntmps17
  go_upto_region 4 with (first
    | (go_at_call_of 35 (Value.string ⟨#[10]⟩); refine Calls.mono (C1.out w0) ?_; rintro r w1 ⟨rfl, hb1⟩; have B1 : Hid (Below w0.heap.size w0 w1) := hb1; clear hb1)
    | (go_at_call_of 35 (Value.string ⟨#[32]⟩); refine Calls.mono (C2.out w1) ?_; rintro r w2 ⟨rfl, hb2⟩; have B2 : Hid (Below w0.heap.size w0 w2) := below_then B1.out hb2; clear hb2)
    | (go_at_call 36; refine Calls.mono (SP.out w2) ?_; rintro r w3 ⟨rfl, hq⟩; have hq := hq.symm; subst hq))
  have B3 : Hid (Below w0.heap.size w0 (w2.alloc (pcO ws))) := below_then B2.out (below_alloc _ _)
  have WD : Hid (Wds (w2.alloc (pcO ws)) (.slice (some ⟨w2.heap.size, 0, none⟩) ws.length ws.length) ws) := Wds.new w2 ws
  generalize w2.alloc (pcO ws) = w3 at B3 WD ⊢
  generalize w2.heap.size = q2 at WD ⊢
  clear B1 B2 C1 C2 SP
  have KR3 : Hid (w3.heap[w.heap.size]? = some (.cells #[.int .i64 0, .slice none 0 0, .int .i64 0, .string ⟨#[]⟩] 26 (0, 0))) := (B3.out.block _ HLT.out).trans KR.out
  have BF : Hid (Below w.heap.size w w3) := below_then HA.out B3.out
  have FIN : Hid (cutsC s.data.toList = none ∨ (∃ a, ws = [a]) ∨ (∃ a b r, ws = a :: b :: r ∧ a ≠ [99, 111, 109, 109, 105, 116]) → ¬ ∃ t ps at_ note, FrmC s.data.toList t ps at_ note) := by
    rintro hq ⟨t, ps, at_, note, hf⟩
    obtain ⟨w1', ws', wh', e1, _⟩ := hf.e
    rcases hq with q | ⟨a, q⟩ | ⟨a, b, r, q, hne⟩
    · rw [q] at e1; cases e1
    · rw [HCUTS.out] at e1
      split at e1
      · injection e1 with e1; injection e1 with e1 _; rw [q] at e1; cases e1
      · cases e1
    · rw [HCUTS.out] at e1
      split at e1
      · injection e1 with e1; injection e1 with e1 _; rw [q] at e1; injection e1 with e1 _; exact hne e1
      · cases e1
  obtain ⟨f0, f1, f2, f3⟩ := blkC_frozen KR3.out
  have ENDF : Hid ((¬ ∃ t ps at_ note, FrmC s.data.toList t ps at_ note) → SplitIs s.data.toList w.heap.size (.returned (.tuple #[.agg #[.int .i64 0, .slice none 0 0, .int .i64 0, .string ⟨#[]⟩], .bool false])) ((((w3.setCell ⟨w.heap.size, 0, none⟩ (.int .i64 0)).setCell ⟨w.heap.size, 1, none⟩ (.slice none 0 0)).setCell ⟨w.heap.size, 2, none⟩ (.int .i64 0)).setCell ⟨w.heap.size, 3, none⟩ (.string ⟨#[]⟩))) := fun q => ⟨0, 0, none, 0, 0, ⟨#[]⟩, false, rfl, .inr ⟨rfl, q⟩⟩
  have n4 := put4_blkC (.int .i64 0) (.slice none 0 0) (.int .i64 0) (.string ⟨#[]⟩) KR3.out
  have g4 := put4_grownC w3 w.heap.size (.int .i64 0) (.slice none 0 0) (.int .i64 0) (.string ⟨#[]⟩)
  have HC4 : Hid (_) := blkC n4
  obtain ⟨z0, z1, z2, z3⟩ := blkC KR3.out
  have BZ : Hid (Below w.heap.size w ((((w3.setCell ⟨w.heap.size, 0, none⟩ (.int .i64 0)).setCell ⟨w.heap.size, 1, none⟩ (.slice none 0 0)).setCell ⟨w.heap.size, 2, none⟩ (.int .i64 0)).setCell ⟨w.heap.size, 3, none⟩ (.string ⟨#[]⟩))) := BF.out.grown g4 BF.out.size (fun k q => by cases q; exact Nat.le_refl _)
  clear n4 g4
  by_cases hep : en = true ∧ pt = true
  · obtain ⟨rfl, rfl⟩ := hep
    have HCU : Hid (cutsC s.data.toList = some (ws, wh.data.toList, nt.data.toList)) := by show _ = _; rw [HCUTS.out, if_pos ⟨rfl, rfl⟩]
    clear HCUTS
    obtain ⟨ws', e', hq'⟩ : ∃ ws', ws = ws' ∧ ws' ≠ [] := ⟨ws, rfl, HPP.out⟩
    match ws', e', hq' with
    | [], _, h => exact absurd rfl h
    | [a], e', _ =>
      have HNF : Hid (SplitIs _ _ _ _) := ENDF.out (FIN.out (.inr (.inl ⟨a, e'⟩)))
      have hl1 : ws.length = 1 := by rw [e']; rfl
      rw [hl1]
      clear FIN ENDF HPL HPP WD HCU e' hl1
      go_wp2
      obtain ⟨c0, c1, c2, c3⟩ := HC4.out
      refine bodyPost_ret (v := .tuple #[.agg #[.int .i64 0, .slice none 0 0, .int .i64 0, .string ⟨#[]⟩], .bool false]) (by simp [results, Tryz.f17, go_sem, c0, c1, c2, c3]) rfl ⟨BZ.out, HNF.out⟩
    | a :: b :: r, e', _ =>
      have hcell : ∀ (j : Nat) (h : j < ws.length), w3.cell? ⟨q2, j, none⟩ = some (sv ws[j]) ∧ q2 < w3.heap.size := fun j h => by
        obtain ⟨a9, c9, e9, _, h9⟩ := WD.out
        injection e9 with e91 e92 e93
        obtain ⟨b', eb, hl, hc⟩ := h9 j h
        rw [eb] at e91
        injection e91 with e91
        injection e91 with e91 _ _
        rw [e91]
        exact ⟨hc, hl⟩
      have ca : w3.cell? ⟨q2, 0, none⟩ = some (.string (bs a)) := by subst e'; exact (hcell 0 (by simp)).1
      have cb : w3.cell? ⟨q2, 1, none⟩ = some (.string (bs b)) := by subst e'; exact (hcell 1 (by simp)).1
      have HTX0 : Hid (TxO w3 (.slice (some ⟨q2, 0, none⟩) 0 0) []) := ⟨_, _, rfl, by simp, by simp, fun j hj => absurd hj (by simp)⟩
      have HTX : Hid (TxO w3 (.slice (some ⟨q2, 2, none⟩) r.length r.length) (r.map bs)) := by
        subst e'
        have h1000 := HPL.out
        refine ⟨_, _, by rw [List.length_map], by rw [List.length_map]; simp at h1000; omega, by rw [List.length_map]; exact Nat.le_refl _, fun j hj => ⟨q2, 2, rfl, (hcell 0 (by simp)).2, ?_⟩⟩
        rw [List.length_map] at hj
        have := (hcell (j + 2) (by simp; omega)).1
        rw [Nat.add_comm 2 j, this]
        simp [sv]
      have hlr : ws.length = r.length + 2 := by rw [e']; rfl
      have hl1 : r.length ≤ 999 := by have := HPL.out; omega
      have h2L : ¬ ((r.length : Int) + 2 < 2) := by omega
      rw [hlr]
      by_cases ha : a = [99, 111, 109, 109, 105, 116]
      · subst ha
        have e1 : ((bs [99, 111, 109, 109, 105, 116]).toList == [99, 111, 109, 109, 105, 116]) = true := by rw [ByteArray.toList_eq]; rfl
        have HCU2 : Hid (cutsC s.data.toList = some ([99, 111, 109, 109, 105, 116] :: b :: r, wh.data.toList, nt.data.toList)) := by show _ = _; rw [HCU.out, e']
        generalize bs [99, 111, 109, 109, 105, 116] = A at ca e1
        have N1 : Hid (∀ W, Below w3.heap.size w3 W → _) := fun W hW => numRB (bs b) W (HG.out.step (below_then BF.out hW))
        have NN : Hid (∀ W, Below w3.heap.size w3 W → GlobN W) := fun W hW => HG.out.step (below_then BF.out hW)
        have N3 : Hid (∀ W, Below w3.heap.size w3 W → _) := fun W hW => numRB wh W (HG.out.step (below_then BF.out hW))
        have HBB : Hid ((bs b).data.toList = b) := bs_data b
        generalize bs b = Bb at cb N1 HBB
        clear FIN ENDF HPL HPP WD HCU e' hlr hcell HC4 BZ
        go_upto_region 7 with (go_at_call 37; refine Calls.mono (N1.out w3 (Below.refl _ _)) ?_; rintro r w4 ⟨n1, b1, rfl, hn1, hb4⟩)
        have B4 : Hid (Below w3.heap.size w3 w4) := hb4
        have HN1 : Hid ((b1 = true ∧ numOfC b = some n1) ∨ (b1 = false ∧ numOfC b = none)) := by rw [HBB.out] at hn1; exact hn1
        clear hb4 hn1 N1 HBB ca cb
        cases r with
        | nil =>
          have N2 : Hid (∀ W, Below w3.heap.size w3 W → _) := fun W hW => numsB [] _ W (NN.out W hW) (HTX0.out.step hW)
          clear NN HTX HTX0
          go_wp2_with fail
          refine Calls.mono (N2.out w4 B4.out) ?_
          rintro rr w5 ⟨pa, pn, pc, b2, rfl, hn2, hb5⟩
          have B5 : Hid (Below w3.heap.size w3 w5) := below_then B4.out hb5
          have HN2 : Hid (_) := hn2
          have HZ4 : Hid (w3.heap.size ≤ w4.heap.size) := B4.out.size
          clear hn2 hb5 N2
          go_upto_region 9 with (go_at_call 37; refine Calls.mono (N3.out w5 B5.out) ?_; rintro rr w6 ⟨n3, b3, rfl, hn3, hb6⟩)
          have HEND : Hid (SplitIs s.data.toList w.heap.size (.returned (.tuple #[.agg #[.int .i64 n1, .slice pa pn pc, .int .i64 n3, .string nt], .bool (b1 && (b2 && b3))])) ((((w6.setCell ⟨w.heap.size, 0, none⟩ (.int .i64 n1)).setCell ⟨w.heap.size, 1, none⟩ (.slice pa pn pc)).setCell ⟨w.heap.size, 2, none⟩ (.int .i64 n3)).setCell ⟨w.heap.size, 3, none⟩ (.string nt))) := splitEnd HCU2.out HN1.out (HN2.out.imp (fun q => ⟨q.1, q.2.1, own_step q.2.2 hb6⟩) id) hn3 (by have := HLT.out; have := B3.out.size; have := HZ4.out; omega)
          have B6 : Hid (Below w.heap.size w w6) := below_then BF.out (below_then B5.out hb6)
          have KR6 := ((below_then B5.out hb6).block _ (Array.getElem?_eq_some_iff.1 KR3.out).1).trans KR3.out
          have g4 := put4_grownC w6 w.heap.size (.int .i64 n1) (.slice pa pn pc) (.int .i64 n3) (.string nt)
          have HC6 : Hid (_) := blkC (put4_blkC (.int .i64 n1) (.slice pa pn pc) (.int .i64 n3) (.string nt) KR6)
          have BZ6 : Hid (Below w.heap.size w _) := B6.out.grown g4 B6.out.size (fun k q => by cases q; exact Nat.le_refl _)
          clear z0 z1 z2 z3 f0 f1 f2 f3 g4 hn3 hb6 N3 HN1 HN2 HCU2 B4 B5 HZ4
          obtain ⟨z0, z1, z2, z3⟩ := blkC KR6
          obtain ⟨f0, f1, f2, f3⟩ := blkC_frozen KR6
          clear KR6 KR3 KR HA HLT B3 BF HG
          cases b1
          all_goals cases b2
          all_goals cases b3
          all_goals
            go_wp2
            obtain ⟨c0, c1, c2, c3⟩ := HC6.out
            refine bodyPost_ret (v := .tuple #[.agg #[.int .i64 n1, .slice pa pn pc, .int .i64 n3, .string nt], .bool (_ && (_ && _))]) (by simp [results, Tryz.f17, go_sem, c0, c1, c2, c3]) rfl ⟨BZ6.out, HEND.out⟩
        | cons r1 rr0 =>
          have hr0 : ¬ ((r1 :: rr0).length = 0) := by simp
          generalize hrr : r1 :: rr0 = r at *
          clear hrr
          have N2 : Hid (∀ W, Below w3.heap.size w3 W → _) := fun W hW => numsB (r.map bs) _ W (NN.out W hW) (HTX.out.step hW)
          clear NN HTX HTX0
          go_wp2_with fail
          refine Calls.mono (N2.out w4 B4.out) ?_
          rintro rr w5 ⟨pa, pn, pc, b2, rfl, hn2, hb5⟩
          have B5 : Hid (Below w3.heap.size w3 w5) := below_then B4.out hb5
          have HN2 : Hid (_) := hn2
          have HZ4 : Hid (w3.heap.size ≤ w4.heap.size) := B4.out.size
          clear hn2 hb5 N2
          go_upto_region 9 with (go_at_call 37; refine Calls.mono (N3.out w5 B5.out) ?_; rintro rr w6 ⟨n3, b3, rfl, hn3, hb6⟩)
          have HEND : Hid (SplitIs s.data.toList w.heap.size (.returned (.tuple #[.agg #[.int .i64 n1, .slice pa pn pc, .int .i64 n3, .string nt], .bool (b1 && (b2 && b3))])) ((((w6.setCell ⟨w.heap.size, 0, none⟩ (.int .i64 n1)).setCell ⟨w.heap.size, 1, none⟩ (.slice pa pn pc)).setCell ⟨w.heap.size, 2, none⟩ (.int .i64 n3)).setCell ⟨w.heap.size, 3, none⟩ (.string nt))) := splitEnd HCU2.out HN1.out (HN2.out.imp (fun q => ⟨q.1, q.2.1, own_step q.2.2 hb6⟩) id) hn3 (by have := HLT.out; have := B3.out.size; have := HZ4.out; omega)
          have B6 : Hid (Below w.heap.size w w6) := below_then BF.out (below_then B5.out hb6)
          have KR6 := ((below_then B5.out hb6).block _ (Array.getElem?_eq_some_iff.1 KR3.out).1).trans KR3.out
          have g4 := put4_grownC w6 w.heap.size (.int .i64 n1) (.slice pa pn pc) (.int .i64 n3) (.string nt)
          have HC6 : Hid (_) := blkC (put4_blkC (.int .i64 n1) (.slice pa pn pc) (.int .i64 n3) (.string nt) KR6)
          have BZ6 : Hid (Below w.heap.size w _) := B6.out.grown g4 B6.out.size (fun k q => by cases q; exact Nat.le_refl _)
          clear z0 z1 z2 z3 f0 f1 f2 f3 g4 hn3 hb6 N3 HN1 HN2 HCU2 B4 B5 HZ4
          obtain ⟨z0, z1, z2, z3⟩ := blkC KR6
          obtain ⟨f0, f1, f2, f3⟩ := blkC_frozen KR6
          clear KR6 KR3 KR HA HLT B3 BF HG
          cases b1
          all_goals cases b2
          all_goals cases b3
          all_goals
            go_wp2
            obtain ⟨c0, c1, c2, c3⟩ := HC6.out
            refine bodyPost_ret (v := .tuple #[.agg #[.int .i64 n1, .slice pa pn pc, .int .i64 n3, .string nt], .bool (_ && (_ && _))]) (by simp [results, Tryz.f17, go_sem, c0, c1, c2, c3]) rfl ⟨BZ6.out, HEND.out⟩
      · have HNF : Hid (SplitIs _ _ _ _) := ENDF.out (FIN.out (.inr (.inr ⟨a, b, r, e', ha⟩)))
        have e1 : ((bs a).toList == [99, 111, 109, 109, 105, 116]) = false := by
          rw [beq_eq_false_iff_ne, ByteArray.toList_eq, bs_data]
          exact ha
        generalize bs a = A at ca e1
        clear FIN ENDF HPL HPP WD HCU e' hlr hcell ha cb HTX HTX0
        go_wp2
        obtain ⟨c0, c1, c2, c3⟩ := HC4.out
        refine bodyPost_ret (v := .tuple #[.agg #[.int .i64 0, .slice none 0 0, .int .i64 0, .string ⟨#[]⟩], .bool false]) (by simp [results, Tryz.f17, go_sem, c0, c1, c2, c3]) rfl ⟨BZ.out, HNF.out⟩
  · have HNF : Hid (SplitIs _ _ _ _) := ENDF.out (FIN.out (.inl (by rw [HCUTS.out, if_neg hep])))
    clear FIN ENDF HCUTS HPL HPP WD
    cases en with
    | false =>
      go_wp2
      obtain ⟨c0, c1, c2, c3⟩ := HC4.out
      refine bodyPost_ret (v := .tuple #[.agg #[.int .i64 0, .slice none 0 0, .int .i64 0, .string ⟨#[]⟩], .bool false]) (by simp [results, Tryz.f17, go_sem, c0, c1, c2, c3]) rfl ⟨BZ.out, HNF.out⟩
    | true =>
      cases pt with
      | true => exact absurd ⟨rfl, rfl⟩ hep
      | false =>
        go_wp2
        obtain ⟨c0, c1, c2, c3⟩ := HC4.out
        refine bodyPost_ret (v := .tuple #[.agg #[.int .i64 0, .slice none 0 0, .int .i64 0, .string ⟨#[]⟩], .bool false]) (by simp [results, Tryz.f17, go_sem, c0, c1, c2, c3]) rfl ⟨BZ.out, HNF.out⟩
end Go.Proofs.YtkjfbeempmfipaaGreatDoor
