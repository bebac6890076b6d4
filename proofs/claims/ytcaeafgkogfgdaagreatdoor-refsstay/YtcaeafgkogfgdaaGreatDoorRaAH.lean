/- Which error a rule has: the numbers of errors, and package rule's Check. -/
import Derived.Test.YtcaeafgkogfgdaaGreatDoorRaAG
import Derived.Test.YtcaeafgkogfgdaaGreatDoorRaAF
import Derived.RangeFuncBox
import Derived.Deep.DeepCutAuto
import Derived.Deep.RegionWith
import Derived.Test.YtcaeafgkogfgdaaGreatDoorRaAD
import Derived.Maps.AppendAt
import Derived.Laws.AppendOwnNone
import Derived.Lib.SliceRun
namespace Go.Proofs.YtcaeafgkogfgdaaGreatDoor
open Go.RowKit Cal

/-- the number of a rule's error -/
def ErrK (f : ByteArray) (e : Int) (ds : List Int) (c u k : Int) : Prop :=
  (isF f = false ∧ k = 4) ∨ (isF f = true ∧ ¬ (bN e c u = true ∧ bD ds) ∧ k = 2) ∨ (isF f = true ∧ (bN e c u = true ∧ bD ds) ∧ ¬ shp (f.toList == [111, 110, 99, 101]) (f.toList == [119, 101, 101, 107, 108, 121]) e c u ds.length ∧ k = 3) ∨
    (isF f = true ∧ (bN e c u = true ∧ bD ds) ∧ shp (f.toList == [111, 110, 99, 101]) (f.toList == [119, 101, 101, 107, 108, 121]) e c u ds.length ∧ ¬ Rise ds ∧ k = 8) ∨ (Well (rd f e ds c u) ∧ k = 0)
theorem errK_ex (f : ByteArray) (e : Int) (ds : List Int) (c u : Int) : ∃ k, ErrK f e ds c u k := by
  cases h1 : isF f with
  | false => exact ⟨4, .inl ⟨h1, rfl⟩⟩
  | true =>
    by_cases h2 : bN e c u = true ∧ bD ds
    · by_cases h3 : shp (f.toList == [111, 110, 99, 101]) (f.toList == [119, 101, 101, 107, 108, 121]) e c u ds.length
      · by_cases h4 : Rise ds
        · exact ⟨0, .inr (.inr (.inr (.inr ⟨well_of h1 h2.1 h2.2 h3 h4, rfl⟩)))⟩
        · exact ⟨8, .inr (.inr (.inr (.inl ⟨h1, h2, h3, h4, rfl⟩)))⟩
      · exact ⟨3, .inr (.inr (.inl ⟨h1, h2, h3, rfl⟩))⟩
    · exact ⟨2, .inr (.inl ⟨h1, h2, rfl⟩)⟩
theorem errK_1 {f : ByteArray} {e : Int} {ds : List Int} {c u k : Int} (h : ErrK f e ds c u k) (h1 : isF f = false) : k = 4 := by
  rcases h with h | h | h | h | h
  · exact h.2
  · rw [h1] at h; exact absurd h.1 (by decide)
  · rw [h1] at h; exact absurd h.1 (by decide)
  · rw [h1] at h; exact absurd h.1 (by decide)
  · have := (of_well h.1).1; rw [h1] at this; exact absurd this (by decide)
theorem errK_2 {f : ByteArray} {e : Int} {ds : List Int} {c u k : Int} (h : ErrK f e ds c u k) (h1 : isF f = true) (h2 : ¬ (bN e c u = true ∧ bD ds)) : k = 2 := by
  rcases h with h | h | h | h | h
  · rw [h1] at h; exact absurd h.1 (by decide)
  · exact h.2.2
  · exact absurd h.2.1 h2
  · exact absurd h.2.1 h2
  · have := of_well h.1; exact absurd ⟨this.2.1, this.2.2.1⟩ h2
theorem errK_3 {f : ByteArray} {e : Int} {ds : List Int} {c u k : Int} (h : ErrK f e ds c u k) (h1 : isF f = true) (h2 : bN e c u = true ∧ bD ds) (h3 : ¬ shp (f.toList == [111, 110, 99, 101]) (f.toList == [119, 101, 101, 107, 108, 121]) e c u ds.length) : k = 3 := by
  rcases h with h | h | h | h | h
  · rw [h1] at h; exact absurd h.1 (by decide)
  · exact absurd h2 h.2.1
  · exact h.2.2.2
  · exact absurd h.2.2.1 h3
  · have := of_well h.1; exact absurd this.2.2.2.1 h3
theorem errK_4 {f : ByteArray} {e : Int} {ds : List Int} {c u k : Int} (h : ErrK f e ds c u k) (h1 : isF f = true) (h2 : bN e c u = true ∧ bD ds) (h3 : shp (f.toList == [111, 110, 99, 101]) (f.toList == [119, 101, 101, 107, 108, 121]) e c u ds.length) (h4 : ¬ Rise ds) : k = 8 := by
  rcases h with h | h | h | h | h
  · rw [h1] at h; exact absurd h.1 (by decide)
  · exact absurd h2 h.2.1
  · exact absurd h3 h.2.2.1
  · exact h.2.2.2.2
  · have := of_well h.1; exact absurd this.2.2.2.2 h4
theorem errK_0 {f : ByteArray} {e : Int} {ds : List Int} {c u k : Int} (h : ErrK f e ds c u k) : k = 0 ↔ Well (rd f e ds c u) := by
  constructor
  · intro hk
    rcases h with h | h | h | h | h
    · omega
    · omega
    · omega
    · omega
    · exact h.1
  · intro hw
    obtain ⟨w1, w2, w3, w4, w5⟩ := of_well hw
    rcases h with h | h | h | h | h
    · rw [w1] at h; exact absurd h.1 (by decide)
    · exact absurd ⟨w2, w3⟩ h.2.1
    · exact absurd w4 h.2.2.1
    · exact absurd w5 h.2.2.2.1
    · exact h.2
theorem errK_bd {f : ByteArray} {e : Int} {ds : List Int} {c u k : Int} (h : ErrK f e ds c u k) : k = 0 ∨ k = 2 ∨ k = 3 ∨ k = 4 ∨ k = 8 := by
  rcases h with h | h | h | h | h
  · exact .inr (.inr (.inr (.inl h.2)))
  · exact .inr (.inl h.2.2)
  · exact .inr (.inr (.inl h.2.2.2))
  · exact .inr (.inr (.inr (.inr h.2.2.2.2)))
  · exact .inl h.2
/-- the error of a number -/
def errV (s : Nat → Addr) (k : Int) : Value := if k = 0 then .nilIface else .iface 152 (.pointer (some (s (k - 1).toNat)))
theorem errV_of {s : Nat → Addr} {k m : Int} {n : Nat} (h : k = m) (hm : m ≠ 0 ∧ (m - 1).toNat = n) : errV s k = .iface 152 (.pointer (some (s n))) := by
  unfold errV
  rw [h, if_neg hm.1, hm.2]

theorem errV_0 (s : Nat → Addr) : errV s 0 = .nilIface := by unfold errV; rw [if_pos rfl]
end Go.Proofs.YtcaeafgkogfgdaaGreatDoor

/- Package event's fromsOf, checkLists and Check: which error an event has. -/
namespace Go.Proofs.YtcaeafgkogfgdaaGreatDoor
open Go Go.RowKit Cal
attribute [local go_sem] Oper.semAt_some

theorem ow_ints {base : Nat} {W : World} {sl : Value} {ds : List Int} (h : Ow base W sl ds) (hl : ds.length ≤ 80000) : Ints W sl ds := by
  rcases h.2 with ⟨rfl, h0⟩ | ⟨g, cap, cur, rfl, hb, hg, hcap, hmax, hsz, htake⟩
  · rw [List.length_eq_zero_iff.1 h0]; exact Ints.nil W 0
  · refine ⟨_, cap, rfl, hl, hcap, fun j hj => ⟨g, rfl, (Array.getElem?_eq_some_iff.1 hg).1, ?_⟩⟩
    have := World.ownsRow.cellAt h j (by omega)
    rw [this, List.getElem?_map, List.getElem?_eq_getElem hj]; rfl
theorem one_cell (w : World) (d : Int) : ∀ (j : Nat) (v : Value), [Value.int .i64 d][j]? = some v → (w.alloc (.cells #[.int .i64 d] 3)).cell? ((⟨w.heap.size, 0, none⟩ : Addr).add j) = some v := fun j v hv => by
  obtain ⟨hj, he⟩ := List.getElem?_eq_some_iff.1 hv
  have hj0 : j = 0 := by simpa using hj
  subst hj0
  have he' : Value.int .i64 d = v := by simpa using he
  rw [← he']
  exact (Boxed.new w 3 (.int .i64 d)).cell

/-- do numbers rise? -/
def riseB : List Int → Bool
  | [] => true
  | [_] => true
  | a :: b :: r => decide (a < b) && riseB (b :: r)
theorem riseB_iff : ∀ (l : List Int), riseB l = true ↔ Rise l
  | [] => ⟨fun _ i h => absurd h (by simp), fun _ => rfl⟩
  | [a] => ⟨fun _ i h => absurd h (by simp), fun _ => rfl⟩
  | a :: b :: r => by
    unfold riseB
    rw [Bool.and_eq_true, decide_eq_true_iff, riseB_iff (b :: r)]
    constructor
    · rintro ⟨h1, h2⟩ i hi
      cases i with
      | zero => exact h1
      | succ i => exact h2 i (by simpa using hi)
    · intro h
      exact ⟨h 0 (by simp), fun i hi => h (i + 1) (by simpa using hi)⟩
theorem rise_pair : ∀ {l : List Int}, Rise l → l.Pairwise (· < ·)
  | [], _ => List.Pairwise.nil
  | a :: r, h => by
    have hr : Rise r := fun i hi => h (i + 1) (by simpa using hi)
    have ih := rise_pair hr
    rw [List.pairwise_cons]
    refine ⟨fun x hx => ?_, ih⟩
    cases r with
    | nil => cases hx
    | cons b r' =>
      have h0 : a < b := h 0 (by simp)
      rcases List.mem_cons.1 hx with rfl | q
      · exact h0
      · have := (List.pairwise_cons.1 ih).1 x q; omega

/-- the number of the error of an event's lists -/
def lk (sk : List Int) (mv : List (Int × Int)) : Int :=
  if 20 < sk.length ∨ 20 < mv.length then 7 else if (riseB sk && riseB (mv.map Prod.fst)) = false then 8 else if sk.any noDay = true then 2 else
    if mv.any (fun m => noDay m.1 || noDay m.2) = true then 2 else if mv.any (fun m => decide (m.1 ∈ sk)) = true then 6 else 0
theorem lk_bd (sk : List Int) (mv : List (Int × Int)) : lk sk mv = 0 ∨ lk sk mv = 2 ∨ lk sk mv = 6 ∨ lk sk mv = 7 ∨ lk sk mv = 8 := by
  unfold lk
  split
  · simp
  · split
    · simp
    · split
      · simp
      · split
        · simp
        · split <;> simp

end Go.Proofs.YtcaeafgkogfgdaaGreatDoor

/- Package event's Check: which error an event has. -/
namespace Go.Proofs.YtcaeafgkogfgdaaGreatDoor
open Go Go.RowKit Cal
attribute [local go_sem] Oper.semAt_some

/-- an event's plain data -/
structure EV where
  id : ByteArray
  ti : ByteArray
  st : Int
  lg : Int
  f : ByteArray
  e : Int
  ds : List Int
  c : Int
  u : Int
  sk : List Int
  mv : List (Int × Int)
/-- an event as a value -/
def ev (E : EV) (sl sk mv : Value) : Value := .agg #[.string E.id, .string E.ti, .int .i64 E.st, .int .i64 E.lg, .string E.f, .int .i64 E.e, sl, .int .i64 E.c, .int .i64 E.u, sk, mv]
theorem blk11 {W : World} {n : Nat} {v0 v1 v2 v3 v4 v5 v6 v7 v8 v9 v10 : Value} {t : TypeId} (h : W.heap[n]? = some (.cells #[v0, v1, v2, v3, v4, v5, v6, v7, v8, v9, v10] t (0, 0))) :
    W.cell? ⟨n, 0, none⟩ = some v0 ∧ W.cell? ⟨n, 1, none⟩ = some v1 ∧ W.cell? ⟨n, 2, none⟩ = some v2 ∧ W.cell? ⟨n, 3, none⟩ = some v3 ∧ W.cell? ⟨n, 4, none⟩ = some v4 ∧ W.cell? ⟨n, 5, none⟩ = some v5 ∧
      W.cell? ⟨n, 6, none⟩ = some v6 ∧ W.cell? ⟨n, 7, none⟩ = some v7 ∧ W.cell? ⟨n, 8, none⟩ = some v8 ∧ W.cell? ⟨n, 9, none⟩ = some v9 ∧ W.cell? ⟨n, 10, none⟩ = some v10 := by
  refine ⟨?_, ?_, ?_, ?_, ?_, ?_, ?_, ?_, ?_, ?_, ?_⟩ <;> simp [World.cell?, h]

/-- the bounds of a start and of a length -/
def bE (st lg : Int) : Prop := (0 ≤ st ∧ st ≤ 73048) ∧ 1 ≤ lg ∧ lg ≤ 60
/-- the number of an event's error -/
def EvK (E : EV) (k : Int) : Prop :=
  (¬ okID E.id ∧ k = 4) ∨ (okID E.id ∧ ¬ okTi E.ti ∧ k = 1) ∨ (okID E.id ∧ okTi E.ti ∧ ¬ bE E.st E.lg ∧ k = 2) ∨
    (okID E.id ∧ okTi E.ti ∧ bE E.st E.lg ∧ ∃ kr, ErrK E.f E.e E.ds E.c E.u kr ∧ ((kr ≠ 0 ∧ k = kr) ∨ (kr = 0 ∧ k = lk E.sk E.mv)))
/-- an event that is well -/
structure EW (E : EV) : Prop where
  id : okID E.id
  ti : okTi E.ti
  bd : bE E.st E.lg
  rl : Well (rd E.f E.e E.ds E.c E.u)
  ls : lk E.sk E.mv = 0
theorem evK_ex (E : EV) : ∃ k, EvK E k := by
  by_cases h1 : okID E.id
  · by_cases h2 : okTi E.ti
    · by_cases h3 : bE E.st E.lg
      · obtain ⟨kr, hk⟩ := errK_ex E.f E.e E.ds E.c E.u
        by_cases h4 : kr = 0
        · exact ⟨_, .inr (.inr (.inr ⟨h1, h2, h3, kr, hk, .inr ⟨h4, rfl⟩⟩))⟩
        · exact ⟨_, .inr (.inr (.inr ⟨h1, h2, h3, kr, hk, .inl ⟨h4, rfl⟩⟩))⟩
      · exact ⟨_, .inr (.inr (.inl ⟨h1, h2, h3, rfl⟩))⟩
    · exact ⟨_, .inr (.inl ⟨h1, h2, rfl⟩)⟩
  · exact ⟨_, .inl ⟨h1, rfl⟩⟩
theorem evK_0 {E : EV} {k : Int} (h : EvK E k) : k = 0 ↔ EW E := by
  rcases h with ⟨h1, rfl⟩ | ⟨h1, h2, rfl⟩ | ⟨h1, h2, h3, rfl⟩ | ⟨h1, h2, h3, kr, hk, (⟨h4, rfl⟩ | ⟨rfl, rfl⟩)⟩
  · exact ⟨fun q => absurd q (by decide), fun q => absurd q.id h1⟩
  · exact ⟨fun q => absurd q (by decide), fun q => absurd q.ti h2⟩
  · exact ⟨fun q => absurd q (by decide), fun q => absurd q.bd h3⟩
  · exact ⟨fun q => absurd q h4, fun q => absurd ((errK_0 hk).2 q.rl) h4⟩
  · exact ⟨fun q => ⟨h1, h2, h3, (errK_0 hk).1 rfl, q⟩, fun q => q.ls⟩
theorem evK_bd {E : EV} {k : Int} (h : EvK E k) : k = 0 ∨ (1 ≤ k ∧ k ≤ 8) := by
  rcases h with ⟨h1, rfl⟩ | ⟨h1, h2, rfl⟩ | ⟨h1, h2, h3, rfl⟩ | ⟨h1, h2, h3, kr, hk, (⟨h4, rfl⟩ | ⟨rfl, rfl⟩)⟩
  · omega
  · omega
  · omega
  · have := errK_bd hk; omega
  · have := lk_bd E.sk E.mv; omega
theorem errV_ne {s : Nat → Addr} {k : Int} (h : k ≠ 0) : ∃ p, errV s k = .iface 152 (.pointer (some p)) := by
  unfold errV; rw [if_neg h]; exact ⟨_, rfl⟩

theorem lk_of {sk : List Int} {mv : List (Int × Int)} (h : lk sk mv = 0) : sk.length ≤ 20 ∧ mv.length ≤ 20 ∧ Rise sk ∧ (mv.map Prod.fst).Pairwise (· < ·) ∧ (∀ x ∈ sk, 0 ≤ x ∧ x ≤ 73048) ∧ (∀ m ∈ mv, (0 ≤ m.1 ∧ m.1 ≤ 73048) ∧ 0 ≤ m.2 ∧ m.2 ≤ 73048) ∧ ∀ m ∈ mv, m.1 ∉ sk := by
  unfold lk at h
  split at h
  · omega
  · split at h
    · omega
    · split at h
      · omega
      · split at h
        · omega
        · split at h
          · omega
          · rename_i q1 q2 q3 q4 q5
            rw [Bool.not_eq_false, Bool.and_eq_true, riseB_iff, riseB_iff] at q2
            refine ⟨by omega, by omega, q2.1, rise_pair q2.2, fun x hx => ?_, fun m hm => ?_, fun m hm q => q5 ?_⟩
            · have : ¬ noDay x = true := fun q => q3 (List.any_eq_true.2 ⟨x, hx, q⟩)
              unfold noDay at this
              simpa using this
            · have : ¬ (noDay m.1 || noDay m.2) = true := fun q => q4 (List.any_eq_true.2 ⟨m, hm, q⟩)
              unfold noDay at this
              simp at this
              omega
            · exact List.any_eq_true.2 ⟨m, hm, by simpa using q⟩
end Go.Proofs.YtcaeafgkogfgdaaGreatDoor

/- Package event's Fields, Get, listText and Text: an event's parts, one behind the other. -/
namespace Go.Proofs.YtcaeafgkogfgdaaGreatDoor
open Go Go.RowKit Cal
attribute [local go_sem] Oper.semAt_some

/-- the fields' names -/
def fldB : Nat → ByteArray
  | 0 => ⟨#[116, 105, 116, 108, 101]⟩
  | 1 => ⟨#[115, 116, 97, 114, 116]⟩
  | 2 => ⟨#[108, 111, 110, 103]⟩
  | 3 => ⟨#[114, 117, 108, 101]⟩
  | 4 => ⟨#[115, 107, 105, 112, 115]⟩
  | _ => ⟨#[109, 111, 118, 101, 115]⟩
/-- the row of the fields' names -/
def fldO : Obj := .cells #[.string ⟨#[116, 105, 116, 108, 101]⟩, .string ⟨#[115, 116, 97, 114, 116]⟩, .string ⟨#[108, 111, 110, 103]⟩, .string ⟨#[114, 117, 108, 101]⟩, .string ⟨#[115, 107, 105, 112, 115]⟩, .string ⟨#[109, 111, 118, 101, 115]⟩] 9
theorem fld_cell (w : World) (i : Nat) (h : i < 6) : (w.alloc fldO).cell? ⟨w.heap.size, i, none⟩ = some (.string (fldB i)) := by
  unfold fldO
  rw [World.cell?_alloc_new]
  match i, h with
  | 0, _ => rfl
  | 1, _ => rfl
  | 2, _ => rfl
  | 3, _ => rfl
  | 4, _ => rfl
  | 5, _ => rfl
end Go.Proofs.YtcaeafgkogfgdaaGreatDoor

/- The laws' own evented, LongEvent and OwnEvent. -/
namespace Go.Proofs.YtcaeafgkogfgdaaGreatDoor
open Go Go.RowKit Cal
attribute [local go_sem] Oper.semAt_some

/-- the closed event -/
def E0 : EV := ⟨⟨#[97]⟩, ⟨#[65, 32, 98]⟩, 5, 1, ⟨#[111, 110, 99, 101]⟩, 1, [], 0, -1, [], []⟩
theorem E0_rule : Well (rd ⟨#[111, 110, 99, 101]⟩ 1 [] 0 (-1)) := by
  refine ⟨?_, ?_, by decide, by decide, by decide, fun _ => ⟨rfl, rfl, rfl⟩, fun _ => rfl, Or.inl rfl, ?_⟩
  · left; exact ByteArray.toList_eq _
  · intro d hd; cases hd
  · intro i h; exact absurd h (by simp [rd])
theorem E0_well : EW E0 := by
  refine ⟨⟨fun j h => ?_, by decide, by decide⟩, ⟨fun j h => ?_, by decide⟩, ⟨by decide, by decide⟩, E0_rule, by decide⟩
  · have h' : j < 1 := h
    match j, h' with
    | 0, _ => show okc 97; left; decide
  · have h' : j < 3 := h
    match j, h' with
    | 0, _ => show okt 65; exact ⟨by decide, by decide, by decide⟩
    | 1, _ => show okt 32; exact ⟨by decide, by decide, by decide⟩
    | 2, _ => show okt 98; exact ⟨by decide, by decide, by decide⟩
/-- the texts of its fields -/
def P0 : List (List UInt8) := [[65, 32, 98], [50, 48, 48, 48, 45, 48, 49, 45, 48, 54], [49], [111, 110, 99, 101], [], []]

/-- too long for a law? -/
def lngE (E : EV) : Int := if (20 < E.f.size ∨ 20 < E.ds.length) ∨ 30 < E.id.size ∨ 60 < E.ti.size ∨ 25 < E.sk.length ∨ 25 < E.mv.length then 1 else 0
theorem lngE_01 (E : EV) : 0 ≤ lngE E ∧ lngE E ≤ 1 := by unfold lngE; split <;> omega
theorem lngE_0 {E : EV} (h : lngE E = 0) : E.f.size ≤ 20 ∧ E.ds.length ≤ 20 ∧ E.id.size ≤ 30 ∧ E.ti.size ≤ 60 ∧ E.sk.length ≤ 25 ∧ E.mv.length ≤ 25 := by
  unfold lngE at h
  split at h
  · omega
  · omega

/-- moves as they were handed over -/
def GotM (w : World) (sl : Value) (ms : List (Int × Int)) : Prop :=
  ∃ (a : Option Addr) (cap : Nat), sl = .slice a ms.length cap ∧ (a = none → ms.length = 0 ∧ cap = 0) ∧ ∀ ad, a = some ad → ∀ (j : Nat) (h : j < ms.length), ad.block < w.heap.size ∧ w.cell? (ad.add (j * 2)) = some (.int .i64 ms[j].1) ∧ w.cell? (ad.add (j * 2 + 1)) = some (.int .i64 ms[j].2)
theorem GotM.step {w w' : World} {sl : Value} {ms : List (Int × Int)} (h : GotM w sl ms) (hb : Below w.heap.size w w') : GotM w' sl ms := by
  obtain ⟨a, cap, h1, h2, h3⟩ := h
  refine ⟨a, cap, h1, h2, fun ad e j hj => ?_⟩
  obtain ⟨h4, h5, h6⟩ := h3 ad e j hj
  exact ⟨Nat.lt_of_lt_of_le h4 hb.size, (World.cell?_of_block (a := ad.add (j * 2)) (hb.block _ (by rw [addr_add_block]; exact h4))).trans h5, (World.cell?_of_block (a := ad.add (j * 2 + 1)) (hb.block _ (by rw [addr_add_block]; exact h4))).trans h6⟩
/-- the cells of moves -/
def mcells : List (Int × Int) → List Value
  | [] => []
  | m :: r => .int .i64 m.1 :: .int .i64 m.2 :: mcells r
theorem mcells_len : ∀ ms : List (Int × Int), (mcells ms).length = ms.length * 2
  | [] => rfl
  | m :: r => by simp [mcells, mcells_len r]; omega
theorem mcells_at : ∀ (ms : List (Int × Int)) (j : Nat) (h : j < ms.length), (mcells ms)[j * 2]? = some (.int .i64 ms[j].1) ∧ (mcells ms)[j * 2 + 1]? = some (.int .i64 ms[j].2)
  | m :: r, 0, _ => ⟨rfl, rfl⟩
  | m :: r, j + 1, h => by
    have := mcells_at r j (by simpa using h)
    rw [show (j + 1) * 2 = j * 2 + 1 + 1 by omega]
    exact this
theorem mcells_one (ms : List (Int × Int)) : ∀ u ∈ mcells ms, u.oneCell' = true := by
  induction ms with
  | nil => intro u hu; cases hu
  | cons m r ih =>
    intro u hu
    rcases List.mem_cons.1 hu with rfl | hu
    · rfl
    · rcases List.mem_cons.1 hu with rfl | hu
      · rfl
      · exact ih u hu
theorem mcells_of (ms : List (Int × Int)) (P : Nat → Value → Prop) (h : ∀ (j : Nat) (h : j < ms.length), P (j * 2) (.int .i64 ms[j].1) ∧ P (j * 2 + 1) (.int .i64 ms[j].2)) : ∀ (i : Nat) (u : Value), (mcells ms)[i]? = some u → P i u := fun i u hu => by
  have hi : i < ms.length * 2 := by rw [← mcells_len]; exact (List.getElem?_eq_some_iff.1 hu).1
  have hj : i / 2 < ms.length := by omega
  obtain ⟨a1, a2⟩ := mcells_at ms (i / 2) hj
  obtain ⟨b1, b2⟩ := h (i / 2) hj
  rcases Nat.mod_two_eq_zero_or_one i with q | q
  · have e : i / 2 * 2 = i := by omega
    rw [e] at a1 b1
    rw [hu] at a1
    cases a1; exact b1
  · have e : i / 2 * 2 + 1 = i := by omega
    rw [e] at a2 b2
    rw [hu] at a2
    cases a2; exact b2
end Go.Proofs.YtcaeafgkogfgdaaGreatDoor

/- The law's own OwnRule: the days lie in memory of its own. -/
namespace Go.Proofs.YtcaeafgkogfgdaaGreatDoor
open Go.RowKit Cal

end Go.Proofs.YtcaeafgkogfgdaaGreatDoor

/- The laws' own OwnEvent: an event in memory of its own. -/
namespace Go.Proofs.YtcaeafgkogfgdaaGreatDoor
open Go Go.RowKit Cal
attribute [local go_sem] Oper.semAt_some

theorem blk11_frozen {W : World} {n : Nat} {cs : Array Value} {t : TypeId} (h : W.heap[n]? = some (.cells cs t (0, 0))) (i : Nat) : W.frozen? ⟨n, i, none⟩ = false := by
  simp [World.frozen?, h]
theorem set11_0 {W : World} {n : Nat} {v0 v1 v2 v3 v4 v5 v6 v7 v8 v9 v10 : Value} {t : TypeId} {fr : Nat × Nat} (v : Value) (h : W.heap[n]? = some (.cells #[v0, v1, v2, v3, v4, v5, v6, v7, v8, v9, v10] t fr)) : (W.setCell ⟨n, 0, none⟩ v).heap[n]? = some (.cells #[v, v1, v2, v3, v4, v5, v6, v7, v8, v9, v10] t fr) := set_block (i := 0) v h
theorem set11_1 {W : World} {n : Nat} {v0 v1 v2 v3 v4 v5 v6 v7 v8 v9 v10 : Value} {t : TypeId} {fr : Nat × Nat} (v : Value) (h : W.heap[n]? = some (.cells #[v0, v1, v2, v3, v4, v5, v6, v7, v8, v9, v10] t fr)) : (W.setCell ⟨n, 1, none⟩ v).heap[n]? = some (.cells #[v0, v, v2, v3, v4, v5, v6, v7, v8, v9, v10] t fr) := set_block (i := 1) v h
theorem set11_2 {W : World} {n : Nat} {v0 v1 v2 v3 v4 v5 v6 v7 v8 v9 v10 : Value} {t : TypeId} {fr : Nat × Nat} (v : Value) (h : W.heap[n]? = some (.cells #[v0, v1, v2, v3, v4, v5, v6, v7, v8, v9, v10] t fr)) : (W.setCell ⟨n, 2, none⟩ v).heap[n]? = some (.cells #[v0, v1, v, v3, v4, v5, v6, v7, v8, v9, v10] t fr) := set_block (i := 2) v h
theorem set11_3 {W : World} {n : Nat} {v0 v1 v2 v3 v4 v5 v6 v7 v8 v9 v10 : Value} {t : TypeId} {fr : Nat × Nat} (v : Value) (h : W.heap[n]? = some (.cells #[v0, v1, v2, v3, v4, v5, v6, v7, v8, v9, v10] t fr)) : (W.setCell ⟨n, 3, none⟩ v).heap[n]? = some (.cells #[v0, v1, v2, v, v4, v5, v6, v7, v8, v9, v10] t fr) := set_block (i := 3) v h
theorem set11_4 {W : World} {n : Nat} {v0 v1 v2 v3 v4 v5 v6 v7 v8 v9 v10 : Value} {t : TypeId} {fr : Nat × Nat} (v : Value) (h : W.heap[n]? = some (.cells #[v0, v1, v2, v3, v4, v5, v6, v7, v8, v9, v10] t fr)) : (W.setCell ⟨n, 4, none⟩ v).heap[n]? = some (.cells #[v0, v1, v2, v3, v, v5, v6, v7, v8, v9, v10] t fr) := set_block (i := 4) v h
theorem set11_5 {W : World} {n : Nat} {v0 v1 v2 v3 v4 v5 v6 v7 v8 v9 v10 : Value} {t : TypeId} {fr : Nat × Nat} (v : Value) (h : W.heap[n]? = some (.cells #[v0, v1, v2, v3, v4, v5, v6, v7, v8, v9, v10] t fr)) : (W.setCell ⟨n, 5, none⟩ v).heap[n]? = some (.cells #[v0, v1, v2, v3, v4, v, v6, v7, v8, v9, v10] t fr) := set_block (i := 5) v h
theorem set11_6 {W : World} {n : Nat} {v0 v1 v2 v3 v4 v5 v6 v7 v8 v9 v10 : Value} {t : TypeId} {fr : Nat × Nat} (v : Value) (h : W.heap[n]? = some (.cells #[v0, v1, v2, v3, v4, v5, v6, v7, v8, v9, v10] t fr)) : (W.setCell ⟨n, 6, none⟩ v).heap[n]? = some (.cells #[v0, v1, v2, v3, v4, v5, v, v7, v8, v9, v10] t fr) := set_block (i := 6) v h
theorem set11_7 {W : World} {n : Nat} {v0 v1 v2 v3 v4 v5 v6 v7 v8 v9 v10 : Value} {t : TypeId} {fr : Nat × Nat} (v : Value) (h : W.heap[n]? = some (.cells #[v0, v1, v2, v3, v4, v5, v6, v7, v8, v9, v10] t fr)) : (W.setCell ⟨n, 7, none⟩ v).heap[n]? = some (.cells #[v0, v1, v2, v3, v4, v5, v6, v, v8, v9, v10] t fr) := set_block (i := 7) v h
theorem set11_8 {W : World} {n : Nat} {v0 v1 v2 v3 v4 v5 v6 v7 v8 v9 v10 : Value} {t : TypeId} {fr : Nat × Nat} (v : Value) (h : W.heap[n]? = some (.cells #[v0, v1, v2, v3, v4, v5, v6, v7, v8, v9, v10] t fr)) : (W.setCell ⟨n, 8, none⟩ v).heap[n]? = some (.cells #[v0, v1, v2, v3, v4, v5, v6, v7, v, v9, v10] t fr) := set_block (i := 8) v h
theorem set11_9 {W : World} {n : Nat} {v0 v1 v2 v3 v4 v5 v6 v7 v8 v9 v10 : Value} {t : TypeId} {fr : Nat × Nat} (v : Value) (h : W.heap[n]? = some (.cells #[v0, v1, v2, v3, v4, v5, v6, v7, v8, v9, v10] t fr)) : (W.setCell ⟨n, 9, none⟩ v).heap[n]? = some (.cells #[v0, v1, v2, v3, v4, v5, v6, v7, v8, v, v10] t fr) := set_block (i := 9) v h
theorem set11_10 {W : World} {n : Nat} {v0 v1 v2 v3 v4 v5 v6 v7 v8 v9 v10 : Value} {t : TypeId} {fr : Nat × Nat} (v : Value) (h : W.heap[n]? = some (.cells #[v0, v1, v2, v3, v4, v5, v6, v7, v8, v9, v10] t fr)) : (W.setCell ⟨n, 10, none⟩ v).heap[n]? = some (.cells #[v0, v1, v2, v3, v4, v5, v6, v7, v8, v9, v] t fr) := set_block (i := 10) v h
theorem fro11 {W : World} {n : Nat} {cs : Array Value} {t : TypeId} (h : W.heap[n]? = some (.cells cs t (0, 0))) : W.frozen? ⟨n, 0, none⟩ = false ∧ W.frozen? ⟨n, 1, none⟩ = false ∧ W.frozen? ⟨n, 2, none⟩ = false ∧ W.frozen? ⟨n, 3, none⟩ = false ∧ W.frozen? ⟨n, 4, none⟩ = false ∧ W.frozen? ⟨n, 5, none⟩ = false ∧ W.frozen? ⟨n, 6, none⟩ = false ∧ W.frozen? ⟨n, 7, none⟩ = false ∧ W.frozen? ⟨n, 8, none⟩ = false ∧ W.frozen? ⟨n, 9, none⟩ = false ∧ W.frozen? ⟨n, 10, none⟩ = false := ⟨blk11_frozen h 0, blk11_frozen h 1, blk11_frozen h 2, blk11_frozen h 3, blk11_frozen h 4, blk11_frozen h 5, blk11_frozen h 6, blk11_frozen h 7, blk11_frozen h 8, blk11_frozen h 9, blk11_frozen h 10⟩
/-- an event's eleven cells, all written -/
def put11 (W : World) (B : Nat) (v0 v1 v2 v3 v4 v5 v6 v7 v8 v9 v10 : Value) : World := (((((((((((W.setCell ⟨B, 0, none⟩ v0).setCell ⟨B, 1, none⟩ v1).setCell ⟨B, 2, none⟩ v2).setCell ⟨B, 3, none⟩ v3).setCell ⟨B, 4, none⟩ v4).setCell ⟨B, 5, none⟩ v5).setCell ⟨B, 6, none⟩ v6).setCell ⟨B, 7, none⟩ v7).setCell ⟨B, 8, none⟩ v8).setCell ⟨B, 9, none⟩ v9).setCell ⟨B, 10, none⟩ v10)
theorem put11_fold (W : World) (B : Nat) (v0 v1 v2 v3 v4 v5 v6 v7 v8 v9 v10 : Value) : (((((((((((W.setCell ⟨B, 0, none⟩ v0).setCell ⟨B, 1, none⟩ v1).setCell ⟨B, 2, none⟩ v2).setCell ⟨B, 3, none⟩ v3).setCell ⟨B, 4, none⟩ v4).setCell ⟨B, 5, none⟩ v5).setCell ⟨B, 6, none⟩ v6).setCell ⟨B, 7, none⟩ v7).setCell ⟨B, 8, none⟩ v8).setCell ⟨B, 9, none⟩ v9).setCell ⟨B, 10, none⟩ v10) = put11 W B v0 v1 v2 v3 v4 v5 v6 v7 v8 v9 v10 := rfl
theorem put11_grown (W : World) (B : Nat) (v0 v1 v2 v3 v4 v5 v6 v7 v8 v9 v10 : Value) : W.grownBy (put11 W B v0 v1 v2 v3 v4 v5 v6 v7 v8 v9 v10) (some B) := (grown_then (grown_then (grown_then (grown_then (grown_then (grown_then (grown_then (grown_then (grown_then (grown_then (grown_set _ ⟨B, 0, none⟩ _) (grown_set _ ⟨B, 1, none⟩ _)) (grown_set _ ⟨B, 2, none⟩ _)) (grown_set _ ⟨B, 3, none⟩ _)) (grown_set _ ⟨B, 4, none⟩ _)) (grown_set _ ⟨B, 5, none⟩ _)) (grown_set _ ⟨B, 6, none⟩ _)) (grown_set _ ⟨B, 7, none⟩ _)) (grown_set _ ⟨B, 8, none⟩ _)) (grown_set _ ⟨B, 9, none⟩ _)) (grown_set _ ⟨B, 10, none⟩ _))
theorem put11_blk {W : World} {B : Nat} {u0 u1 u2 u3 u4 u5 u6 u7 u8 u9 u10 : Value} {t : TypeId} {fr : Nat × Nat} (v0 v1 v2 v3 v4 v5 v6 v7 v8 v9 v10 : Value) (h : W.heap[B]? = some (.cells #[u0, u1, u2, u3, u4, u5, u6, u7, u8, u9, u10] t fr)) : (put11 W B v0 v1 v2 v3 v4 v5 v6 v7 v8 v9 v10).heap[B]? = some (.cells #[v0, v1, v2, v3, v4, v5, v6, v7, v8, v9, v10] t fr) :=
  (set11_10 v10 (set11_9 v9 (set11_8 v8 (set11_7 v7 (set11_6 v6 (set11_5 v5 (set11_4 v4 (set11_3 v3 (set11_2 v2 (set11_1 v1 (set11_0 v0 h)))))))))))
/-- an event's lists in memory of its own, or as they were handed over -/
structure Lists (W : World) (E : EV) (sl skv mvv : Value) : Prop where
  d : Days W sl E.ds
  s : Ints W skv E.sk
  m : Movs W mvv E.mv
  gd : Got W sl E.ds
  gs : Got W skv E.sk
  gm : GotM W mvv E.mv
theorem Lists.step {W W' : World} {E : EV} {sl skv mvv : Value} (h : Lists W E sl skv mvv) (hb : Below W.heap.size W W') : Lists W' E sl skv mvv :=
  ⟨h.d.step hb, h.s.step hb, h.m.step hb, h.gd.step hb, h.gs.step hb, h.gm.step hb⟩
theorem got_form {W : World} {sl : Value} {xs : List Int} (h : Got W sl xs) : ∃ a c, sl = .slice a xs.length c := by
  obtain ⟨a, c, e, _⟩ := h; exact ⟨a, c, e⟩
theorem gotM_form {W : World} {sl : Value} {xs : List (Int × Int)} (h : GotM W sl xs) : ∃ a c, sl = .slice a xs.length c := by
  obtain ⟨a, c, e, _⟩ := h; exact ⟨a, c, e⟩
theorem got_news {W : World} {ad : Addr} {xs : List Int} {cap : Nat} (h : Got W (.slice (some ad) xs.length cap) xs) : ∀ (j : Nat) (v : Value), (xs.map (Value.int .i64))[j]? = some v → W.cell? (ad.add j) = some v := fun j v hv => by
  obtain ⟨a, c, e, _, hc⟩ := h
  cases e
  rw [List.getElem?_map] at hv
  obtain ⟨d, hd, rfl⟩ := Option.map_eq_some_iff.1 hv
  obtain ⟨hj, rfl⟩ := List.getElem?_eq_some_iff.1 hd
  exact (hc ad rfl j hj).2
theorem gotM_news {W : World} {ad : Addr} {xs : List (Int × Int)} {cap : Nat} (h : GotM W (.slice (some ad) xs.length cap) xs) : ∀ (j : Nat) (v : Value), (mcells xs)[j]? = some v → W.cell? (ad.add j) = some v := by
  obtain ⟨a, c, e, _, hc⟩ := h
  cases e
  exact mcells_of xs (fun i u => W.cell? (ad.add i) = some u) (fun j hj => (hc ad rfl j hj).2)

end Go.Proofs.YtcaeafgkogfgdaaGreatDoor

/- The days of a start and a rule: the iterator that package expand's days hands back gives just those that a count and an end leave of the candidates; none where one of the two is not well. -/
namespace Go.Proofs.YtcaeafgkogfgdaaGreatDoor
open Go Go.RowKit Go.Shelf Cal
attribute [local go_sem] Oper.semAt_some

/-- what is left behind k days -/
def cutK (c : Int) (k : Nat) (u : Int) (l : List Int) : List Int := if 0 < c then (cutU u l).take (c - k).toNat else cutU u l
theorem cutK_zero (c u : Int) (l : List Int) : cut c u l = cutK c 0 u l := by unfold cut cutK; simp
theorem cutU_nil (u : Int) : cutU u [] = [] := by unfold cutU; split <;> rfl
theorem cutK_nil (c : Int) (k : Nat) (u : Int) : cutK c k u [] = [] := by unfold cutK; rw [cutU_nil]; split <;> simp
theorem cutK_over {c : Int} {k : Nat} {u x : Int} {r : List Int} (h0 : 0 ≤ u) (h : u < x) : cutK c k u (x :: r) = [] := by
  have : cutU u (x :: r) = [] := by unfold cutU; rw [if_pos h0, List.takeWhile_cons_of_neg (by simp; omega)]
  unfold cutK; rw [this]; split <;> simp
theorem cutK_on {c : Int} {k : Nat} {u x : Int} {r : List Int} (hk : 0 < c → (k : Int) < c) (h : ¬ (0 ≤ u ∧ u < x)) : cutK c k u (x :: r) = x :: cutK c (k + 1) u r := by
  have e1 : cutU u (x :: r) = x :: cutU u r := by
    unfold cutU
    split
    · rw [List.takeWhile_cons_of_pos (by simp; omega)]
    · rfl
  unfold cutK
  rw [e1]
  split
  · rename_i hc
    have := hk hc
    rw [show (c - k).toNat = (c - ((k + 1 : Nat) : Int)).toNat + 1 by omega, List.take_succ_cons]
  · rfl
theorem cutK_full {c : Int} {k : Nat} {u : Int} {r : List Int} (hc : 0 < c) (h : (k : Int) = c) : cutK c k u r = [] := by
  unfold cutK; rw [if_pos hc, show (c - k).toNat = 0 by omega]; rfl
theorem fr_len {p : Int → Bool} : ∀ (n : Nat) (a : Int), (fr p a n).length ≤ n
  | 0, a => by simp [fr]
  | n + 1, a => by
    unfold fr
    have := fr_len (p := p) n (a + 1)
    split
    · simp; omega
    · omega
theorem From_len {p : Int → Bool} {a : Int} (h : 0 ≤ a) : (From p a).length ≤ 73049 := by
  unfold From
  have := fr_len (p := p) (73049 - a).toNat a
  omega

end Go.Proofs.YtcaeafgkogfgdaaGreatDoor

/- Package expand's Days for any start and rule: the function that it hands back gives them. -/
namespace Go.Proofs.YtcaeafgkogfgdaaGreatDoor
open Go Go.RowKit Go.Shelf Cal
attribute [local go_sem] Oper.semAt_some

/-- these are the days of a start and a rule -/
def IsDays (f : ByteArray) (e : Int) (ds : List Int) (c u s : Int) (xs : List Int) : Prop :=
  (Well (rd f e ds c u) ∧ 0 ≤ s ∧ s ≤ 73048 ∧ xs = cut c u (cds f.toList s e ds)) ∨ (¬ (Well (rd f e ds c u) ∧ 0 ≤ s ∧ s ≤ 73048) ∧ xs = [])
theorem cut_len (c u : Int) (l : List Int) : (cut c u l).length ≤ l.length := by
  have h : (cutU u l).length ≤ l.length := by
    unfold cutU
    split
    · exact (List.takeWhile_sublist _).length_le
    · exact Nat.le_refl _
  unfold cut
  split
  · exact Nat.le_trans (List.length_take_le' _ _) h
  · exact h
theorem IsDays.len {f : ByteArray} {e : Int} {ds : List Int} {c u s : Int} {xs : List Int} (h : IsDays f e ds c u s xs) : xs.length ≤ 73049 := by
  rcases h with ⟨_, h0, _, rfl⟩ | ⟨_, rfl⟩
  · exact Nat.le_trans (cut_len _ _ _) (From_len h0)
  · simp
theorem IsDays.rise {f : ByteArray} {e : Int} {ds : List Int} {c u s : Int} {xs : List Int} (h : IsDays f e ds c u s xs) : xs.Pairwise (· < ·) := by
  rcases h with ⟨_, _, _, rfl⟩ | ⟨_, rfl⟩
  · exact cut_rise (From_rise _ _)
  · exact List.Pairwise.nil

/-- a row of days whose block lies from lo on, below hi -/
def DaysIn (lo hi : Nat) (W : World) (sl : Value) (ds : List Int) : Prop :=
  ds.length ≤ 20 ∧ ∃ (a : Option Addr) (c : Nat), sl = .slice a ds.length c ∧ ds.length ≤ c ∧ (ds = [] ∨ ∃ (b : Nat) (cs : Array Value) (t : TypeId) (fr : Nat × Nat), a = some ⟨b, 0, none⟩ ∧ lo ≤ b ∧ b < hi ∧ W.heap[b]? = some (.cells cs t fr) ∧ ∀ (j : Nat) (h : j < ds.length), W.cell? ⟨b, j, none⟩ = some (.int .i64 ds[j]))
theorem DaysIn.days {lo hi : Nat} {W : World} {sl : Value} {ds : List Int} (h : DaysIn lo hi W sl ds) : Days W sl ds := by
  obtain ⟨h1, a, c, h2, h3, h4⟩ := h
  refine ⟨a, c, h2, h1, h3, fun j hj => ?_⟩
  rcases h4 with rfl | ⟨b, cs, t, fr, e, _, _, hb, hc⟩
  · exact absurd hj (by simp)
  · exact ⟨b, e, (Array.getElem?_eq_some_iff.1 hb).1, hc j hj⟩
theorem DaysIn.steps {lo hi : Nat} {W W' : World} {sl : Value} {ds : List Int} (h : DaysIn lo hi W sl ds) (hk : ∀ k, lo ≤ k → k < hi → k < W.heap.size → W'.heap[k]? = W.heap[k]?) : DaysIn lo hi W' sl ds := by
  obtain ⟨h1, a, c, h2, h3, h4⟩ := h
  refine ⟨h1, a, c, h2, h3, ?_⟩
  rcases h4 with h4 | ⟨b, cs, t, fr, e, p1, p2, hb, hc⟩
  · exact .inl h4
  · have hk' := hk b p1 p2 (Array.getElem?_eq_some_iff.1 hb).1
    exact .inr ⟨b, cs, t, fr, e, p1, p2, hk'.trans hb, fun j hj => (World.cell?_of_block (a := ⟨b, j, none⟩) hk').trans (hc j hj)⟩
end Go.Proofs.YtcaeafgkogfgdaaGreatDoor
