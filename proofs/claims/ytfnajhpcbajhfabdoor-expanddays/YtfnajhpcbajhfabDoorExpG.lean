/- A loop over an iterator of days: one law for those who range over it. The round's body is walked once; the loop's record and the block for deferred calls are kept here. Conditions: a round ends normally, returns or breaks; it leaves the iterator's blocks. -/
import Derived.Test.YtfnajhpcbajhfabDoorExpI
namespace Go.Proofs.YtfnajhpcbajhfabDoor
open Go Go.RowKit Cal

/-- how a round's body may be left -/
def rnd2 (l : Nat) (r : Loop) (R : Ending → World → Prop) : Exit → Act → World → Prop
  | .normal, _, W => W.heap[l]? = some (.loop { r with state := .busy }) ∧ R (.returned (.bool true)) (W.putObj l (.loop { r with state := .ready, pending := none }))
  | .ret, _, W => W.heap[l]? = some (.loop { r with state := .busy }) ∧ R (.returned (.bool false)) (W.putObj l (.loop { r with state := .done, pending := some .ret }))
  | .exit id, _, W => W.heap[l]? = some (.loop { r with state := .busy }) ∧ R (.returned (.bool false)) (W.putObj l (.loop { r with state := .done, pending := some (.exit id) }))
  | _, _, _ => False

theorem yieldAt_of2 {P : Program} {n l : Nat} {r : Loop} {x : Array Value} {W : World} {R : Ending → World → Prop} {tmps : Array Value} {ps : Array Tmp} {assign body : Code} (hR : IsRec r tmps ps assign body) (a₁ : Act)
    (hl : W.heap[l]? = some (.loop r)) (hs : x.size = ps.size)
    (hassign : ∀ K : Act → World → Prop, K a₁ W → assign.wpIn (Fence.wide.inRound l) n P (Exit.then K (fun _ _ _ => False)) { tmps := (ps.zip x).foldl (fun t (p, v) => t.setIfInBounds p v) tmps, defers := [] } W)
    (hbody : body.wpIn (Fence.wide.inRound l) n P (rnd2 l r R) a₁ (W.putObj l (.loop { r with state := .busy }))) :
    YieldAt Fence.wide n P l x W R := by
  obtain ⟨hr, _, rfl, rfl, rfl, rfl⟩ := hR
  refine ⟨r.fn, _, r.assign, r.body, run_yield hl hs, roundIn_of_wpIn trivial (hassign _ ⟨_, run_beginRound hl hr, wpIn_mono hbody ?_⟩)⟩
  intro e a W3 h
  cases e with
  | normal => exact ⟨_, _, run_endRound none h.1, h.2⟩
  | ret => exact ⟨_, _, run_endRound (some .ret) h.1, h.2⟩
  | exit id => exact ⟨_, _, run_endRound (some (.exit id)) h.1, h.2⟩
  | goto t => exact h.elim
  | panic ch => exact h.elim
  | outgrown => exact h.elim

/-- what a round's body leaves -/
def rdPost (keep : Nat → Prop) (IN : World → Prop) (IX : Code → World → Prop) (W : World) : Exit → Act → World → Prop
  | .normal, _, W' => Steps keep W W' ∧ IN W'
  | .ret, _, W' => Steps keep W W' ∧ IX .ret W'
  | .exit id, _, W' => Steps keep W W' ∧ IX (.exit id) W'
  | _, _, _ => False

theorem range_gives {aa bb n : Nat} {g : Operand} {ps : Array Tmp} {assign body : Code} {Q : Exit → Act → World → Prop} {a : Act} {w : World} {gf : Nat} {lb : Array Value} {O : Nat → Prop} {Rd : World → Prop} {xs : List Int}
    (hn : aa + 1 ≤ n) (hg : a.eval g = .func (.func gf) #[] lb) (eg : ∀ args w, (callFunc gf args).run Tryd.prog w = .ok (.enter gf args) w) (hps : ps.size = 1)
    (hG : ∀ W, Below w.heap.size w W → Gives aa bb gf lb O Rd xs W) (hO : ∀ k, O k → k < w.heap.size)
    (I : Nat → List Int → World → Prop) (Ix : Code → Nat → World → Prop)
    (hI0 : ∀ W, Steps (itO O w.heap.size) w W → w.heap.size + 2 ≤ W.heap.size → I W.heap.size xs W)
    (hI : ∀ h r W W', w.heap.size + 2 ≤ h → I h r W → Steps (itK O w.heap.size h) W W' → I h r W')
    (hIx : ∀ c h W W', w.heap.size + 2 ≤ h → Ix c h W → Steps (itK O w.heap.size h) W W' → Ix c h W')
    (hR0 : ∀ W, Steps (itO O w.heap.size) w W → Rd W) (hR : ∀ h r W, I h r W → Rd W)
    (act : Int → Act)
    (hassign : ∀ (l m : Nat) (x : Int) (W : World) (K : Act → World → Prop), K (act x) W → assign.wpIn (Fence.wide.inRound l) m Tryd.prog (Exit.then K (fun _ _ _ => False)) { tmps := (ps.zip #[Value.int .i64 x]).foldl (fun t (p, v) => t.setIfInBounds p v) a.tmps, defers := [] } W)
    (hbody : ∀ (l m h : Nat) (x : Int) (r : List Int) (W : World), bb ≤ m → w.heap.size + 2 ≤ h → h ≤ W.heap.size → I h (x :: r) W →
      body.wpIn (Fence.wide.inRound l) m Tryd.prog (rdPost (roK O w.heap.size h) (I h r) (fun c => Ix c h) W) (act x) W)
    (hdone : ∀ (h : Nat) (W : World), w.heap.size + 2 ≤ h → h ≤ W.heap.size → I h [] W → W.heap[w.heap.size]? = some (.deferred (some [])) → Q .normal { a with defers := { target := .collected w.heap.size, args := #[] } :: a.defers } W)
    (hstop : ∀ (c : Code) (h : Nat) (W : World), w.heap.size + 2 ≤ h → h ≤ W.heap.size → Ix c h W → W.heap[w.heap.size]? = some (.deferred (some [])) → c.wpIn Fence.wide n Tryd.prog Q { a with defers := { target := .collected w.heap.size, args := #[] } :: a.defers } W) :
    (Code.rangeFunc g ps assign body).wpIn Fence.wide n Tryd.prog Q a w := by
  refine rangeFunc_of hg eg (fun r0 hr0 => ?_)
  have hb1 : Below w.heap.size w ((w.alloc (.deferred (some []))).alloc (.loop r0)) := below_then (below_alloc _ _) (below_alloc _ _)
  have hrec1 := rec_start w (.loop r0)
  have hd1 : ((w.alloc (.deferred (some []))).alloc (.loop r0)).heap[w.heap.size]? = some (.deferred (some [])) := block_alloc _ (block_at _ rfl)
  have hsz1 : ((w.alloc (.deferred (some []))).alloc (.loop r0)).heap.size = w.heap.size + 2 := by simp
  generalize (w.alloc (.deferred (some []))).alloc (.loop r0) = W1 at hb1 hrec1 hd1 hsz1
  have nO0 : ¬ O w.heap.size := fun h => by have := hO _ h; omega
  have nO1 : ¬ O (w.heap.size + 1) := fun h => by have := hO _ h; omega
  have nk : ∀ h, ¬ itK O w.heap.size h (w.heap.size + 1) ∨ h ≤ w.heap.size + 1 := fun h => by
    by_cases hh : h ≤ w.heap.size + 1
    · exact .inr hh
    · exact .inl (fun hk => by rcases hk.2 with q | q <;> omega)
  refine (hG W1 hb1 (n - 1) (w.heap.size + 1)
    (fun W => Steps (itO O w.heap.size) w W ∧ W.heap[w.heap.size + 1]? = some (.loop r0) ∧ W.heap[w.heap.size]? = some (.deferred (some [])))
    (fun h r W => I h r W ∧ W.heap[w.heap.size + 1]? = some (.loop r0) ∧ W.heap[w.heap.size]? = some (.deferred (some [])))
    (fun h W => ∃ c, Ix c h W ∧ W.heap[w.heap.size + 1]? = some (.loop { r0 with state := .done, pending := some c }) ∧ W.heap[w.heap.size]? = some (.deferred (some [])))
    (by omega) ?s0 ?s1 ?s2 ?s3 ?s4 ?s5 ?s6 ?s7).mono ?post
  case s0 =>
    rintro W W' ⟨q1, q2, q3⟩ hS
    exact ⟨q1.trans (hS.mono (fun k hk => ⟨hk.1, by have := hk.2; omega⟩)), hS.obj q2 ⟨nO1, by omega⟩, hS.obj q3 ⟨nO0, by omega⟩⟩
  case s1 =>
    rintro W ⟨q1, q2, q3⟩ hs
    exact ⟨hI0 W q1 (by omega), q2, q3⟩
  case s2 =>
    rintro h r W W' hh ⟨q1, q2, q3⟩ hS
    exact ⟨hI h r W W' (by omega) q1 (hS.mono (fun k hk => ⟨hk.1, by rcases hk.2 with q | q <;> omega⟩)), hS.obj q2 ⟨nO1, .inl (by omega)⟩, hS.obj q3 ⟨nO0, .inl (by omega)⟩⟩
  case s3 =>
    rintro h W W' hh ⟨c, q1, q2, q3⟩ hS
    exact ⟨c, hIx c h W W' (by omega) q1 (hS.mono (fun k hk => ⟨hk.1, by rcases hk.2 with q | q <;> omega⟩)), hS.obj q2 ⟨nO1, .inl (by omega)⟩, hS.obj q3 ⟨nO0, .inl (by omega)⟩⟩
  case s4 => exact fun W q => hR0 W q.1
  case s5 => exact fun h r W q => hR h r W q.1
  case s7 => exact ⟨Steps.of_below hb1, hrec1, hd1⟩
  case s6 =>
    rintro m h x r W hm hh hhW ⟨q1, q2, q3⟩
    have hlt : w.heap.size + 1 < W.heap.size := (Array.getElem?_eq_some_iff.1 q2).1
    have hsP : (W.putObj (w.heap.size + 1) (.loop { r0 with state := .busy })).heap.size = W.heap.size := World.putObj_size
    have nkh : ¬ itK O w.heap.size h (w.heap.size + 1) := by
      rcases nk h with q | q
      · exact q
      · omega
    have i1 := hI h (x :: r) W (W.putObj (w.heap.size + 1) (.loop { r0 with state := .busy })) (by omega) q1 (Steps.put _ _ _ nkh)
    have l1 : (W.putObj (w.heap.size + 1) (.loop { r0 with state := .busy })).heap[w.heap.size + 1]? = some (.loop { r0 with state := .busy }) := World.putObj_heap_same hlt
    have d1 : (W.putObj (w.heap.size + 1) (.loop { r0 with state := .busy })).heap[w.heap.size]? = some (.deferred (some [])) := (World.putObj_heap_other (by omega)).trans q3
    have nr : ¬ roK O W1.heap.size h (w.heap.size + 1) := fun hk => by
      rcases hk with q | q
      · exact nO1 q
      · omega
    have st1 : Steps (roK O W1.heap.size h) W (W.putObj (w.heap.size + 1) (.loop { r0 with state := .busy })) := Steps.put _ _ _ nr
    refine yieldAt_of2 hr0 (act x) q2 (by rw [hps]; rfl) (fun K hK => hassign _ m x W K hK) (wpIn_mono (hbody _ m h x r _ hm (by omega) (by omega) i1) ?_)
    have up : ∀ k, roK O W1.heap.size h k → roK O w.heap.size h k := fun k hk => by
      rcases hk with q | q
      · exact .inl q
      · exact .inr (by omega)
    intro e a3 W3 hp
    cases e with
    | normal =>
      obtain ⟨hS, hi⟩ := hp
      have l3 := hS.obj l1 (.inr (by omega))
      have d3 := hS.obj d1 (.inr (by omega))
      refine ⟨l3, (st1.trans (hS.mono up)).trans (Steps.put _ _ _ nr), .inl ⟨rfl, hI h r _ _ (by omega) hi (Steps.put _ _ _ nkh), ?_, (World.putObj_heap_other (by omega)).trans d3⟩⟩
      rw [hr0.again]; exact World.putObj_heap_same (Array.getElem?_eq_some_iff.1 l3).1
    | ret =>
      obtain ⟨hS, hi⟩ := hp
      have l3 := hS.obj l1 (.inr (by omega))
      have d3 := hS.obj d1 (.inr (by omega))
      exact ⟨l3, (st1.trans (hS.mono up)).trans (Steps.put _ _ _ nr), .inr ⟨rfl, .ret, hIx _ h _ _ (by omega) hi (Steps.put _ _ _ nkh), World.putObj_heap_same (Array.getElem?_eq_some_iff.1 l3).1, (World.putObj_heap_other (by omega)).trans d3⟩⟩
    | exit id =>
      obtain ⟨hS, hi⟩ := hp
      have l3 := hS.obj l1 (.inr (by omega))
      have d3 := hS.obj d1 (.inr (by omega))
      exact ⟨l3, (st1.trans (hS.mono up)).trans (Steps.put _ _ _ nr), .inr ⟨rfl, .exit id, hIx _ h _ _ (by omega) hi (Steps.put _ _ _ nkh), World.putObj_heap_same (Array.getElem?_eq_some_iff.1 l3).1, (World.putObj_heap_other (by omega)).trans d3⟩⟩
    | goto t => exact hp.elim
    | panic ch => exact hp.elim
    | outgrown => exact hp.elim
  case post =>
    rintro e W2 ⟨hv, h, hh, hhW, (⟨hi, q2, q3⟩ | ⟨c, hi, q2, q3⟩)⟩
    · have nkh : ¬ itK O w.heap.size h (w.heap.size + 1) := by
        rcases nk h with q | q
        · exact q
        · omega
      exact ⟨hv, _, q2, by rw [hr0.state]; decide, .inl ⟨hr0.pending, hdone h _ (by omega) (by rw [World.putObj_size]; exact hhW) (hI h [] _ _ (by omega) hi (Steps.put _ _ _ nkh)) ((World.putObj_heap_other (by omega)).trans q3)⟩⟩
    · have nkh : ¬ itK O w.heap.size h (w.heap.size + 1) := by
        rcases nk h with q | q
        · exact q
        · omega
      exact ⟨hv, _, q2, by simp, .inr ⟨c, rfl, hstop c h _ (by omega) (by rw [World.putObj_size]; exact hhW) (hIx c h _ _ (by omega) hi (Steps.put _ _ _ nkh)) ((World.putObj_heap_other (by omega)).trans q3)⟩⟩
end Go.Proofs.YtfnajhpcbajhfabDoor
