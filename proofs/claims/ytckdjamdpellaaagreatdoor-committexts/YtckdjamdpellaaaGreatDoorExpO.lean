/- Contracts of the law's own LongRule and OwnRule. -/
import Derived.Test.YtckdjamdpellaaaGreatDoorExpC
import Derived.Laws.AppendOwnNone
namespace Go.Proofs.YtckdjamdpellaaaGreatDoor
open Go.RowKit Cal

theorem ow_days {base : Nat} {W : World} {sl : Value} {ds : List Int} (h : Ow base W sl ds) (h20 : ds.length ≤ 20) : Days W sl ds := by
  rcases h.2 with ⟨rfl, h0⟩ | ⟨g, cap, cur, rfl, hb, hg, hcap, hmax, hsz, htake⟩
  · rw [List.length_eq_zero_iff.1 h0]; exact Days.nil W 0
  · refine ⟨_, cap, rfl, h20, hcap, fun j hj => ⟨g, rfl, (Array.getElem?_eq_some_iff.1 hg).1, ?_⟩⟩
    have := World.ownsRow.cellAt h j (by omega)
    rw [this, List.getElem?_map, List.getElem?_eq_getElem hj]; rfl
theorem Ow.step {base : Nat} {W W' : World} {v : Value} {o : List Int} (h : Ow base W v o) (hb : Below W.heap.size W W') : Ow base W' v o :=
  World.ownsRow.kept h (grown_below hb (some W.heap.size)) (.inr (fun he => by have := (World.ownsRow.lt h _ he).2; omega))
theorem ow_form {base : Nat} {W : World} {v : Value} {o : List Int} (h : Ow base W v o) : ∃ a cap, v = .slice a o.length cap := by
  rcases h.2 with ⟨rfl, h0⟩ | ⟨g, cap, cur, rfl, _⟩
  · rw [h0]; exact ⟨none, 0, rfl⟩
  · exact ⟨_, cap, rfl⟩
theorem Ow.steps {base : Nat} {W W' : World} {v : Value} {o : List Int} (h : Ow base W v o) (hk : ∀ k, base ≤ k → k < W.heap.size → W'.heap[k]? = W.heap[k]?) : Ow base W' v o := by
  refine ⟨h.1, ?_⟩
  rcases h.2 with h2 | ⟨g, cap, cur, hv, hb, hg, r⟩
  · exact .inl h2
  · exact .inr ⟨g, cap, cur, hv, hb, (hk g hb (Array.getElem?_eq_some_iff.1 hg).1).trans hg, r⟩
/-- a rule's list of days as it was handed over -/
def Got (w : World) (sl : Value) (ds : List Int) : Prop :=
  ∃ (a : Option Addr) (cap : Nat), sl = .slice a ds.length cap ∧ (a = none → ds.length = 0 ∧ cap = 0) ∧ ∀ ad, a = some ad → ∀ (j : Nat) (h : j < ds.length), ad.block < w.heap.size ∧ w.cell? (ad.add j) = some (.int .i64 ds[j])
theorem addr_add_block (ad : Addr) (j : Nat) : (ad.add j).block = ad.block := by
  unfold Addr.add
  split <;> rfl
theorem Got.step {w w' : World} {sl : Value} {ds : List Int} (h : Got w sl ds) (hb : Below w.heap.size w w') : Got w' sl ds := by
  obtain ⟨a, cap, h1, h2, h3⟩ := h
  refine ⟨a, cap, h1, h2, fun ad e j hj => ?_⟩
  obtain ⟨h4, h5⟩ := h3 ad e j hj
  exact ⟨Nat.lt_of_lt_of_le h4 hb.size, (World.cell?_of_block (a := ad.add j) (hb.block _ (by rw [addr_add_block]; exact h4))).trans h5⟩

theorem ow_got {base : Nat} {W : World} {sl : Value} {ds : List Int} (h : Ow base W sl ds) : Got W sl ds := by
  rcases h.2 with ⟨rfl, h0⟩ | ⟨g, cap, cur, rfl, hb, hg, hcap, hmax, hsz, htake⟩
  · rw [List.length_eq_zero_iff.1 h0]; exact ⟨none, 0, rfl, fun _ => ⟨rfl, rfl⟩, fun ad q => by cases q⟩
  · refine ⟨_, cap, rfl, (fun q => by cases q), fun ad q j hj => ?_⟩
    cases q
    refine ⟨(Array.getElem?_eq_some_iff.1 hg).1, ?_⟩
    have := World.ownsRow.cellAt h j (by omega)
    have e : (⟨g, 0, none⟩ : Addr).add j = ⟨g, j, none⟩ := by
      simp [Addr.add]
      intro hq
      exact hq.symm
    rw [e, this, List.getElem?_map, List.getElem?_eq_getElem hj]; rfl

end Go.Proofs.YtckdjamdpellaaaGreatDoor
