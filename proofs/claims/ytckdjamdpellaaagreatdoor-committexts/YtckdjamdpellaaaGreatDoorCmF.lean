/- The closed commit: its text, and what is read of it. -/
import Derived.Test.YtckdjamdpellaaaGreatDoorCmL
namespace Go.Proofs.YtckdjamdpellaaaGreatDoor
open Go Go.RowKit Cal

def helloB : ByteArray := ⟨#[104, 101, 108, 108, 111]⟩
def t0L : List UInt8 := [99, 111, 109, 109, 105, 116, 32, 48, 10, 53, 32, 104, 101, 108, 108, 111]
theorem itoa0 : Lib.itoa 0 = [48] := by
  have := Lib.itoa_nonneg 0
  rw [show ((0 : Nat) : Int) = 0 from rfl] at this
  rw [this, Lib.decDigits_one (by decide)]
  rfl
theorem itoa5 : Lib.itoa 5 = [53] := by
  have := Lib.itoa_nonneg 5
  rw [show ((5 : Nat) : Int) = 5 from rfl] at this
  rw [this, Lib.decDigits_one (by decide)]
  rfl
theorem cmT0 : cmT 0 [] 5 helloB = t0L := by
  unfold cmT cmW
  rw [itoa0, itoa5]
  rfl
theorem num0 : numOfC [48] = some 0 := by
  have h := itoa_atoi 0 (by decide)
  rw [itoa0] at h
  unfold numOfC
  rw [if_pos (by decide), h]
  dsimp only
  rw [if_pos ⟨by decide, itoa0⟩]
theorem num5 : numOfC [53] = some 5 := by
  have h := itoa_atoi 5 (by decide)
  rw [itoa5] at h
  unfold numOfC
  rw [if_pos (by decide), h]
  dsimp only
  rw [if_pos ⟨by decide, itoa5⟩]
theorem cuts0 : cutsC t0L = some ([[99, 111, 109, 109, 105, 116], [48]], [53], [104, 101, 108, 108, 111]) := by kernel_rfl
theorem frm0 : FrmC t0L 0 [] 5 [104, 101, 108, 108, 111] := ⟨[48], [], [53], cuts0, num0, ⟨(fun x hx => by cases hx), rfl⟩, num5⟩
theorem bd0 : bdC 0 [] 5 := ⟨by decide, by decide, by decide, fun p hp => by cases hp⟩
theorem note0 : noteOk helloB := by
  refine ⟨by decide, fun j h => ?_⟩
  have h' : j < 5 := h
  match j, h' with
  | 0, _ => show okN 104; exact ⟨by decide, by decide⟩
  | 1, _ => show okN 101; exact ⟨by decide, by decide⟩
  | 2, _ => show okN 108; exact ⟨by decide, by decide⟩
  | 3, _ => show okN 108; exact ⟨by decide, by decide⟩
  | 4, _ => show okN 111; exact ⟨by decide, by decide⟩
/-- the closed text is read as it was written -/
theorem read0 {s : Nat → Addr} {base : Nat} {r : Ending} {w' : World} (h : ReadIs s t0L base r w') : ∃ v : Value, r = .returned (.tuple #[.agg #[.int .i64 0, v, .int .i64 5, .string helloB], .nilIface]) ∧ w'.ownsRow base 3 1 v 0 [] := by
  rcases h with ⟨t, at_, ps, note, a, n, c, hf, _, _, rfl, ho⟩ | ⟨q, _⟩ | ⟨⟨t, ps, at_, note, hf, hb⟩, _⟩
  · obtain ⟨rfl, rfl, rfl, hn⟩ := frm0.one hf
    have : note = helloB := pl_ext hn.symm
    subst this
    exact ⟨_, rfl, ho⟩
  · rcases q with q | ⟨t, ps, at_, note, hf, _, hn⟩
    · exact absurd ⟨_, _, _, _, frm0⟩ q
    · obtain ⟨rfl, rfl, rfl, hq⟩ := frm0.one hf
      have : note = helloB := pl_ext hq.symm
      subst this
      exact absurd note0 hn
  · obtain ⟨rfl, rfl, rfl, _⟩ := frm0.one hf
    exact absurd bd0 hb
end Go.Proofs.YtckdjamdpellaaaGreatDoor
