/- Words of one's own, gathered and joined: strings.Join, strconv.Itoa. -/
import Derived.Test.YtcaeafgkogfgdaaDoorTextW
import Derived.Test.YtcaeafgkogfgdaaDoorExpL
import Derived.Test.YtcaeafgkogfgdaaDoorShelf2
import Derived.Lib.Join
import Derived.WalkKit
namespace Go.Proofs.YtcaeafgkogfgdaaDoor
open Go.RowKit Cal

theorem info_str : (Tryd.prog.info? 9).map (fun i => (i.zero, i.size, i.bytes)) = some (some (.string ⟨#[]⟩), 1, 16) := by kernel_rfl
/-- a word as a value's bytes -/
def bs (l : List UInt8) : ByteArray := ⟨l.toArray⟩
def sv (l : List UInt8) : Value := .string (bs l)
theorem bs_data (l : List UInt8) : (bs l).data.toList = l := rfl

theorem itoa_any (n : Int) (w : World) (h0 : 0 ≤ n) (h1 : n ≤ 100000) (ht : Tab w) :
    Calls Tryd.prog 20 #[.int .i64 n] w fun e w' => e = .returned (.string (bs (Lib.itoa n))) ∧ Below w.heap.size w w' := by
  refine (Tryd.strconv_Itoa n (by omega) (by omega) w ht).mono ?_
  rintro e w' ⟨rfl, k, os, rfl⟩
  exact ⟨rfl, grow_below _ _ _⟩

theorem drew_below (w : World) : Below w.heap.size w w.drew := ⟨rfl, rfl, rfl, Nat.le_refl _, fun _ _ => rfl⟩

/-- the words gathered so far -/
structure TR (W0 wx : World) (v : Value) (L : List (List UInt8)) : Prop where
  own : wx.ownsRow W0.heap.size 9 1 v L.length (L.map sv)
  below : Below W0.heap.size W0 wx

theorem own_step {w w' : World} {base : Nat} {e : TypeId} {size : Nat} {v : Value} {n : Nat} {xs : List Value} (h : w.ownsRow base e size v n xs) (hb : Below w.heap.size w w') : w'.ownsRow base e size v n xs := by
  refine ⟨h.1, ?_⟩
  rcases h.2 with h2 | ⟨g, cap, cur, hv, hg, hh, r⟩
  · exact Or.inl h2
  · exact Or.inr ⟨g, cap, cur, hv, hg, (hb.block g (Array.getElem?_eq_some_iff.1 hh).1).trans hh, r⟩
theorem TR.step {W0 wx w2 : World} {v : Value} {L : List (List UInt8)} (h : TR W0 wx v L) (hb : Below wx.heap.size wx w2) : TR W0 w2 v L := ⟨own_step h.own hb, below_then h.below hb⟩
theorem TR.app {W0 w2 w3 : World} {v v' : Value} {L : List (List UInt8)} {n : Nat} {xs : List Value} {o : Obj} (M : List (List UInt8)) (h : TR W0 w2 v L) (hn : n = (L ++ M).length) (hx : xs = (L ++ M).map sv)
    (hown : w3.ownsRow W0.heap.size 9 1 v' n xs) (hg : (w2.alloc o).grownBy w3 v.ownBlock) : TR W0 w3 v' (L ++ M) := by
  subst hn hx
  exact ⟨hown, (h.below.alloc h.below.size _).grown hg (by have := h.below.size; simp; omega) (fun j ej => (h.own.lt j ej).1)⟩
theorem TR.lit {W0 w2 : World} (hb : Below W0.heap.size W0 w2) (x y : ByteArray) : TR W0 (w2.alloc (.cells #[.string x, .string y] 9)) (.slice (some ⟨w2.heap.size, 0, none⟩) 2 2) [x.data.toList, y.data.toList] :=
  ⟨World.ownsRow_lit (size := 1) w2 #[.string x, .string y] 2 hb.size (by unfold maxLen; omega) rfl, hb.alloc hb.size _⟩

theorem TR.one {W0 w2 : World} (hb : Below W0.heap.size W0 w2) (x : ByteArray) : TR W0 (w2.alloc (.cells #[.string x] 9)) (.slice (some ⟨w2.heap.size, 0, none⟩) 1 1) [x.data.toList] :=
  ⟨World.ownsRow_lit (size := 1) w2 #[.string x] 1 hb.size (by unfold maxLen; omega) rfl, hb.alloc hb.size _⟩
theorem TR.nil (W0 : World) : TR W0 W0 (.slice none 0 0) [] := ⟨World.ownsRow_nil _ _ _ _, Below.refl _ _⟩
theorem TR.form {W0 wx : World} {v : Value} {L : List (List UInt8)} (h : TR W0 wx v L) : ∃ a cap, v = .slice a L.length cap := by
  rcases h.own.2 with ⟨rfl, h0⟩ | ⟨g, cap, cur, rfl, _⟩
  · rw [h0]; exact ⟨none, 0, rfl⟩
  · exact ⟨_, cap, rfl⟩
/-- one word more: the new cell -/
theorem word_cell (w : World) (x : ByteArray) : ∀ (j : Nat) (v : Value), [Value.string x][j]? = some v → (w.alloc (.cells #[.string x] 9)).cell? ((⟨w.heap.size, 0, none⟩ : Addr).add j) = some v := fun j v hv => by
  obtain ⟨hj, he⟩ := List.getElem?_eq_some_iff.1 hv
  have hj0 : j = 0 := by simpa using hj
  subst hj0
  have he' : Value.string x = v := by simpa using he
  rw [← he']
  exact (Boxed.new w 9 (.string x)).cell
theorem lens_le : ∀ (ws : List (List UInt8)) (K : Nat), (∀ y ∈ ws, y.length ≤ K) → Lib.lens ws ≤ ws.length * K
  | [], K, _ => by simp [Lib.lens]
  | x :: r, K, h => by
    have h1 := h x (List.mem_cons_self ..)
    have h2 := lens_le r K (fun y hy => h y (List.mem_cons_of_mem _ hy))
    have e : Lib.lens (x :: r) = x.length + Lib.lens r := by simp [Lib.lens]
    rw [e, List.length_cons, Nat.add_mul, Nat.one_mul]
    omega
theorem joinLen (ws : List (List UInt8)) (sep : List UInt8) (K : Nat) (h : ∀ y ∈ ws, y.length ≤ K) : (Lib.join ws sep).length ≤ ws.length * (K + sep.length) := by
  cases ws with
  | nil => simp [Lib.join_nil]
  | cons x r =>
    rw [Lib.join_length, List.length_cons]
    have h2 := lens_le (x :: r) K h
    rw [List.length_cons] at h2
    have e : (r.length + 1) * (K + sep.length) = (r.length + 1) * K + (sep.length * r.length + sep.length) := by
      rw [Nat.mul_add, Nat.mul_comm (r.length + 1) sep.length, Nat.mul_add, Nat.mul_one]
    omega
end Go.Proofs.YtcaeafgkogfgdaaDoor
