/- The library's own contracts of some functions more, laid at this program. -/
import Derived.Shelf.Strings.Builder1
import Derived.Shelf.Small.Bits
import Derived.Shelf.Small.Strs
import Derived.Shelf.Small.Wraps
import Derived.Shelf.Strings.BuilderF
import Derived.Shelf.Strings.BuilderK
import Derived.Shelf.Utf8.RuneCount
import Derived.Shelf.Strconv.Atoi
import Derived.Shelf.Strconv.Itoa0
import Derived.Shelf.Strconv.Itoa1
import Derived.Shelf.LaysM
import Derived.Shelf.Strconv.Itoa2
import Derived.Shelf.Strconv.Itoa3
import Derived.Shelf.Strconv.AtoiErrFast
import Derived.Shelf.Strconv.ParseIntEmpty
import Derived.Shelf.Strconv.AtoiFail
import Derived.Shelf.Strconv.Clone
import Derived.Shelf.Strconv.SyntaxError
import Derived.Shelf.LaysC
import Derived.Shelf.Strconv.ToError
import Derived.Shelf.Strconv.AtoiErr
import Derived.Shelf.Strconv.Lower
import Derived.Shelf.Strconv.ParseUint10
import Derived.Shelf.Strconv.ParseUint10Empty
import Derived.Shelf.Strconv.ParseUint10Any
import Derived.Shelf.Strconv.ParseInt10
import Derived.Shelf.Strconv.AtoiLong
import Derived.Shelf.Strconv.AtoiInnerAll
import Derived.Shelf.Strconv.RangeError
import Derived.Shelf.Strconv.ToErrorRange
import Derived.Shelf.Strconv.AtoiAll
import Derived.Shelf.Strings.Search1
import Derived.Shelf.Strings.Search2
import Derived.Shelf.Strings.Search3
import Derived.Shelf.Strings.Cut
import Derived.Shelf.Strings.Count
import Derived.Shelf.Strings.Shaped
import Derived.Shelf.Sort.Plain
import Derived.Shelf.Strings.Prefix
import Derived.Shelf.Strings.Split
import Derived.Shelf.Strings.SplitShaped
import Derived.Shelf.Unicode.Decode
import Derived.Shelf.Strings.RuneCount
import Derived.Shelf.Strings.Explode
import Derived.Shelf.Unicode.DecodeSlow
import Derived.Shelf.Unicode.DecodeAny
import Derived.Shelf.Slices.In.SortNone
import Derived.Test.YtcaeafgkogfgdaaGreatDoorProg
import Derived.Test.YtcaeafgkogfgdaaGreatDoorRaAD
import Derived.Test.YtcaeafgkogfgdaaGreatDoorRaAC
import Derived.BigRegion
import Derived.Lib.Split
import Derived.Test.YtcaeafgkogfgdaaGreatDoorRaAA
import Derived.Test.YtcaeafgkogfgdaaGreatDoorRaAB
namespace Go.Proofs
open Go.Shelf
def Tryz.lays137_ren : Go.Shelf.Ren := ⟨fun | 137 => 33 | 217 => 42 | 266 => 51 | n => n, fun | 9 => 9 | 5 => 5 | 3 => 3 | n => n, fun | n => n⟩
theorem Tryz.lays137 : Go.Proofs.Lays.n137 Tryz.prog Tryz.lays137_ren := {
  mixed := by kernel_rfl
  f137 := Tryz.func33.trans (congrArg some (by kernel_rfl))
  f217 := Tryz.func42.trans (congrArg some (by kernel_rfl))
  f266 := Tryz.func51.trans (congrArg some (by kernel_rfl))
  t3 := Tryz.underlying3
  a3 := Tryz.isAgg3
  z3 := Tryz.sizeOf3
  v3 := Tryz.zeroValue3
  t5 := Tryz.underlying5
  a5 := Tryz.isAgg5
  z5 := Tryz.sizeOf5
  v5 := Tryz.zeroValue5
  t9 := Tryz.underlying9
  a9 := Tryz.isAgg9
  z9 := Tryz.sizeOf9
  v9 := Tryz.zeroValue9 }
open Go.RowKit in
theorem Tryz.strings_IndexByte (s : ByteArray) (c : Int) (w : World) :
    Calls Tryz.prog 33 #[.string s, .int .u8 c] w fun e w' => e = .returned (.int .i64 (Lib.indexByte s.data.toList c.toNat.toUInt8)) ∧ w' = w := Any.strings_IndexByte Tryz.lays137 s c w
def Tryz.lays104_ren : Go.Shelf.Ren := ⟨fun | 104 => 43 | 211 => 52 | 207 => 68 | n => n, fun | 9 => 9 | 4 => 4 | 24 => 82 | 3 => 3 | n => n, fun | n => n⟩
theorem Tryz.lays104 : Go.Proofs.Lays.n104 Tryz.prog Tryz.lays104_ren := {
  mixed := by kernel_rfl
  f104 := Tryz.func43.trans (congrArg some (by kernel_rfl))
  f207 := Tryz.func68.trans (congrArg some (by kernel_rfl))
  f211 := Tryz.func52.trans (congrArg some (by kernel_rfl))
  t3 := Tryz.underlying3
  a3 := Tryz.isAgg3
  z3 := Tryz.sizeOf3
  v3 := Tryz.zeroValue3
  t4 := Tryz.underlying4
  a4 := Tryz.isAgg4
  z4 := Tryz.sizeOf4
  v4 := Tryz.zeroValue4
  t9 := Tryz.underlying9
  a9 := Tryz.isAgg9
  z9 := Tryz.sizeOf9
  v9 := Tryz.zeroValue9
  t24 := Tryz.underlying82
  a24 := Tryz.isAgg82
  z24 := Tryz.sizeOf82
  v24 := Tryz.zeroValue82 }
open Go.RowKit in
theorem Tryz.strings_CutSuffix (s p : ByteArray) (w : World) (hs : s.size ≤ 9223372036854775807) :
    Calls Tryz.prog 43 #[.string s, .string p] w fun e w' => e = .returned (.tuple #[.string ⟨(Lib.trimSuffix s.data.toList p.data.toList).toArray⟩, .bool (Lib.hasSuffix s.data.toList p.data.toList)]) ∧ w' = w := Any.strings_CutSuffix Tryz.lays104 s p w hs
def Tryz.laysC172_ren : Go.Shelf.Ren := ⟨fun | 172 => 88 | 244 => 98 | 245 => 99 | 247 => 103 | 279 => 104 | 280 => 105 | 281 => 106 | 282 => 107 | 287 => 108 | 316 => 109 | 171 => 38 | 205 => 110 | 321 => 111 | 322 => 112 | 243 => 47 | 246 => 56 | 283 => 74 | 284 => 75 | 285 => 76 | 286 => 77 | 129 => 67 | 317 => 89 | 318 => 90 | 319 => 91 | 320 => 92 | 337 => 100 | 338 => 101 | n => n, fun | 9 => 9 | 3 => 3 | 75 => 34 | 76 => 68 | 4 => 4 | 5 => 5 | 167 => 137 | 37 => 65 | 0 => 0 | 85 => 138 | 2 => 2 | 168 => 140 | 53 => 107 | 175 => 145 | 46 => 74 | 210 => 149 | 127 => 80 | 145 => 154 | 143 => 152 | 21 => 21 | 171 => 110 | 173 => 112 | 212 => 125 | 51 => 105 | 20 => 20 | 213 => 126 | 232 => 143 | 233 => 144 | 80 => 39 | n => n, fun | 15 => 14 | 16 => 15 | 17 => 9 | 18 => 12 | 19 => 13 | n => n⟩
theorem Tryz.laysC172 : Go.Proofs.LaysC.n172 Tryz.prog Tryz.laysC172_ren := {
  mixed := by kernel_rfl
  f129 := Tryz.func67.trans (congrArg some (by kernel_rfl))
  f171 := Tryz.func38.trans (congrArg some (by kernel_rfl))
  f172 := Tryz.func88.trans (congrArg some (by kernel_rfl))
  f205 := Tryz.func110.trans (congrArg some (by kernel_rfl))
  f243 := Tryz.func47.trans (congrArg some (by kernel_rfl))
  f244 := Tryz.func98.trans (congrArg some (by kernel_rfl))
  f245 := Tryz.func99.trans (congrArg some (by kernel_rfl))
  f246 := Tryz.func56.trans (congrArg some (by kernel_rfl))
  f247 := Tryz.func103.trans (congrArg some (by kernel_rfl))
  f279 := Tryz.func104.trans (congrArg some (by kernel_rfl))
  f280 := Tryz.func105.trans (congrArg some (by kernel_rfl))
  f281 := Tryz.func106.trans (congrArg some (by kernel_rfl))
  f282 := Tryz.func107.trans (congrArg some (by kernel_rfl))
  f283 := Tryz.func74.trans (congrArg some (by kernel_rfl))
  f284 := Tryz.func75.trans (congrArg some (by kernel_rfl))
  f285 := Tryz.func76.trans (congrArg some (by kernel_rfl))
  f286 := Tryz.func77.trans (congrArg some (by kernel_rfl))
  f287 := Tryz.func108.trans (congrArg some (by kernel_rfl))
  f316 := Tryz.func109.trans (congrArg some (by kernel_rfl))
  f317 := Tryz.func89.trans (congrArg some (by kernel_rfl))
  f318 := Tryz.func90.trans (congrArg some (by kernel_rfl))
  f319 := Tryz.func91.trans (congrArg some (by kernel_rfl))
  f320 := Tryz.func92.trans (congrArg some (by kernel_rfl))
  f321 := Tryz.func111.trans (congrArg some (by kernel_rfl))
  f322 := Tryz.func112.trans (congrArg some (by kernel_rfl))
  f337 := Tryz.func100.trans (congrArg some (by kernel_rfl))
  f338 := Tryz.func101.trans (congrArg some (by kernel_rfl))
  t0 := Tryz.underlying0
  a0 := Tryz.isAgg0
  z0 := Tryz.sizeOf0
  v0 := Tryz.zeroValue0
  t2 := Tryz.underlying2
  a2 := Tryz.isAgg2
  z2 := Tryz.sizeOf2
  v2 := Tryz.zeroValue2
  t3 := Tryz.underlying3
  a3 := Tryz.isAgg3
  z3 := Tryz.sizeOf3
  v3 := Tryz.zeroValue3
  t4 := Tryz.underlying4
  a4 := Tryz.isAgg4
  z4 := Tryz.sizeOf4
  v4 := Tryz.zeroValue4
  t5 := Tryz.underlying5
  a5 := Tryz.isAgg5
  z5 := Tryz.sizeOf5
  v5 := Tryz.zeroValue5
  t9 := Tryz.underlying9
  a9 := Tryz.isAgg9
  z9 := Tryz.sizeOf9
  v9 := Tryz.zeroValue9
  t20 := Tryz.underlying20
  a20 := Tryz.isAgg20
  z20 := Tryz.sizeOf20
  v20 := Tryz.zeroValue20
  t21 := Tryz.underlying21
  a21 := Tryz.isAgg21
  z21 := Tryz.sizeOf21
  v21 := Tryz.zeroValue21
  t37 := Tryz.underlying65
  a37 := Tryz.isAgg65
  z37 := Tryz.sizeOf65
  v37 := Tryz.zeroValue65
  t46 := Tryz.underlying74
  a46 := Tryz.isAgg74
  z46 := Tryz.sizeOf74
  v46 := Tryz.zeroValue74
  t51 := Tryz.underlying105
  a51 := Tryz.isAgg105
  z51 := Tryz.sizeOf105
  v51 := Tryz.zeroValue105
  t53 := Tryz.underlying107
  a53 := Tryz.isAgg107
  z53 := Tryz.sizeOf107
  v53 := Tryz.zeroValue107
  t75 := Tryz.underlying34
  a75 := Tryz.isAgg34
  z75 := Tryz.sizeOf34
  v75 := Tryz.zeroValue34
  t76 := Tryz.underlying68
  a76 := Tryz.isAgg68
  z76 := Tryz.sizeOf68
  v76 := Tryz.zeroValue68
  t85 := Tryz.underlying138
  a85 := Tryz.isAgg138
  z85 := Tryz.sizeOf138
  v85 := Tryz.zeroValue138
  t127 := Tryz.underlying80
  a127 := Tryz.isAgg80
  z127 := Tryz.sizeOf80
  v127 := Tryz.zeroValue80
  t143 := Tryz.underlying152
  a143 := Tryz.isAgg152
  z143 := Tryz.sizeOf152
  v143 := Tryz.zeroValue152
  t145 := Tryz.underlying154
  a145 := Tryz.isAgg154
  z145 := Tryz.sizeOf154
  v145 := Tryz.zeroValue154
  t167 := Tryz.underlying137
  a167 := Tryz.isAgg137
  z167 := Tryz.sizeOf137
  v167 := Tryz.zeroValue137
  t168 := Tryz.underlying140
  a168 := Tryz.isAgg140
  z168 := Tryz.sizeOf140
  v168 := Tryz.zeroValue140
  t171 := Tryz.underlying110
  a171 := Tryz.isAgg110
  z171 := Tryz.sizeOf110
  v171 := Tryz.zeroValue110
  t173 := Tryz.underlying112
  a173 := Tryz.isAgg112
  z173 := Tryz.sizeOf112
  v173 := Tryz.zeroValue112
  t175 := Tryz.underlying145
  a175 := Tryz.isAgg145
  z175 := Tryz.sizeOf145
  v175 := Tryz.zeroValue145
  t210 := Tryz.underlying149
  a210 := Tryz.isAgg149
  z210 := Tryz.sizeOf149
  v210 := Tryz.zeroValue149
  t212 := Tryz.underlying125
  a212 := Tryz.isAgg125
  z212 := Tryz.sizeOf125
  v212 := Tryz.zeroValue125
  t213 := Tryz.underlying126
  a213 := Tryz.isAgg126
  z213 := Tryz.sizeOf126
  t232 := Tryz.underlying143
  a232 := Tryz.isAgg143
  z232 := Tryz.sizeOf143
  v232 := Tryz.zeroValue143
  t233 := Tryz.underlying144
  a233 := Tryz.isAgg144
  z233 := Tryz.sizeOf144
  v233 := Tryz.zeroValue144
  g15 := by kernel_rfl
  g16 := by kernel_rfl
  g17 := by kernel_rfl
  g18 := by kernel_rfl
  g19 := by kernel_rfl
  t80 := Tryz.underlying39
  a80 := Tryz.isAgg39
  z80 := Tryz.sizeOf39
  v80 := Tryz.zeroValue39
  i0 := by kernel_rfl
  i2 := by kernel_rfl
  i3 := by kernel_rfl
  i4 := by kernel_rfl
  i5 := by kernel_rfl
  i9 := by kernel_rfl
  i20 := by kernel_rfl
  i21 := by kernel_rfl
  i37 := by kernel_rfl
  i46 := by kernel_rfl
  i51 := by kernel_rfl
  i53 := by kernel_rfl
  i75 := by kernel_rfl
  i76 := by kernel_rfl
  i80 := by kernel_rfl
  i85 := by kernel_rfl
  i127 := by kernel_rfl
  i143 := by kernel_rfl
  i145 := by kernel_rfl
  i167 := by kernel_rfl
  i168 := by kernel_rfl
  i171 := by kernel_rfl
  i173 := by kernel_rfl
  i175 := by kernel_rfl
  i210 := by kernel_rfl
  i212 := by kernel_rfl
  i232 := by kernel_rfl
  i233 := by kernel_rfl
  m15 := by kernel_rfl
  m16 := by kernel_rfl
  m17 := by kernel_rfl
  m18 := by kernel_rfl
  m19 := by kernel_rfl
  c0 := by kernel_rfl
  c2 := by kernel_rfl
  c3 := by kernel_rfl
  c4 := by kernel_rfl
  c5 := by kernel_rfl
  c9 := by kernel_rfl
  c20 := by kernel_rfl
  c21 := by kernel_rfl
  c37 := by kernel_rfl
  c46 := by kernel_rfl
  c51 := by kernel_rfl
  c53 := by kernel_rfl
  c75 := by kernel_rfl
  c76 := by kernel_rfl
  c80 := by kernel_rfl
  c85 := by kernel_rfl
  c127 := by kernel_rfl
  c143 := by kernel_rfl
  c145 := by kernel_rfl
  c167 := by kernel_rfl
  c168 := by kernel_rfl
  c171 := by kernel_rfl
  c173 := by kernel_rfl
  c175 := by kernel_rfl
  c210 := by kernel_rfl
  c212 := by kernel_rfl
  c213 := by kernel_rfl
  c232 := by kernel_rfl
  c233 := by kernel_rfl }
open Go.RowKit in
theorem Tryz.strconv_Atoi_err (s : ByteArray) (hl : s.size ≤ 18) (h : Lib.atoi s.data.toList = none) (ev : Value) (w : World) (hv : w.cell? ⟨14, 0, none⟩ = some ev) (hev : ev = .nilIface ∨ ∃ te pe, ev = .iface te pe) :
    Calls Tryz.prog 88 #[.string s] w fun e w' => ∃ N, e = .returned (.tuple #[.int .i64 0, .iface 140 (.pointer (some ⟨N, 0, none⟩))]) ∧ w.heap.size ≤ N ∧ w'.heap[N]? = some (.cells #[.string ⟨#[65, 116, 111, 105]⟩, .string s, ev] 149 (0, 0)) ∧ Below w.heap.size w w' := Any.strconv_Atoi_err Tryz.laysC172 s hl h ev w hv hev
end Go.Proofs

/- Package number's Read; strings.Cut at one sign; package pool's cutText: of any text. -/
namespace Go.Proofs.YtcaeafgkogfgdaaGreatDoor
open Go Go.RowKit Go.Maps Cal
attribute [local go_sem] Oper.semAt_some

theorem pl_ne {x y : ByteArray} (h : y ≠ x) : (y.toList == x.toList) = false := by
  rw [beq_eq_false_iff_ne, ByteArray.toList_eq, ByteArray.toList_eq]
  exact fun e => h (pl_ext e)
theorem pl_bytes (w : World) (b : TypeId) (t : ByteArray) : Below w.heap.size w (Lib.bytesWorld w b t) := by
  refine ⟨rfl, rfl, rfl, ?_, fun k hk => ?_⟩
  · show w.heap.size ≤ ((w.heap.push _).modify _ _).size
    simp
  · show ((w.heap.push _).modify w.heap.size _)[k]? = w.heap[k]?
    rw [Array.getElem?_modify, if_neg (by omega), Array.getElem?_push_lt hk, Array.getElem?_eq_getElem hk]
theorem itoa_all (n : Int) (w : World) (h0 : 0 ≤ n) (h1 : n ≤ 9223372036854775807) (ht : Tab w) :
    Calls Tryz.prog 38 #[.int .i64 n] w fun e w' => e = .returned (.string (bs (Lib.itoa n))) ∧ Below w.heap.size w w' := by
  refine (Tryz.strconv_Itoa n (by omega) (by omega) w ht).mono ?_
  rintro e w' ⟨rfl, k, os, rfl⟩
  exact ⟨rfl, grow_below _ _ _⟩
/-- what package number leans on -/
structure GlobN (w : World) : Prop where
  tab : Tab w
  syn : ∃ q, w.cell? ⟨14, 0, none⟩ = some (.iface 152 (.pointer (some q)))
theorem GlobN.step {w w' : World} (h : GlobN w) (hb : Below w.heap.size w w') : GlobN w' := by
  obtain ⟨q, hq⟩ := h.syn
  exact ⟨h.tab.step hb, q, cell_step hq hb⟩

/-- the number that a text is: at most nine digits, without needless zeros -/
def numOf (l : List UInt8) : Option Int := if l.length ≤ 9 then (match Lib.atoi l with | some n => if 0 ≤ n ∧ Lib.itoa n = l then some n else none | none => none) else none
theorem numOf_some {l : List UInt8} {n : Int} (h : numOf l = some n) : l.length ≤ 9 ∧ Lib.atoi l = some n ∧ 0 ≤ n ∧ Lib.itoa n = l := by
  unfold numOf at h
  split at h
  · rename_i h9
    cases ha : Lib.atoi l with
    | none => rw [ha] at h; cases h
    | some m =>
      rw [ha] at h
      dsimp only at h
      split at h
      · rename_i hq
        cases h
        exact ⟨h9, rfl, hq⟩
      · cases h
  · cases h
theorem numOf_itoa (n : Int) (h0 : 0 ≤ n) (h1 : n ≤ 999999) : numOf (Lib.itoa n) = some n := by
  unfold numOf
  have := itoa_len n h0 h1
  rw [if_pos (by omega), itoa_atoi n h0]
  dsimp only
  rw [if_pos ⟨h0, rfl⟩]
theorem atoi_bd {l : List UInt8} {n : Int} (h : Lib.atoi l = some n) (hl : l.length ≤ 9) : n < 1000000000000000000 := by
  obtain ⟨b0, r, e, q⟩ := Lib.atoi_cases h
  subst e
  rcases q with ⟨_, m, _, h1, rfl⟩ | ⟨_, m, _, h1, rfl⟩ | ⟨_, _, m, h1, rfl⟩
  · omega
  · have := Lib.decFrom_lt18 h1 (by simp at hl; omega); omega
  · have := Lib.decFrom_lt18 h1 (by omega); omega

theorem numR_long (s : ByteArray) (w : World) (h : 9 < s.size) :
    Calls Tryz.prog 73 #[.string s, .int .i64 9] w fun r w' => r = .returned (.tuple #[.int .i64 0, .bool false]) ∧ Below w.heap.size w w' := by
  have h' : (9 : Int) < (s.size : Int) := by omega
  go_enter Tryz.func73, Tryz.ntmps73
  go_wp2
  go_ret2
  exact ⟨rfl, Below.refl _ _⟩
theorem numR_bad (s : ByteArray) (w : World) (g : GlobN w) (h : s.size ≤ 9) (ha : Lib.atoi s.data.toList = none) :
    Calls Tryz.prog 73 #[.string s, .int .i64 9] w fun r w' => r = .returned (.tuple #[.int .i64 0, .bool false]) ∧ Below w.heap.size w w' := by
  have h' : (s.size : Int) ≤ 9 := by omega
  obtain ⟨q, hq⟩ := g.syn
  have A : Hid (Calls _ _ _ _ _) := Tryz.strconv_Atoi_err s (by omega) ha _ w hq (.inr ⟨_, _, rfl⟩)
  clear g ha hq
  go_enter Tryz.func73, Tryz.ntmps73
  go_wp2_with (go_at_call 88; refine Calls.mono A.out ?_; rintro r w1 ⟨N, rfl, _, _, hb1⟩)
  go_ret2
  exact ⟨rfl, hb1⟩
theorem numR_any (s : ByteArray) (n : Int) (w : World) (g : GlobN w) (h : s.size ≤ 9) (ha : Lib.atoi s.data.toList = some n) :
    Calls Tryz.prog 73 #[.string s, .int .i64 9] w fun r w' => ((¬ (0 ≤ n ∧ Lib.itoa n = s.data.toList) ∧ r = .returned (.tuple #[.int .i64 0, .bool false])) ∨ ((0 ≤ n ∧ Lib.itoa n = s.data.toList) ∧ r = .returned (.tuple #[.int .i64 n, .bool true]))) ∧ Below w.heap.size w w' := by
  have h' : (s.size : Int) ≤ 9 := by omega
  have hbd := atoi_bd ha (by rw [← Lib.size_eq]; exact h)
  have A : Hid (Calls Tryz.prog 88 #[.string s] w fun e w' => e = .returned (.tuple #[.int .i64 n, .nilIface]) ∧ Below w.heap.size w w') := by
    refine (Tryz.strconv_Atoi s n (by omega) ha w).mono ?_
    rintro e w' ⟨rfl, t, rfl⟩
    exact ⟨rfl, pl_bytes _ _ _⟩
  by_cases hn : n < 0
  · clear g ha
    go_enter Tryz.func73, Tryz.ntmps73
    go_wp2_with (go_at_call 88; refine Calls.mono A.out ?_; rintro r w1 ⟨rfl, hb1⟩)
    go_ret2
    exact ⟨.inl ⟨fun q => by omega, rfl⟩, hb1⟩
  · have hn0 : 0 ≤ n := by omega
    have I : Hid (∀ W, Below w.heap.size w W → Calls Tryz.prog 38 #[.int .i64 n] W fun e w' => e = .returned (.string (bs (Lib.itoa n))) ∧ Below W.heap.size W w') := fun W hW => itoa_all n W hn0 (by omega) (g.tab.step hW)
    clear ha
    by_cases he : bs (Lib.itoa n) = s
    · have hq : Lib.itoa n = s.data.toList := by rw [← he, bs_data]
      rw [he] at I
      clear he
      go_enter Tryz.func73, Tryz.ntmps73
      go_wp2_with (first
        | (go_at_call 88; refine Calls.mono A.out ?_; rintro r w1 ⟨rfl, hb1⟩)
        | (go_at_call 38; refine (I.out _ hb1).mono ?_; rintro r w2 ⟨rfl, hb2⟩))
      go_ret2
      exact ⟨.inr ⟨⟨hn0, hq⟩, rfl⟩, below_then hb1 hb2⟩
    · have hq : Lib.itoa n ≠ s.data.toList := fun q => he (pl_ext (by rw [bs_data]; exact q))
      have hne := pl_ne he
      generalize bs (Lib.itoa n) = t at I hne
      clear he
      go_enter Tryz.func73, Tryz.ntmps73
      go_wp2_with (first
        | (go_at_call 88; refine Calls.mono A.out ?_; rintro r w1 ⟨rfl, hb1⟩)
        | (go_at_call 38; refine (I.out _ hb1).mono ?_; rintro r w2 ⟨rfl, hb2⟩))
      go_ret2
      exact ⟨.inl ⟨fun q => hq q.2, rfl⟩, below_then hb1 hb2⟩
theorem numR_all (s : ByteArray) (w : World) (g : GlobN w) :
    Calls Tryz.prog 73 #[.string s, .int .i64 9] w fun r w' => ((numOf s.data.toList = none ∧ r = .returned (.tuple #[.int .i64 0, .bool false])) ∨ ∃ n, numOf s.data.toList = some n ∧ r = .returned (.tuple #[.int .i64 n, .bool true])) ∧ Below w.heap.size w w' := by
  have hsz : s.data.toList.length = s.size := (Lib.size_eq s).symm
  rcases Nat.lt_or_ge 9 s.size with h9 | h9
  · refine Calls.mono (numR_long s w h9) ?_
    rintro r w' ⟨q1, q2⟩
    exact ⟨.inl ⟨by unfold numOf; rw [if_neg (by omega)], q1⟩, q2⟩
  · cases ha : Lib.atoi s.data.toList with
    | none =>
      refine Calls.mono (numR_bad s w g h9 ha) ?_
      rintro r w' ⟨q1, q2⟩
      exact ⟨.inl ⟨by unfold numOf; rw [if_pos (by omega), ha], q1⟩, q2⟩
    | some n =>
      refine Calls.mono (numR_any s n w g h9 ha) ?_
      rintro r w' ⟨q1, q2⟩
      refine ⟨?_, q2⟩
      rcases q1 with ⟨k, rfl⟩ | ⟨k, rfl⟩
      · exact .inl ⟨by unfold numOf; rw [if_pos (by omega), ha]; dsimp only; rw [if_neg k], rfl⟩
      · exact .inr ⟨n, by unfold numOf; rw [if_pos (by omega), ha]; dsimp only; rw [if_pos k], rfl⟩

theorem slCut_no (s : ByteArray) (c : UInt8) (w : World) (hi : Lib.indexByte s.data.toList c < 0) :
    Calls Tryz.prog 72 #[.string s, .string ⟨#[c]⟩] w fun r w' => r = .returned (.tuple #[.string s, .string ⟨#[]⟩, .bool false]) ∧ Below w.heap.size w w' := by
  have I : Hid (Calls _ _ _ _ _) := Tryz.stringslite_Index_one s c w
  generalize Lib.indexByte s.data.toList c = i at hi I
  go_enter Tryz.func72, Tryz.ntmps72
  go_wp2_with (go_at_call 87; refine Calls.mono I.out ?_; rintro r w' ⟨rfl, rfl⟩)
  go_ret3
  exact ⟨rfl, Below.refl _ _⟩
theorem slCut_yes (s : ByteArray) (c : UInt8) (i : Nat) (w : World) (hi : Lib.indexByte s.data.toList c = i) (hl : s.size ≤ 10000000) :
    Calls Tryz.prog 72 #[.string s, .string ⟨#[c]⟩] w fun r w' => r = .returned (.tuple #[.string (bs (s.data.toList.take i)), .string (bs (s.data.toList.drop (i + 1))), .bool true]) ∧ Below w.heap.size w w' := by
  have hlt : i < s.size := by
    have := (Lib.indexByte_some hi).1
    have h2 := (List.getElem?_eq_some_iff.1 this).1
    rw [Lib.size_eq]; exact h2
  have e1 : s.extract 0 i = bs (s.data.toList.take i) := pl_ext (by rw [Lib.extract_from_zero, bs_data])
  have e2 : s.extract (i + 1) s.size = bs (s.data.toList.drop (i + 1)) := pl_ext (by rw [Lib.extract_to_end, bs_data])
  have I : Hid (Calls Tryz.prog 87 #[.string s, .string ⟨#[c]⟩] w fun r w' => r = .returned (.int .i64 i) ∧ w' = w) := by
    have := Tryz.stringslite_Index_one s c w
    rw [hi] at this
    exact this
  generalize bs (s.data.toList.take i) = s1 at e1 ⊢
  generalize bs (s.data.toList.drop (i + 1)) = s2 at e2 ⊢
  have c1 : (0 : Int) ≤ (i : Int) := by omega
  have c2 : (i : Int) ≤ (s.size : Int) := by omega
  have c3 : (0 : Int) ≤ (i : Int) + 1 := by omega
  have c4 : (i : Int) + 1 ≤ (s.size : Int) := by omega
  have E1 : Hid (_) := e1
  have E2 : Hid (_) := e2
  clear e1 e2 hi hlt
  go_enter Tryz.func72, Tryz.ntmps72
  go_wp2_with (go_at_call 87; refine Calls.mono I.out ?_; rintro r w' ⟨rfl, rfl⟩)
  go_region
  go_wp2
  go_ret3
  refine ⟨?_, pl_drew _ 1⟩
  simp
  exact ⟨E1.out, E2.out⟩
theorem pcut_no (s : ByteArray) (c : UInt8) (w : World) (hi : Lib.indexByte s.data.toList c < 0) :
    Calls Tryz.prog 54 #[.string s, .string ⟨#[c]⟩] w fun r w' => r = .returned (.tuple #[.string s, .string ⟨#[]⟩, .bool false]) ∧ Below w.heap.size w w' := by
  have C : Hid (Calls _ _ _ _ _) := slCut_no s c w hi
  clear hi
  go_enter Tryz.func54, Tryz.ntmps54
  go_wp2_with (go_at_call 72; refine Calls.mono C.out ?_; rintro r w' ⟨rfl, hb⟩)
  go_ret3
  exact ⟨rfl, hb⟩
theorem pcut_yes (s : ByteArray) (c : UInt8) (i : Nat) (w : World) (hi : Lib.indexByte s.data.toList c = i) (hl : s.size ≤ 10000000) :
    Calls Tryz.prog 54 #[.string s, .string ⟨#[c]⟩] w fun r w' => r = .returned (.tuple #[.string (bs (s.data.toList.take i)), .string (bs (s.data.toList.drop (i + 1))), .bool true]) ∧ Below w.heap.size w w' := by
  have C : Hid (Calls _ _ _ _ _) := slCut_yes s c i w hi hl
  clear hi
  generalize bs (s.data.toList.take i) = s1 at C ⊢
  generalize bs (s.data.toList.drop (i + 1)) = s2 at C ⊢
  go_enter Tryz.func54, Tryz.ntmps54
  go_wp2_with (go_at_call 72; refine Calls.mono C.out ?_; rintro r w' ⟨rfl, hb⟩)
  go_ret3
  exact ⟨rfl, hb⟩
end Go.Proofs.YtcaeafgkogfgdaaGreatDoor

/- Package number's Read at thirteen digits (cut out of CmN, which wip/gen/mkCmN.py wrote). -/
namespace Go.Proofs.YtcaeafgkogfgdaaGreatDoor
open Go Go.RowKit Go.Maps Cal
attribute [local go_sem] Oper.semAt_some

/-- the number that a text is: at most thirteen digits, without needless zeros -/
def numOfC (l : List UInt8) : Option Int := if l.length ≤ 13 then (match Lib.atoi l with | some n => if 0 ≤ n ∧ Lib.itoa n = l then some n else none | none => none) else none
theorem numOf_someC {l : List UInt8} {n : Int} (h : numOfC l = some n) : l.length ≤ 13 ∧ Lib.atoi l = some n ∧ 0 ≤ n ∧ Lib.itoa n = l := by
  unfold numOfC at h
  split at h
  · rename_i h9
    cases ha : Lib.atoi l with
    | none => rw [ha] at h; cases h
    | some m =>
      rw [ha] at h
      dsimp only at h
      split at h
      · rename_i hq
        cases h
        exact ⟨h9, rfl, hq⟩
      · cases h
  · cases h
theorem atoi_bdC {l : List UInt8} {n : Int} (h : Lib.atoi l = some n) (hl : l.length ≤ 13) : n < 1000000000000000000 := by
  obtain ⟨b0, r, e, q⟩ := Lib.atoi_cases h
  subst e
  rcases q with ⟨_, m, _, h1, rfl⟩ | ⟨_, m, _, h1, rfl⟩ | ⟨_, _, m, h1, rfl⟩
  · omega
  · have := Lib.decFrom_lt18 h1 (by simp at hl; omega); omega
  · have := Lib.decFrom_lt18 h1 (by omega); omega

theorem numR_longC (s : ByteArray) (w : World) (h : 13 < s.size) :
    Calls Tryz.prog 73 #[.string s, .int .i64 13] w fun r w' => r = .returned (.tuple #[.int .i64 0, .bool false]) ∧ Below w.heap.size w w' := by
  have h' : (13 : Int) < (s.size : Int) := by omega
  go_enter Tryz.func73, Tryz.ntmps73
  go_wp2
  go_ret2
  exact ⟨rfl, Below.refl _ _⟩
theorem numR_badC (s : ByteArray) (w : World) (g : GlobN w) (h : s.size ≤ 13) (ha : Lib.atoi s.data.toList = none) :
    Calls Tryz.prog 73 #[.string s, .int .i64 13] w fun r w' => r = .returned (.tuple #[.int .i64 0, .bool false]) ∧ Below w.heap.size w w' := by
  have h' : (s.size : Int) ≤ 13 := by omega
  obtain ⟨q, hq⟩ := g.syn
  have A : Hid (Calls _ _ _ _ _) := Tryz.strconv_Atoi_err s (by omega) ha _ w hq (.inr ⟨_, _, rfl⟩)
  clear g ha hq
  go_enter Tryz.func73, Tryz.ntmps73
  go_wp2_with (go_at_call 88; refine Calls.mono A.out ?_; rintro r w1 ⟨N, rfl, _, _, hb1⟩)
  go_ret2
  exact ⟨rfl, hb1⟩
theorem numR_anyC (s : ByteArray) (n : Int) (w : World) (g : GlobN w) (h : s.size ≤ 13) (ha : Lib.atoi s.data.toList = some n) :
    Calls Tryz.prog 73 #[.string s, .int .i64 13] w fun r w' => ((¬ (0 ≤ n ∧ Lib.itoa n = s.data.toList) ∧ r = .returned (.tuple #[.int .i64 0, .bool false])) ∨ ((0 ≤ n ∧ Lib.itoa n = s.data.toList) ∧ r = .returned (.tuple #[.int .i64 n, .bool true]))) ∧ Below w.heap.size w w' := by
  have h' : (s.size : Int) ≤ 13 := by omega
  have hbd := atoi_bdC ha (by rw [← Lib.size_eq]; exact h)
  have A : Hid (Calls Tryz.prog 88 #[.string s] w fun e w' => e = .returned (.tuple #[.int .i64 n, .nilIface]) ∧ Below w.heap.size w w') := by
    refine (Tryz.strconv_Atoi s n (by omega) ha w).mono ?_
    rintro e w' ⟨rfl, t, rfl⟩
    exact ⟨rfl, pl_bytes _ _ _⟩
  by_cases hn : n < 0
  · clear g ha
    go_enter Tryz.func73, Tryz.ntmps73
    go_wp2_with (go_at_call 88; refine Calls.mono A.out ?_; rintro r w1 ⟨rfl, hb1⟩)
    go_ret2
    exact ⟨.inl ⟨fun q => by omega, rfl⟩, hb1⟩
  · have hn0 : 0 ≤ n := by omega
    have I : Hid (∀ W, Below w.heap.size w W → Calls Tryz.prog 38 #[.int .i64 n] W fun e w' => e = .returned (.string (bs (Lib.itoa n))) ∧ Below W.heap.size W w') := fun W hW => itoa_all n W hn0 (by omega) (g.tab.step hW)
    clear ha
    by_cases he : bs (Lib.itoa n) = s
    · have hq : Lib.itoa n = s.data.toList := by rw [← he, bs_data]
      rw [he] at I
      clear he
      go_enter Tryz.func73, Tryz.ntmps73
      go_wp2_with (first
        | (go_at_call 88; refine Calls.mono A.out ?_; rintro r w1 ⟨rfl, hb1⟩)
        | (go_at_call 38; refine (I.out _ hb1).mono ?_; rintro r w2 ⟨rfl, hb2⟩))
      go_ret2
      exact ⟨.inr ⟨⟨hn0, hq⟩, rfl⟩, below_then hb1 hb2⟩
    · have hq : Lib.itoa n ≠ s.data.toList := fun q => he (pl_ext (by rw [bs_data]; exact q))
      have hne := pl_ne he
      generalize bs (Lib.itoa n) = t at I hne
      clear he
      go_enter Tryz.func73, Tryz.ntmps73
      go_wp2_with (first
        | (go_at_call 88; refine Calls.mono A.out ?_; rintro r w1 ⟨rfl, hb1⟩)
        | (go_at_call 38; refine (I.out _ hb1).mono ?_; rintro r w2 ⟨rfl, hb2⟩))
      go_ret2
      exact ⟨.inl ⟨fun q => hq q.2, rfl⟩, below_then hb1 hb2⟩
theorem numR_allC (s : ByteArray) (w : World) (g : GlobN w) :
    Calls Tryz.prog 73 #[.string s, .int .i64 13] w fun r w' => ((numOfC s.data.toList = none ∧ r = .returned (.tuple #[.int .i64 0, .bool false])) ∨ ∃ n, numOfC s.data.toList = some n ∧ r = .returned (.tuple #[.int .i64 n, .bool true])) ∧ Below w.heap.size w w' := by
  have hsz : s.data.toList.length = s.size := (Lib.size_eq s).symm
  rcases Nat.lt_or_ge 13 s.size with h9 | h9
  · refine Calls.mono (numR_longC s w h9) ?_
    rintro r w' ⟨q1, q2⟩
    exact ⟨.inl ⟨by unfold numOfC; rw [if_neg (by omega)], q1⟩, q2⟩
  · cases ha : Lib.atoi s.data.toList with
    | none =>
      refine Calls.mono (numR_badC s w g h9 ha) ?_
      rintro r w' ⟨q1, q2⟩
      exact ⟨.inl ⟨by unfold numOfC; rw [if_pos (by omega), ha], q1⟩, q2⟩
    | some n =>
      refine Calls.mono (numR_anyC s n w g h9 ha) ?_
      rintro r w' ⟨q1, q2⟩
      refine ⟨?_, q2⟩
      rcases q1 with ⟨k, rfl⟩ | ⟨k, rfl⟩
      · exact .inl ⟨by unfold numOfC; rw [if_pos (by omega), ha]; dsimp only; rw [if_neg k], rfl⟩
      · exact .inr ⟨n, by unfold numOfC; rw [if_pos (by omega), ha]; dsimp only; rw [if_pos k], rfl⟩

end Go.Proofs.YtcaeafgkogfgdaaGreatDoor

/- A rule as a value, its days in memory, the errors and names that package rule reads; contracts of isFreq, inBounds, isShaped, rises and Check. -/
namespace Go.Proofs.YtcaeafgkogfgdaaGreatDoor
open Go.RowKit Cal

/-- a rule as a value -/
def rv (f : ByteArray) (e : Int) (sl : Value) (c u : Int) : Value := .agg #[.string f, .int .i64 e, sl, .int .i64 c, .int .i64 u]
/-- a list of days in memory -/
def Days (w : World) (sl : Value) (ds : List Int) : Prop :=
  ∃ (a : Option Addr) (c : Nat), sl = .slice a ds.length c ∧ ds.length ≤ 20 ∧ ds.length ≤ c ∧
    ∀ (j : Nat) (h : j < ds.length), ∃ b : Nat, a = some ⟨b, 0, none⟩ ∧ b < w.heap.size ∧ w.cell? ⟨b, j, none⟩ = some (.int .i64 ds[j])
theorem Days.step {w w' : World} {sl : Value} {ds : List Int} (h : Days w sl ds) (hb : Below w.heap.size w w') : Days w' sl ds := by
  obtain ⟨a, c, h1, h2, h3, h4⟩ := h
  refine ⟨a, c, h1, h2, h3, fun j hj => ?_⟩
  obtain ⟨b, e, hl, hc⟩ := h4 j hj
  exact ⟨b, e, Nat.lt_of_lt_of_le hl hb.size, (hb.cell (p := ⟨b, j, none⟩) hl).trans hc⟩
theorem Days.nil (w : World) (c : Nat) : Days w (.slice none 0 c) [] := ⟨none, c, rfl, by simp, by simp, fun j h => absurd h (by simp)⟩

/-- what package rule reads -/
structure Glob (w : World) : Prop where
  name : ∃ p, w.cell? ⟨0, 0, none⟩ = some (.iface 152 (.pointer (some p)))
  bound : ∃ p, w.cell? ⟨1, 0, none⟩ = some (.iface 152 (.pointer (some p)))
  shape : ∃ p, w.cell? ⟨7, 0, none⟩ = some (.iface 152 (.pointer (some p)))
  order : ∃ p, w.cell? ⟨3, 0, none⟩ = some (.iface 152 (.pointer (some p)))
theorem Glob.step {w w' : World} (g : Glob w) (hb : Below w.heap.size w w') : Glob w' := by
  obtain ⟨⟨p1, h1⟩, ⟨p2, h2⟩, ⟨p3, h3⟩, ⟨p4, h4⟩⟩ := g
  exact ⟨⟨p1, cell_step h1 hb⟩, ⟨p2, cell_step h2 hb⟩, ⟨p3, cell_step h3 hb⟩, ⟨p4, cell_step h4 hb⟩⟩

/-- is it one of the five? -/
def isF (s : ByteArray) : Bool := s.toList == [111, 110, 99, 101] || s.toList == [100, 97, 105, 108, 121] || s.toList == [119, 101, 101, 107, 108, 121] || s.toList == [109, 111, 110, 116, 104, 108, 121] || s.toList == [121, 101, 97, 114, 108, 121]

/-- the bounds of a rule's numbers, and of its days -/
def bN (e c u : Int) : Bool := decide (1 ≤ e ∧ e ≤ 100 ∧ 0 ≤ c ∧ c ≤ 1000 ∧ -1 ≤ u ∧ u ≤ 73048)
def bD (ds : List Int) : Prop := ∀ d ∈ ds, 0 ≤ d ∧ d ≤ 6


/-- a rule's shape -/
def shp (o k : Bool) (e c u : Int) (n : Nat) : Prop := (o = true → e = 1 ∧ c = 0 ∧ u = -1) ∧ (k = false → n = 0) ∧ (c = 0 ∨ u = -1)

end Go.Proofs.YtcaeafgkogfgdaaGreatDoor

/- Contract of rule.Check: no error just where the rule is well. -/
namespace Go.Proofs.YtcaeafgkogfgdaaGreatDoor
open Go.RowKit Cal

/-- a rule's value, read -/
def rd (f : ByteArray) (e : Int) (ds : List Int) (c u : Int) : RV := ⟨f.toList, e, ds, c, u⟩
def Rise (ds : List Int) : Prop := ∀ (i : Nat) (h : i + 1 < ds.length), ds[i] < ds[i + 1]

theorem isF_iff (f : ByteArray) : isF f = true ↔ (f.toList = onceW ∨ f.toList = dailyW ∨ f.toList = weeklyW ∨ f.toList = monthlyW ∨ f.toList = yearlyW) := by
  unfold isF onceW dailyW weeklyW monthlyW yearlyW
  simp only [Bool.or_eq_true, beq_iff_eq, or_assoc]
theorem bN_iff (e c u : Int) : bN e c u = true ↔ (1 ≤ e ∧ e ≤ 100 ∧ 0 ≤ c ∧ c ≤ 1000 ∧ -1 ≤ u ∧ u ≤ 73048) := by unfold bN; simp
theorem well_of {f : ByteArray} {e c u : Int} {ds : List Int} (h1 : isF f = true) (h2 : bN e c u = true) (h3 : bD ds) (h4 : shp (f.toList == [111, 110, 99, 101]) (f.toList == [119, 101, 101, 107, 108, 121]) e c u ds.length) (h5 : Rise ds) : Well (rd f e ds c u) := by
  rw [isF_iff] at h1
  rw [bN_iff] at h2
  obtain ⟨s1, s2, s3⟩ := h4
  refine ⟨h1, h3, ⟨h2.1, h2.2.1⟩, ⟨h2.2.2.1, h2.2.2.2.1⟩, ⟨h2.2.2.2.2.1, h2.2.2.2.2.2⟩, fun h => s1 ?_, fun h => ?_, s3, h5⟩
  · rw [beq_iff_eq]; exact h
  · have := s2 (by rw [beq_eq_false_iff_ne]; exact h)
    exact List.length_eq_zero_iff.1 this
theorem of_well {f : ByteArray} {e c u : Int} {ds : List Int} (h : Well (rd f e ds c u)) : isF f = true ∧ bN e c u = true ∧ bD ds ∧ shp (f.toList == [111, 110, 99, 101]) (f.toList == [119, 101, 101, 107, 108, 121]) e c u ds.length ∧ Rise ds := by
  obtain ⟨w1, w2, w3, w4, w5, w6, w7, w8, w9⟩ := h
  refine ⟨(isF_iff f).2 w1, (bN_iff e c u).2 ⟨w3.1, w3.2, w4.1, w4.2, w5.1, w5.2⟩, w2, ⟨fun h => w6 ?_, fun h => ?_, w8⟩, w9⟩
  · rw [beq_iff_eq] at h; exact h
  · rw [beq_eq_false_iff_ne] at h
    have : ds = [] := w7 h
    rw [this]; rfl


end Go.Proofs.YtcaeafgkogfgdaaGreatDoor
