/- Plain mathematics of a day's text: ten signs, four digits, two and two, a line between; and how these signs are read. -/
import Derived.Test.YtpdcjnkgkpbdgaaGreatDoorMathP
import Derived.Lib.ItoaNum
import Derived.Lib.ItoaMem
import Derived.Shelf.LaysM
import Derived.Shelf.Strconv.Itoa3
import Derived.Test.YtpdcjnkgkpbdgaaGreatDoorProg
import Derived.Test.YtpdcjnkgkpbdgaaGreatDoorQaA
import Derived.Lib.SmallJoins
import Derived.Shelf.Strings.BuilderK
import Derived.Shelf.Strings.OnBuilder
import Derived.Shelf.Strconv.Atoi
import Derived.Shelf.Strings.Search3
import Derived.Shelf.Strings.Count
import Derived.Shelf.Strings.Search2
import Derived.Shelf.Strings.Split
import Derived.Shelf.Slices.Equal
import Derived.Shelf.Slices.Empties2
import Derived.Test.YtpdcjnkgkpbdgaaGreatDoorExpLP
import Derived.Lib.Join
import Derived.WalkKit
import Derived.Test.YtpdcjnkgkpbdgaaGreatDoorQaZ
import Derived.Deep.DeepCutAuto
import Derived.Maps.AppendAt
namespace Go.Proofs.YtpdcjnkgkpbdgaaGreatDoor.Cal
open Go

/-- a digit's sign -/
def dgt (k : Int) : UInt8 := UInt8.ofNat (48 + k.toNat)
/-- two digits -/
def two (k : Int) : List UInt8 := [dgt (k / 10), dgt (k % 10)]
/-- four digits -/
def four (k : Int) : List UInt8 := [dgt (k / 1000), dgt (k / 100 % 10), dgt (k / 10 % 10), dgt (k % 10)]
/-- a date's text -/
def txt (y m d : Int) : List UInt8 := four y ++ [45] ++ two m ++ [45] ++ two d

theorem itoa_four (y : Int) (h0 : 1000 ≤ y) (h1 : y ≤ 9999) : Lib.itoa y = four y := by
  obtain ⟨u, rfl⟩ : ∃ u : Nat, y = u := ⟨y.toNat, by omega⟩
  rw [Lib.itoa_nonneg, Lib.decDigits, dif_neg (by omega), Lib.decDigits, dif_neg (by omega), Lib.decDigits_two (by omega) (by omega)]
  unfold four dgt
  have e1 : u / 10 / 10 / 10 = ((u : Int) / 1000).toNat := by omega
  have e2 : u / 10 / 10 % 10 = ((u : Int) / 100 % 10).toNat := by omega
  have e3 : u / 10 % 10 = ((u : Int) / 10 % 10).toNat := by omega
  have e4 : u % 10 = ((u : Int) % 10).toNat := by omega
  rw [e1, e2, e3, e4]; rfl
theorem dec_low (k : Nat) (h : k < 10) : [48] ++ Lib.decDigits k = two k := by
  rw [Lib.decDigits_one h]; unfold two dgt
  have e1 : ((k : Int) / 10).toNat = 0 := by omega
  have e2 : ((k : Int) % 10).toNat = k := by omega
  rw [e1, e2]; rfl
theorem dec_two (k : Nat) (h0 : ¬ k < 10) (h1 : k < 100) : Lib.decDigits k = two k := by
  rw [Lib.decDigits_two h0 h1]; unfold two dgt
  have e1 : ((k : Int) / 10).toNat = k / 10 := by omega
  have e2 : ((k : Int) % 10).toNat = k % 10 := by omega
  rw [e1, e2]
theorem two_length (k : Int) : (two k).length = 2 := rfl
theorem four_length (k : Int) : (four k).length = 4 := rfl
theorem txt_length (y m d : Int) : (txt y m d).length = 10 := rfl
theorem dgt_nat (k : Int) (h0 : 0 ≤ k) (h1 : k ≤ 9) : (dgt k).toNat = 48 + k.toNat := by
  unfold dgt; rw [UInt8.toNat_ofNat']; omega
end Go.Proofs.YtpdcjnkgkpbdgaaGreatDoor.Cal

/- The library's own contracts of strconv.Itoa, laid at this program: a number's decimal digits, for every int; and, below a hundred, without a table. -/
namespace Go.Proofs
open Go.Shelf
def Tryz.laysM171_ren : Go.Shelf.Ren := ⟨fun | 171 => 48 | 243 => 89 | 246 => 138 | 283 => 176 | 284 => 177 | 285 => 178 | 286 => 179 | 129 => 203 | 317 => 207 | 318 => 208 | 319 => 209 | 320 => 210 | 337 => 228 | 338 => 229 | n => n, fun | 3 => 3 | 9 => 9 | 2 => 2 | 4 => 4 | 171 => 202 | 0 => 0 | 53 => 203 | 37 => 105 | 5 => 5 | 173 => 206 | 212 => 239 | 51 => 222 | 20 => 20 | 213 => 240 | 46 => 194 | 232 => 275 | 233 => 276 | n => n, fun | 17 => 13 | 18 => 16 | 19 => 17 | n => n⟩
theorem Tryz.laysM171 : Go.Proofs.LaysM.n171 Tryz.prog Tryz.laysM171_ren := {
  mixed := by kernel_rfl
  f129 := Tryz.func203.trans (congrArg some (by kernel_rfl))
  f171 := Tryz.func48.trans (congrArg some (by kernel_rfl))
  f243 := Tryz.func89.trans (congrArg some (by kernel_rfl))
  f246 := Tryz.func138.trans (congrArg some (by kernel_rfl))
  f283 := Tryz.func176.trans (congrArg some (by kernel_rfl))
  f284 := Tryz.func177.trans (congrArg some (by kernel_rfl))
  f285 := Tryz.func178.trans (congrArg some (by kernel_rfl))
  f286 := Tryz.func179.trans (congrArg some (by kernel_rfl))
  f317 := Tryz.func207.trans (congrArg some (by kernel_rfl))
  f318 := Tryz.func208.trans (congrArg some (by kernel_rfl))
  f319 := Tryz.func209.trans (congrArg some (by kernel_rfl))
  f320 := Tryz.func210.trans (congrArg some (by kernel_rfl))
  f337 := Tryz.func228.trans (congrArg some (by kernel_rfl))
  f338 := Tryz.func229.trans (congrArg some (by kernel_rfl))
  t0 := Tryz.underlying0
  a0 := Tryz.isAgg0
  z0 := Tryz.sizeOf0
  v0 := Tryz.zeroValue0
  t2 := Tryz.underlying2
  a2 := Tryz.isAgg2
  z2 := Tryz.sizeOf2
  v2 := Tryz.zeroValue2
  t3 := Tryz.underlying3
  a3 := Tryz.isAgg3
  z3 := Tryz.sizeOf3
  v3 := Tryz.zeroValue3
  t4 := Tryz.underlying4
  a4 := Tryz.isAgg4
  z4 := Tryz.sizeOf4
  v4 := Tryz.zeroValue4
  t5 := Tryz.underlying5
  a5 := Tryz.isAgg5
  z5 := Tryz.sizeOf5
  v5 := Tryz.zeroValue5
  t9 := Tryz.underlying9
  a9 := Tryz.isAgg9
  z9 := Tryz.sizeOf9
  v9 := Tryz.zeroValue9
  t20 := Tryz.underlying20
  a20 := Tryz.isAgg20
  z20 := Tryz.sizeOf20
  v20 := Tryz.zeroValue20
  t37 := Tryz.underlying105
  a37 := Tryz.isAgg105
  z37 := Tryz.sizeOf105
  v37 := Tryz.zeroValue105
  t46 := Tryz.underlying194
  a46 := Tryz.isAgg194
  z46 := Tryz.sizeOf194
  v46 := Tryz.zeroValue194
  t51 := Tryz.underlying222
  a51 := Tryz.isAgg222
  z51 := Tryz.sizeOf222
  v51 := Tryz.zeroValue222
  t53 := Tryz.underlying203
  a53 := Tryz.isAgg203
  z53 := Tryz.sizeOf203
  v53 := Tryz.zeroValue203
  t171 := Tryz.underlying202
  a171 := Tryz.isAgg202
  z171 := Tryz.sizeOf202
  v171 := Tryz.zeroValue202
  t173 := Tryz.underlying206
  a173 := Tryz.isAgg206
  z173 := Tryz.sizeOf206
  v173 := Tryz.zeroValue206
  t212 := Tryz.underlying239
  a212 := Tryz.isAgg239
  z212 := Tryz.sizeOf239
  v212 := Tryz.zeroValue239
  t213 := Tryz.underlying240
  a213 := Tryz.isAgg240
  z213 := Tryz.sizeOf240
  t232 := Tryz.underlying275
  a232 := Tryz.isAgg275
  z232 := Tryz.sizeOf275
  v232 := Tryz.zeroValue275
  t233 := Tryz.underlying276
  a233 := Tryz.isAgg276
  z233 := Tryz.sizeOf276
  v233 := Tryz.zeroValue276
  g17 := by kernel_rfl
  g18 := by kernel_rfl
  g19 := by kernel_rfl
  i0 := by kernel_rfl
  i2 := by kernel_rfl
  i3 := by kernel_rfl
  i4 := by kernel_rfl
  i5 := by kernel_rfl
  i9 := by kernel_rfl
  i20 := by kernel_rfl
  i37 := by kernel_rfl
  i46 := by kernel_rfl
  i51 := by kernel_rfl
  i53 := by kernel_rfl
  i171 := by kernel_rfl
  i173 := by kernel_rfl
  i212 := by kernel_rfl
  i232 := by kernel_rfl
  i233 := by kernel_rfl
  m17 := by kernel_rfl
  m18 := by kernel_rfl
  m19 := by kernel_rfl }
open Go.RowKit Go.Sort Go.Lib in
theorem Tryz.strconv_Itoa (n : Int) (h0 : -9223372036854775808 ≤ n) (h1 : n ≤ 9223372036854775807) (w : World) (htab : Lib.TabIs Tryz.prog w "internal/strconv.uint64pow10" .u64 Lib.pow10Tab) :
    Calls Tryz.prog 48 #[.int .i64 n] w fun e w' => e = .returned (.string ⟨(Lib.itoa n).toArray⟩) ∧ ∃ k os, w' = grow (w.drewN k) os := Any.strconv_Itoa Tryz.laysM171 n h0 h1 w htab
def Tryz.lays171_ren : Go.Shelf.Ren := ⟨fun | 171 => 48 | 243 => 89 | 246 => 138 | 283 => 176 | 284 => 177 | 285 => 178 | 286 => 179 | 129 => 203 | 317 => 207 | 318 => 208 | 319 => 209 | 320 => 210 | 337 => 228 | 338 => 229 | n => n, fun | 3 => 3 | 9 => 9 | 2 => 2 | 4 => 4 | 171 => 202 | 0 => 0 | 53 => 203 | 37 => 105 | 5 => 5 | 173 => 206 | 212 => 239 | 51 => 222 | 20 => 20 | 213 => 240 | 46 => 194 | 232 => 275 | 233 => 276 | n => n, fun | 17 => 13 | 18 => 16 | 19 => 17 | n => n⟩
theorem Tryz.lays171 : Go.Proofs.Lays.n171 Tryz.prog Tryz.lays171_ren := {
  mixed := by kernel_rfl
  f129 := Tryz.func203.trans (congrArg some (by kernel_rfl))
  f171 := Tryz.func48.trans (congrArg some (by kernel_rfl))
  f243 := Tryz.func89.trans (congrArg some (by kernel_rfl))
  f246 := Tryz.func138.trans (congrArg some (by kernel_rfl))
  f283 := Tryz.func176.trans (congrArg some (by kernel_rfl))
  f284 := Tryz.func177.trans (congrArg some (by kernel_rfl))
  f285 := Tryz.func178.trans (congrArg some (by kernel_rfl))
  f286 := Tryz.func179.trans (congrArg some (by kernel_rfl))
  f317 := Tryz.func207.trans (congrArg some (by kernel_rfl))
  f318 := Tryz.func208.trans (congrArg some (by kernel_rfl))
  f319 := Tryz.func209.trans (congrArg some (by kernel_rfl))
  f320 := Tryz.func210.trans (congrArg some (by kernel_rfl))
  f337 := Tryz.func228.trans (congrArg some (by kernel_rfl))
  f338 := Tryz.func229.trans (congrArg some (by kernel_rfl))
  t0 := Tryz.underlying0
  a0 := Tryz.isAgg0
  z0 := Tryz.sizeOf0
  v0 := Tryz.zeroValue0
  t2 := Tryz.underlying2
  a2 := Tryz.isAgg2
  z2 := Tryz.sizeOf2
  v2 := Tryz.zeroValue2
  t3 := Tryz.underlying3
  a3 := Tryz.isAgg3
  z3 := Tryz.sizeOf3
  v3 := Tryz.zeroValue3
  t4 := Tryz.underlying4
  a4 := Tryz.isAgg4
  z4 := Tryz.sizeOf4
  v4 := Tryz.zeroValue4
  t5 := Tryz.underlying5
  a5 := Tryz.isAgg5
  z5 := Tryz.sizeOf5
  v5 := Tryz.zeroValue5
  t9 := Tryz.underlying9
  a9 := Tryz.isAgg9
  z9 := Tryz.sizeOf9
  v9 := Tryz.zeroValue9
  t20 := Tryz.underlying20
  a20 := Tryz.isAgg20
  z20 := Tryz.sizeOf20
  v20 := Tryz.zeroValue20
  t37 := Tryz.underlying105
  a37 := Tryz.isAgg105
  z37 := Tryz.sizeOf105
  v37 := Tryz.zeroValue105
  t46 := Tryz.underlying194
  a46 := Tryz.isAgg194
  z46 := Tryz.sizeOf194
  v46 := Tryz.zeroValue194
  t51 := Tryz.underlying222
  a51 := Tryz.isAgg222
  z51 := Tryz.sizeOf222
  v51 := Tryz.zeroValue222
  t53 := Tryz.underlying203
  a53 := Tryz.isAgg203
  z53 := Tryz.sizeOf203
  v53 := Tryz.zeroValue203
  t171 := Tryz.underlying202
  a171 := Tryz.isAgg202
  z171 := Tryz.sizeOf202
  v171 := Tryz.zeroValue202
  t173 := Tryz.underlying206
  a173 := Tryz.isAgg206
  z173 := Tryz.sizeOf206
  v173 := Tryz.zeroValue206
  t212 := Tryz.underlying239
  a212 := Tryz.isAgg239
  z212 := Tryz.sizeOf239
  v212 := Tryz.zeroValue239
  t213 := Tryz.underlying240
  a213 := Tryz.isAgg240
  z213 := Tryz.sizeOf240
  t232 := Tryz.underlying275
  a232 := Tryz.isAgg275
  z232 := Tryz.sizeOf275
  v232 := Tryz.zeroValue275
  t233 := Tryz.underlying276
  a233 := Tryz.isAgg276
  z233 := Tryz.sizeOf276
  v233 := Tryz.zeroValue276
  g17 := by kernel_rfl
  g18 := by kernel_rfl
  g19 := by kernel_rfl }
open Go.RowKit Go.Sort Go.Lib in
theorem Tryz.strconv_Itoa_small (i : Nat) (hi : i < 100) (w : World) :
    Calls Tryz.prog 48 #[.int .i64 i] w fun e w' => e = .returned (.string ⟨(Lib.decDigits i).toArray⟩) ∧ w' = w := Any.strconv_Itoa_small Tryz.lays171 i hi w
end Go.Proofs

/- Contracts of package day's twoDigits and Text: a day's text is the date's ten signs; no day has the empty one. -/
namespace Go.Proofs.YtpdcjnkgkpbdgaaGreatDoor
open Go.RowKit Cal

theorem grow_below (w : World) (q : Nat) (os : Array Obj) : Below w.heap.size w (Sort.grow (w.drewN q) os) :=
  ⟨rfl, rfl, rfl, by simp [Sort.grow], fun k hk => by
    show (w.heap ++ os)[k]? = w.heap[k]?
    rw [Array.getElem?_append_left hk]⟩
theorem ret_str {a b : ByteArray} (h : a = b) : Ending.returned (.string a) = .returned (.string b) := by rw [h]
theorem gPow : Tryz.prog.globalNamed "internal/strconv.uint64pow10" = some 13 := by kernel_rfl
/-- the library's table of powers of ten -/
def Tab (w : World) : Prop := Lib.TabIs Tryz.prog w "internal/strconv.uint64pow10" .u64 Lib.pow10Tab
theorem Tab.step {w w' : World} (h : Tab w) (hb : Below w.heap.size w w') : Tab w' := Joins.tab_stays gPow h hb (Nat.le_refl _)

theorem itoa_year (y : Int) (w : World) (h0 : 1000 ≤ y) (h1 : y ≤ 9999) (ht : Tab w) :
    Calls Tryz.prog 48 #[.int .i64 y] w fun e w' => e = .returned (.string ⟨(four y).toArray⟩) ∧ Below w.heap.size w w' := by
  refine (Tryz.strconv_Itoa y (by omega) (by omega) w ht).mono ?_
  rintro e w' ⟨rfl, k, os, rfl⟩
  exact ⟨by rw [itoa_four y h0 h1], grow_below _ _ _⟩

theorem twoDigits_any (k : Int) (w : World) (h0 : 0 ≤ k) (h1 : k < 100) :
    Calls Tryz.prog 91 #[.int .i64 k] w fun e w' => e = .returned (.string ⟨(two k).toArray⟩) ∧ w' = w := by
  obtain ⟨u, rfl⟩ : ∃ u : Nat, k = u := ⟨k.toNat, by omega⟩
  by_cases hu : u < 10
  · have ht := dec_low u hu
    have hl : (Lib.decDigits u).length = 1 := by rw [Lib.decDigits_one hu]; rfl
    have HT : Hid (_) := ht
    clear ht
    go_enter Tryz.func91, Tryz.ntmps91
    go_wp2_with (go_at_call 48; refine (Tryz.strconv_Itoa_small u (by omega) _).mono ?_; rintro e w' ⟨rfl, rfl⟩)
    go_ret
    exact ⟨ret_str (by rw [← HT.out]; exact ByteArray.mk_append_mk [48] _), rfl⟩
  · have ht := dec_two u hu (by omega)
    have HT : Hid (_) := ht
    clear ht
    go_enter Tryz.func91, Tryz.ntmps91
    go_wp2_with (go_at_call 48; refine (Tryz.strconv_Itoa_small u (by omega) _).mono ?_; rintro e w' ⟨rfl, rfl⟩)
    go_ret
    exact ⟨ret_str (by rw [← HT.out]), rfl⟩

theorem text_ok (n y m d : Int) (w : World) (h : vld y m d) (hn : num y m d = n) (ht : Tab w) :
    Calls Tryz.prog 50 #[.int .i64 n] w fun e w' => e = .returned (.string ⟨(txt y m d).toArray⟩) ∧ Below w.heap.size w w' := by
  have hh := h
  obtain ⟨hy0, hy1, hm0, hm1, hd0, hd1⟩ := hh
  have hd31 := (dim_bd y m).2
  have hl4 := four_length y
  have hl2 := two_length m
  have hl3 := two_length d
  go_enter Tryz.func50, Tryz.ntmps50
  go_wp2_with (first
    | (go_at_call 90; refine (date_ok n y m d _ h hn).mono ?_; rintro e w' ⟨rfl, rfl⟩)
    | (go_at_call 48; refine (itoa_year y _ (by omega) (by omega) ht).mono ?_; rintro e w' ⟨rfl, hb⟩)
    | (go_at_call_of 91 (Value.int .i64 m); refine (twoDigits_any m _ (by omega) (by omega)).mono ?_; rintro e w' ⟨rfl, rfl⟩)
    | (go_at_call_of 91 (Value.int .i64 d); refine (twoDigits_any d _ (by omega) (by omega)).mono ?_; rintro e w' ⟨rfl, rfl⟩))
  go_ret
  exact ⟨ret_str (by unfold txt; simp [ByteArray.mk_append_mk]), hb⟩
end Go.Proofs.YtpdcjnkgkpbdgaaGreatDoor

/- The library's own contracts of strings.Join, strconv.Atoi, strings.Index and slices.Equal, laid at this program. -/
namespace Go.Proofs
open Go.Shelf
def Tryz.lays169_ren : Go.Shelf.Ren := ⟨fun | 169 => 73 | n => n, fun | 70 => 104 | 9 => 9 | 0 => 0 | 72 => 107 | 37 => 105 | 127 => 158 | 3 => 3 | 5 => 5 | n => n, fun | n => n⟩
theorem Tryz.lays169 : Go.Proofs.Lays.n169 Tryz.prog Tryz.lays169_ren := {
  mixed := by kernel_rfl
  f169 := Tryz.func73.trans (congrArg some (by kernel_rfl))
  t0 := Tryz.underlying0
  a0 := Tryz.isAgg0
  z0 := Tryz.sizeOf0
  v0 := Tryz.zeroValue0
  t3 := Tryz.underlying3
  a3 := Tryz.isAgg3
  z3 := Tryz.sizeOf3
  v3 := Tryz.zeroValue3
  t9 := Tryz.underlying9
  a9 := Tryz.isAgg9
  z9 := Tryz.sizeOf9
  v9 := Tryz.zeroValue9
  t37 := Tryz.underlying105
  a37 := Tryz.isAgg105
  z37 := Tryz.sizeOf105
  v37 := Tryz.zeroValue105
  t70 := Tryz.underlying104
  a70 := Tryz.isAgg104
  z70 := Tryz.sizeOf104
  v70 := Tryz.zeroValue104
  t72 := Tryz.underlying107
  a72 := Tryz.isAgg107
  z72 := Tryz.sizeOf107
  v72 := Tryz.zeroValue107
  t127 := Tryz.underlying158
  a127 := Tryz.isAgg158
  z127 := Tryz.sizeOf158
  v127 := Tryz.zeroValue158 }
theorem Tryz.Builder_Extra_169 : Builder.Extra Tryz.prog Tryz.lays169_ren := {
  sizeBuilder := by kernel_rfl
  liesBuilder := by kernel_rfl
  t5 := Tryz.underlying5
  a5 := Tryz.isAgg5
  z5 := Tryz.sizeOf5
  v5 := Tryz.zeroValue5
  infoByte := by kernel_rfl
  cellsByte := by kernel_rfl
  sizeByte := by kernel_rfl
  neB5 := by decide }
open Go.RowKit in
theorem Tryz.Builder_String_any_k (B b : Nat) (l : List UInt8) (w : World) (h : Lib.IsBuilderF 107 5 B b (Lib.byteCells l) w) (hBw : B ≤ w.heap.size) :
    Calls Tryz.prog 73 #[.pointer (some ⟨b, 0, none⟩)] w fun e w' => e = .returned (.string ⟨l.toArray⟩) ∧ (Lib.IsBuilderF 107 5 B b (Lib.byteCells l) w' ∧ Below B w w' ∧ Lib.OthersKept 5 (some b) w w') := Any.Builder_String_any_k Tryz.lays169 Tryz.Builder_Extra_169 B b l w h hBw
def Tryz.lays156_ren : Go.Shelf.Ren := ⟨fun | 156 => 51 | 165 => 92 | 166 => 72 | 169 => 73 | 240 => 117 | 241 => 142 | 276 => 163 | 277 => 181 | n => n, fun | 31 => 45 | 9 => 9 | 3 => 3 | 4 => 4 | 0 => 0 | 20 => 20 | 72 => 107 | 76 => 108 | 70 => 104 | 37 => 105 | 75 => 29 | 127 => 158 | 164 => 189 | 5 => 5 | 80 => 56 | n => n, fun | n => n⟩
theorem Tryz.lays156 : Go.Proofs.Lays.n156 Tryz.prog Tryz.lays156_ren := {
  mixed := by kernel_rfl
  f156 := Tryz.func51.trans (congrArg some (by kernel_rfl))
  f165 := Tryz.func92.trans (congrArg some (by kernel_rfl))
  f166 := Tryz.func72.trans (congrArg some (by kernel_rfl))
  f169 := Tryz.func73.trans (congrArg some (by kernel_rfl))
  f240 := Tryz.func117.trans (congrArg some (by kernel_rfl))
  f241 := Tryz.func142.trans (congrArg some (by kernel_rfl))
  f276 := Tryz.func163.trans (congrArg some (by kernel_rfl))
  f277 := Tryz.func181.trans (congrArg some (by kernel_rfl))
  t0 := Tryz.underlying0
  a0 := Tryz.isAgg0
  z0 := Tryz.sizeOf0
  v0 := Tryz.zeroValue0
  t3 := Tryz.underlying3
  a3 := Tryz.isAgg3
  z3 := Tryz.sizeOf3
  v3 := Tryz.zeroValue3
  t4 := Tryz.underlying4
  a4 := Tryz.isAgg4
  z4 := Tryz.sizeOf4
  v4 := Tryz.zeroValue4
  t9 := Tryz.underlying9
  a9 := Tryz.isAgg9
  z9 := Tryz.sizeOf9
  v9 := Tryz.zeroValue9
  t20 := Tryz.underlying20
  a20 := Tryz.isAgg20
  z20 := Tryz.sizeOf20
  v20 := Tryz.zeroValue20
  t31 := Tryz.underlying45
  a31 := Tryz.isAgg45
  z31 := Tryz.sizeOf45
  v31 := Tryz.zeroValue45
  t37 := Tryz.underlying105
  a37 := Tryz.isAgg105
  z37 := Tryz.sizeOf105
  v37 := Tryz.zeroValue105
  t70 := Tryz.underlying104
  a70 := Tryz.isAgg104
  z70 := Tryz.sizeOf104
  v70 := Tryz.zeroValue104
  t72 := Tryz.underlying107
  a72 := Tryz.isAgg107
  z72 := Tryz.sizeOf107
  v72 := Tryz.zeroValue107
  t75 := Tryz.underlying29
  a75 := Tryz.isAgg29
  z75 := Tryz.sizeOf29
  v75 := Tryz.zeroValue29
  t76 := Tryz.underlying108
  a76 := Tryz.isAgg108
  z76 := Tryz.sizeOf108
  v76 := Tryz.zeroValue108
  t127 := Tryz.underlying158
  a127 := Tryz.isAgg158
  z127 := Tryz.sizeOf158
  v127 := Tryz.zeroValue158
  t164 := Tryz.underlying189
  a164 := Tryz.isAgg189
  z164 := Tryz.sizeOf189
  v164 := Tryz.zeroValue189 }
theorem Tryz.Builder_Extra_156 : Builder.Extra Tryz.prog Tryz.lays156_ren := {
  sizeBuilder := by kernel_rfl
  liesBuilder := by kernel_rfl
  t5 := Tryz.underlying5
  a5 := Tryz.isAgg5
  z5 := Tryz.sizeOf5
  v5 := Tryz.zeroValue5
  infoByte := by kernel_rfl
  cellsByte := by kernel_rfl
  sizeByte := by kernel_rfl
  neB5 := by decide }
open Go.RowKit in
theorem Tryz.strings_Join_none (a : Option Addr) (c : Nat) (sep : ByteArray) (w : World) :
    Calls Tryz.prog 51 #[.slice a 0 c, .string sep] w fun e w' => e = .returned (.string ⟨#[]⟩) ∧ w' = w := Any.strings_Join_none Tryz.lays156 Tryz.Builder_Extra_156 a c sep w
open Go.RowKit in
theorem Tryz.strings_Join (bk o c : Nat) (xs : List ByteArray) (sep : ByteArray) (w : World) (hcells : ∀ (j : Nat) x, xs[j]? = some x → w.cell? ⟨bk, o + j, none⟩ = some (.string x)) (hbk : bk < w.heap.size) (hN : xs.length ≤ 140737488355328) (hcap : xs.length ≤ c) (hlen : (Lib.join (xs.map (·.data.toList)) sep.data.toList).length ≤ 140737488355328) :
    Calls Tryz.prog 51 #[.slice (some ⟨bk, o, none⟩) xs.length c, .string sep] w fun e w' => e = .returned (.string ⟨(Lib.join (xs.map (·.data.toList)) sep.data.toList).toArray⟩) ∧ Below w.heap.size w w' := Any.strings_Join Tryz.lays156 Tryz.Builder_Extra_156 bk o c xs sep w hcells hbk hN hcap hlen
def Tryz.lays172_ren : Go.Shelf.Ren := ⟨fun | 172 => 148 | 244 => 184 | 245 => 185 | 247 => 211 | 279 => 212 | 280 => 213 | 281 => 214 | 282 => 215 | 287 => 230 | 316 => 231 | 171 => 48 | 205 => 232 | 321 => 250 | 322 => 251 | 243 => 89 | 246 => 138 | 283 => 176 | 284 => 177 | 285 => 178 | 286 => 179 | 129 => 203 | 317 => 207 | 318 => 208 | 319 => 209 | 320 => 210 | 337 => 228 | 338 => 229 | n => n, fun | 9 => 9 | 3 => 3 | 75 => 29 | 76 => 108 | 4 => 4 | 5 => 5 | 167 => 241 | 37 => 105 | 0 => 0 | 85 => 242 | 2 => 2 | 168 => 244 | 53 => 203 | 175 => 258 | 46 => 194 | 210 => 262 | 127 => 158 | 145 => 280 | 143 => 278 | 21 => 21 | 171 => 202 | 173 => 206 | 212 => 239 | 51 => 222 | 20 => 20 | 213 => 240 | 232 => 275 | 233 => 276 | 80 => 56 | n => n, fun | 15 => 14 | 16 => 15 | 17 => 13 | 18 => 16 | 19 => 17 | n => n⟩
theorem Tryz.lays172 : Go.Proofs.Lays.n172 Tryz.prog Tryz.lays172_ren := {
  mixed := by kernel_rfl
  f129 := Tryz.func203.trans (congrArg some (by kernel_rfl))
  f171 := Tryz.func48.trans (congrArg some (by kernel_rfl))
  f172 := Tryz.func148.trans (congrArg some (by kernel_rfl))
  f205 := Tryz.func232.trans (congrArg some (by kernel_rfl))
  f243 := Tryz.func89.trans (congrArg some (by kernel_rfl))
  f244 := Tryz.func184.trans (congrArg some (by kernel_rfl))
  f245 := Tryz.func185.trans (congrArg some (by kernel_rfl))
  f246 := Tryz.func138.trans (congrArg some (by kernel_rfl))
  f247 := Tryz.func211.trans (congrArg some (by kernel_rfl))
  f279 := Tryz.func212.trans (congrArg some (by kernel_rfl))
  f280 := Tryz.func213.trans (congrArg some (by kernel_rfl))
  f281 := Tryz.func214.trans (congrArg some (by kernel_rfl))
  f282 := Tryz.func215.trans (congrArg some (by kernel_rfl))
  f283 := Tryz.func176.trans (congrArg some (by kernel_rfl))
  f284 := Tryz.func177.trans (congrArg some (by kernel_rfl))
  f285 := Tryz.func178.trans (congrArg some (by kernel_rfl))
  f286 := Tryz.func179.trans (congrArg some (by kernel_rfl))
  f287 := Tryz.func230.trans (congrArg some (by kernel_rfl))
  f316 := Tryz.func231.trans (congrArg some (by kernel_rfl))
  f317 := Tryz.func207.trans (congrArg some (by kernel_rfl))
  f318 := Tryz.func208.trans (congrArg some (by kernel_rfl))
  f319 := Tryz.func209.trans (congrArg some (by kernel_rfl))
  f320 := Tryz.func210.trans (congrArg some (by kernel_rfl))
  f321 := Tryz.func250.trans (congrArg some (by kernel_rfl))
  f322 := Tryz.func251.trans (congrArg some (by kernel_rfl))
  f337 := Tryz.func228.trans (congrArg some (by kernel_rfl))
  f338 := Tryz.func229.trans (congrArg some (by kernel_rfl))
  t0 := Tryz.underlying0
  a0 := Tryz.isAgg0
  z0 := Tryz.sizeOf0
  v0 := Tryz.zeroValue0
  t2 := Tryz.underlying2
  a2 := Tryz.isAgg2
  z2 := Tryz.sizeOf2
  v2 := Tryz.zeroValue2
  t3 := Tryz.underlying3
  a3 := Tryz.isAgg3
  z3 := Tryz.sizeOf3
  v3 := Tryz.zeroValue3
  t4 := Tryz.underlying4
  a4 := Tryz.isAgg4
  z4 := Tryz.sizeOf4
  v4 := Tryz.zeroValue4
  t5 := Tryz.underlying5
  a5 := Tryz.isAgg5
  z5 := Tryz.sizeOf5
  v5 := Tryz.zeroValue5
  t9 := Tryz.underlying9
  a9 := Tryz.isAgg9
  z9 := Tryz.sizeOf9
  v9 := Tryz.zeroValue9
  t20 := Tryz.underlying20
  a20 := Tryz.isAgg20
  z20 := Tryz.sizeOf20
  v20 := Tryz.zeroValue20
  t21 := Tryz.underlying21
  a21 := Tryz.isAgg21
  z21 := Tryz.sizeOf21
  v21 := Tryz.zeroValue21
  t37 := Tryz.underlying105
  a37 := Tryz.isAgg105
  z37 := Tryz.sizeOf105
  v37 := Tryz.zeroValue105
  t46 := Tryz.underlying194
  a46 := Tryz.isAgg194
  z46 := Tryz.sizeOf194
  v46 := Tryz.zeroValue194
  t51 := Tryz.underlying222
  a51 := Tryz.isAgg222
  z51 := Tryz.sizeOf222
  v51 := Tryz.zeroValue222
  t53 := Tryz.underlying203
  a53 := Tryz.isAgg203
  z53 := Tryz.sizeOf203
  v53 := Tryz.zeroValue203
  t75 := Tryz.underlying29
  a75 := Tryz.isAgg29
  z75 := Tryz.sizeOf29
  v75 := Tryz.zeroValue29
  t76 := Tryz.underlying108
  a76 := Tryz.isAgg108
  z76 := Tryz.sizeOf108
  v76 := Tryz.zeroValue108
  t85 := Tryz.underlying242
  a85 := Tryz.isAgg242
  z85 := Tryz.sizeOf242
  v85 := Tryz.zeroValue242
  t127 := Tryz.underlying158
  a127 := Tryz.isAgg158
  z127 := Tryz.sizeOf158
  v127 := Tryz.zeroValue158
  t143 := Tryz.underlying278
  a143 := Tryz.isAgg278
  z143 := Tryz.sizeOf278
  v143 := Tryz.zeroValue278
  t145 := Tryz.underlying280
  a145 := Tryz.isAgg280
  z145 := Tryz.sizeOf280
  v145 := Tryz.zeroValue280
  t167 := Tryz.underlying241
  a167 := Tryz.isAgg241
  z167 := Tryz.sizeOf241
  v167 := Tryz.zeroValue241
  t168 := Tryz.underlying244
  a168 := Tryz.isAgg244
  z168 := Tryz.sizeOf244
  v168 := Tryz.zeroValue244
  t171 := Tryz.underlying202
  a171 := Tryz.isAgg202
  z171 := Tryz.sizeOf202
  v171 := Tryz.zeroValue202
  t173 := Tryz.underlying206
  a173 := Tryz.isAgg206
  z173 := Tryz.sizeOf206
  v173 := Tryz.zeroValue206
  t175 := Tryz.underlying258
  a175 := Tryz.isAgg258
  z175 := Tryz.sizeOf258
  v175 := Tryz.zeroValue258
  t210 := Tryz.underlying262
  a210 := Tryz.isAgg262
  z210 := Tryz.sizeOf262
  v210 := Tryz.zeroValue262
  t212 := Tryz.underlying239
  a212 := Tryz.isAgg239
  z212 := Tryz.sizeOf239
  v212 := Tryz.zeroValue239
  t213 := Tryz.underlying240
  a213 := Tryz.isAgg240
  z213 := Tryz.sizeOf240
  t232 := Tryz.underlying275
  a232 := Tryz.isAgg275
  z232 := Tryz.sizeOf275
  v232 := Tryz.zeroValue275
  t233 := Tryz.underlying276
  a233 := Tryz.isAgg276
  z233 := Tryz.sizeOf276
  v233 := Tryz.zeroValue276
  g15 := by kernel_rfl
  g16 := by kernel_rfl
  g17 := by kernel_rfl
  g18 := by kernel_rfl
  g19 := by kernel_rfl }
open Go.RowKit in
theorem Tryz.strconv_Atoi (s : ByteArray) (n : Int) (hl : s.size ≤ 18) (h : Lib.atoi s.data.toList = some n) (w : World) :
    Calls Tryz.prog 148 #[.string s] w fun e w' => e = .returned (.tuple #[.int .i64 n, .nilIface]) ∧ ∃ t, w' = Lib.bytesWorld w 5 t := Any.strconv_Atoi Tryz.lays172 s n hl h w
def Tryz.lays143_ren : Go.Shelf.Ren := ⟨fun | 143 => 134 | 219 => 172 | 217 => 164 | 225 => 204 | 224 => 205 | 267 => 206 | 266 => 191 | 314 => 227 | n => n, fun | 9 => 9 | 3 => 3 | 4 => 4 | 5 => 5 | 46 => 194 | 146 => 256 | 51 => 222 | n => n, fun | 1 => 12 | n => n⟩
theorem Tryz.lays143 : Go.Proofs.Lays.n143 Tryz.prog Tryz.lays143_ren := {
  mixed := by kernel_rfl
  f143 := Tryz.func134.trans (congrArg some (by kernel_rfl))
  f217 := Tryz.func164.trans (congrArg some (by kernel_rfl))
  f219 := Tryz.func172.trans (congrArg some (by kernel_rfl))
  f224 := Tryz.func205.trans (congrArg some (by kernel_rfl))
  f225 := Tryz.func204.trans (congrArg some (by kernel_rfl))
  f266 := Tryz.func191.trans (congrArg some (by kernel_rfl))
  f267 := Tryz.func206.trans (congrArg some (by kernel_rfl))
  f314 := Tryz.func227.trans (congrArg some (by kernel_rfl))
  t3 := Tryz.underlying3
  a3 := Tryz.isAgg3
  z3 := Tryz.sizeOf3
  v3 := Tryz.zeroValue3
  t4 := Tryz.underlying4
  a4 := Tryz.isAgg4
  z4 := Tryz.sizeOf4
  v4 := Tryz.zeroValue4
  t5 := Tryz.underlying5
  a5 := Tryz.isAgg5
  z5 := Tryz.sizeOf5
  v5 := Tryz.zeroValue5
  t9 := Tryz.underlying9
  a9 := Tryz.isAgg9
  z9 := Tryz.sizeOf9
  v9 := Tryz.zeroValue9
  t46 := Tryz.underlying194
  a46 := Tryz.isAgg194
  z46 := Tryz.sizeOf194
  v46 := Tryz.zeroValue194
  t51 := Tryz.underlying222
  a51 := Tryz.isAgg222
  z51 := Tryz.sizeOf222
  v51 := Tryz.zeroValue222
  t146 := Tryz.underlying256
  a146 := Tryz.isAgg256
  z146 := Tryz.sizeOf256
  v146 := Tryz.zeroValue256
  g1 := by kernel_rfl }
open Go.RowKit Go.Lib in
theorem Tryz.strings_Index_one (s : ByteArray) (c : UInt8) (w : World) :
    Calls Tryz.prog 134 #[.string s, .string ⟨#[c]⟩] w fun e w' => e = .returned (.int .i64 (Lib.indexByte s.data.toList c)) ∧ w' = w := Any.strings_Index_one Tryz.lays143 s c w
def Tryz.lays138_ren : Go.Shelf.Ren := ⟨fun | 138 => 147 | 195 => 182 | 218 => 183 | 143 => 134 | 219 => 172 | 217 => 164 | 225 => 204 | 224 => 205 | 267 => 206 | 266 => 191 | 314 => 227 | n => n, fun | 9 => 9 | 3 => 3 | 4 => 4 | 5 => 5 | 0 => 0 | 46 => 194 | 146 => 256 | 51 => 222 | n => n, fun | 1 => 12 | n => n⟩
theorem Tryz.lays138 : Go.Proofs.Lays.n138 Tryz.prog Tryz.lays138_ren := {
  mixed := by kernel_rfl
  f138 := Tryz.func147.trans (congrArg some (by kernel_rfl))
  f143 := Tryz.func134.trans (congrArg some (by kernel_rfl))
  f195 := Tryz.func182.trans (congrArg some (by kernel_rfl))
  f217 := Tryz.func164.trans (congrArg some (by kernel_rfl))
  f218 := Tryz.func183.trans (congrArg some (by kernel_rfl))
  f219 := Tryz.func172.trans (congrArg some (by kernel_rfl))
  f224 := Tryz.func205.trans (congrArg some (by kernel_rfl))
  f225 := Tryz.func204.trans (congrArg some (by kernel_rfl))
  f266 := Tryz.func191.trans (congrArg some (by kernel_rfl))
  f267 := Tryz.func206.trans (congrArg some (by kernel_rfl))
  f314 := Tryz.func227.trans (congrArg some (by kernel_rfl))
  t0 := Tryz.underlying0
  a0 := Tryz.isAgg0
  z0 := Tryz.sizeOf0
  v0 := Tryz.zeroValue0
  t3 := Tryz.underlying3
  a3 := Tryz.isAgg3
  z3 := Tryz.sizeOf3
  v3 := Tryz.zeroValue3
  t4 := Tryz.underlying4
  a4 := Tryz.isAgg4
  z4 := Tryz.sizeOf4
  v4 := Tryz.zeroValue4
  t5 := Tryz.underlying5
  a5 := Tryz.isAgg5
  z5 := Tryz.sizeOf5
  v5 := Tryz.zeroValue5
  t9 := Tryz.underlying9
  a9 := Tryz.isAgg9
  z9 := Tryz.sizeOf9
  v9 := Tryz.zeroValue9
  t46 := Tryz.underlying194
  a46 := Tryz.isAgg194
  z46 := Tryz.sizeOf194
  v46 := Tryz.zeroValue194
  t51 := Tryz.underlying222
  a51 := Tryz.isAgg222
  z51 := Tryz.sizeOf222
  v51 := Tryz.zeroValue222
  t146 := Tryz.underlying256
  a146 := Tryz.isAgg256
  z146 := Tryz.sizeOf256
  v146 := Tryz.zeroValue256
  g1 := by kernel_rfl }
open Go.RowKit Go.Lib in
theorem Tryz.strings_Count_one (s : ByteArray) (c : UInt8) (w : World) :
    Calls Tryz.prog 147 #[.string s, .string ⟨#[c]⟩] w fun e w' => e = .returned (.int .i64 (Lib.countByte s.data.toList c)) ∧ w' = w := Any.strings_Count_one Tryz.lays138 s c w
def Tryz.lays219_ren : Go.Shelf.Ren := ⟨fun | 219 => 172 | 217 => 164 | 225 => 204 | 224 => 205 | 267 => 206 | 266 => 191 | 314 => 227 | n => n, fun | 9 => 9 | 3 => 3 | 4 => 4 | 5 => 5 | 46 => 194 | 146 => 256 | 51 => 222 | n => n, fun | 1 => 12 | n => n⟩
theorem Tryz.lays219 : Go.Proofs.Lays.n219 Tryz.prog Tryz.lays219_ren := {
  mixed := by kernel_rfl
  f217 := Tryz.func164.trans (congrArg some (by kernel_rfl))
  f219 := Tryz.func172.trans (congrArg some (by kernel_rfl))
  f224 := Tryz.func205.trans (congrArg some (by kernel_rfl))
  f225 := Tryz.func204.trans (congrArg some (by kernel_rfl))
  f266 := Tryz.func191.trans (congrArg some (by kernel_rfl))
  f267 := Tryz.func206.trans (congrArg some (by kernel_rfl))
  f314 := Tryz.func227.trans (congrArg some (by kernel_rfl))
  t3 := Tryz.underlying3
  a3 := Tryz.isAgg3
  z3 := Tryz.sizeOf3
  v3 := Tryz.zeroValue3
  t4 := Tryz.underlying4
  a4 := Tryz.isAgg4
  z4 := Tryz.sizeOf4
  v4 := Tryz.zeroValue4
  t5 := Tryz.underlying5
  a5 := Tryz.isAgg5
  z5 := Tryz.sizeOf5
  v5 := Tryz.zeroValue5
  t9 := Tryz.underlying9
  a9 := Tryz.isAgg9
  z9 := Tryz.sizeOf9
  v9 := Tryz.zeroValue9
  t46 := Tryz.underlying194
  a46 := Tryz.isAgg194
  z46 := Tryz.sizeOf194
  v46 := Tryz.zeroValue194
  t51 := Tryz.underlying222
  a51 := Tryz.isAgg222
  z51 := Tryz.sizeOf222
  v51 := Tryz.zeroValue222
  t146 := Tryz.underlying256
  a146 := Tryz.isAgg256
  z146 := Tryz.sizeOf256
  v146 := Tryz.zeroValue256
  g1 := by kernel_rfl }
open Go.RowKit Go.Lib in
theorem Tryz.stringslite_Index_one (s : ByteArray) (c : UInt8) (w : World) :
    Calls Tryz.prog 172 #[.string s, .string ⟨#[c]⟩] w fun e w' => e = .returned (.int .i64 (Lib.indexByte s.data.toList c)) ∧ w' = w := Any.stringslite_Index_one Tryz.lays219 s c w
def Tryz.lays221_ren : Go.Shelf.Ren := ⟨fun | 221 => 101 | 268 => 146 | 138 => 147 | 143 => 134 | 195 => 182 | 197 => 133 | 218 => 183 | 219 => 172 | 260 => 171 | 217 => 164 | 225 => 204 | 224 => 205 | 267 => 206 | 266 => 191 | 314 => 227 | n => n, fun | 9 => 9 | 3 => 3 | 31 => 45 | 4 => 4 | 0 => 0 | 105 => 167 | 21 => 21 | 5 => 5 | 46 => 194 | 119 => 223 | 139 => 226 | 138 => 225 | 146 => 256 | 51 => 222 | n => n, fun | 1 => 12 | 3 => 10 | 4 => 11 | n => n⟩
theorem Tryz.lays221 : Go.Proofs.Lays.n221 Tryz.prog Tryz.lays221_ren := {
  mixed := by kernel_rfl
  f138 := Tryz.func147.trans (congrArg some (by kernel_rfl))
  f143 := Tryz.func134.trans (congrArg some (by kernel_rfl))
  f195 := Tryz.func182.trans (congrArg some (by kernel_rfl))
  f197 := Tryz.func133.trans (congrArg some (by kernel_rfl))
  f217 := Tryz.func164.trans (congrArg some (by kernel_rfl))
  f218 := Tryz.func183.trans (congrArg some (by kernel_rfl))
  f219 := Tryz.func172.trans (congrArg some (by kernel_rfl))
  f221 := Tryz.func101.trans (congrArg some (by kernel_rfl))
  f224 := Tryz.func205.trans (congrArg some (by kernel_rfl))
  f225 := Tryz.func204.trans (congrArg some (by kernel_rfl))
  f260 := Tryz.func171.trans (congrArg some (by kernel_rfl))
  f266 := Tryz.func191.trans (congrArg some (by kernel_rfl))
  f267 := Tryz.func206.trans (congrArg some (by kernel_rfl))
  f268 := Tryz.func146.trans (congrArg some (by kernel_rfl))
  f314 := Tryz.func227.trans (congrArg some (by kernel_rfl))
  t0 := Tryz.underlying0
  a0 := Tryz.isAgg0
  z0 := Tryz.sizeOf0
  v0 := Tryz.zeroValue0
  t3 := Tryz.underlying3
  a3 := Tryz.isAgg3
  z3 := Tryz.sizeOf3
  v3 := Tryz.zeroValue3
  t4 := Tryz.underlying4
  a4 := Tryz.isAgg4
  z4 := Tryz.sizeOf4
  v4 := Tryz.zeroValue4
  t5 := Tryz.underlying5
  a5 := Tryz.isAgg5
  z5 := Tryz.sizeOf5
  v5 := Tryz.zeroValue5
  t9 := Tryz.underlying9
  a9 := Tryz.isAgg9
  z9 := Tryz.sizeOf9
  v9 := Tryz.zeroValue9
  t21 := Tryz.underlying21
  a21 := Tryz.isAgg21
  z21 := Tryz.sizeOf21
  v21 := Tryz.zeroValue21
  t31 := Tryz.underlying45
  a31 := Tryz.isAgg45
  z31 := Tryz.sizeOf45
  v31 := Tryz.zeroValue45
  t46 := Tryz.underlying194
  a46 := Tryz.isAgg194
  z46 := Tryz.sizeOf194
  v46 := Tryz.zeroValue194
  t51 := Tryz.underlying222
  a51 := Tryz.isAgg222
  z51 := Tryz.sizeOf222
  v51 := Tryz.zeroValue222
  t105 := Tryz.underlying167
  a105 := Tryz.isAgg167
  z105 := Tryz.sizeOf167
  v105 := Tryz.zeroValue167
  t119 := Tryz.underlying223
  a119 := Tryz.isAgg223
  z119 := Tryz.sizeOf223
  t138 := Tryz.underlying225
  a138 := Tryz.isAgg225
  z138 := Tryz.sizeOf225
  v138 := Tryz.zeroValue225
  t139 := Tryz.underlying226
  a139 := Tryz.isAgg226
  z139 := Tryz.sizeOf226
  v139 := Tryz.zeroValue226
  t146 := Tryz.underlying256
  a146 := Tryz.isAgg256
  z146 := Tryz.sizeOf256
  v146 := Tryz.zeroValue256
  g1 := by kernel_rfl
  g3 := by kernel_rfl
  g4 := by kernel_rfl }
end Go.Proofs

/- Words of one's own, gathered and joined: strings.Join, strconv.Itoa. -/
namespace Go.Proofs.YtpdcjnkgkpbdgaaGreatDoor
open Go.RowKit Cal

theorem info_str : (Tryz.prog.info? 9).map (fun i => (i.zero, i.size, i.bytes)) = some (some (.string ⟨#[]⟩), 1, 16) := by kernel_rfl
/-- a word as a value's bytes -/
def bs (l : List UInt8) : ByteArray := ⟨l.toArray⟩
def sv (l : List UInt8) : Value := .string (bs l)
theorem bs_data (l : List UInt8) : (bs l).data.toList = l := rfl

theorem join_any (v : Value) (base : Nat) (ws : List (List UInt8)) (sep : List UInt8) (w : World) (hx : ws ≠ []) (h : w.ownsRow base 9 1 v ws.length (ws.map sv)) (hN : ws.length ≤ 1000) (hlen : (Lib.join ws sep).length ≤ 100000) :
    Calls Tryz.prog 51 #[v, .string (bs sep)] w fun e w' => e = .returned (.string (bs (Lib.join ws sep))) ∧ Below w.heap.size w w' := by
  rcases h.2 with ⟨_, h0⟩ | ⟨g, cap, cur, rfl, hb, hg, hcap, hmax, hsz, htake⟩
  · exact absurd (List.length_eq_zero_iff.1 h0) hx
  · have hm : (ws.map bs).map (fun x => x.data.toList) = ws := by rw [List.map_map]; exact List.map_id'' (fun x => rfl) ws
    have hl : (ws.map bs).length = ws.length := List.length_map _
    have := Tryz.strings_Join g 0 cap (ws.map bs) (bs sep) w (fun j x hj => ?_) (Array.getElem?_eq_some_iff.1 hg).1 (by omega) (by omega) (by rw [hm, bs_data]; omega)
    · rw [hl, hm, bs_data] at this
      exact this
    · have hj' : ws[j]?.map bs = some x := by rw [← List.getElem?_map]; exact hj
      obtain ⟨y, hy, rfl⟩ := Option.map_eq_some_iff.1 hj'
      have hjl : j < ws.length := (List.getElem?_eq_some_iff.1 hy).1
      have := h.cellAt j (by omega)
      rw [Nat.zero_add, this, List.getElem?_map, hy]; rfl

theorem itoa_any (n : Int) (w : World) (h0 : 0 ≤ n) (h1 : n ≤ 100000) (ht : Tab w) :
    Calls Tryz.prog 48 #[.int .i64 n] w fun e w' => e = .returned (.string (bs (Lib.itoa n))) ∧ Below w.heap.size w w' := by
  refine (Tryz.strconv_Itoa n (by omega) (by omega) w ht).mono ?_
  rintro e w' ⟨rfl, k, os, rfl⟩
  exact ⟨rfl, grow_below _ _ _⟩

theorem drew_below (w : World) : Below w.heap.size w w.drew := ⟨rfl, rfl, rfl, Nat.le_refl _, fun _ _ => rfl⟩

/-- the words gathered so far -/
structure TR (W0 wx : World) (v : Value) (L : List (List UInt8)) : Prop where
  own : wx.ownsRow W0.heap.size 9 1 v L.length (L.map sv)
  below : Below W0.heap.size W0 wx

theorem own_step {w w' : World} {base : Nat} {e : TypeId} {size : Nat} {v : Value} {n : Nat} {xs : List Value} (h : w.ownsRow base e size v n xs) (hb : Below w.heap.size w w') : w'.ownsRow base e size v n xs := by
  refine ⟨h.1, ?_⟩
  rcases h.2 with h2 | ⟨g, cap, cur, hv, hg, hh, r⟩
  · exact Or.inl h2
  · exact Or.inr ⟨g, cap, cur, hv, hg, (hb.block g (Array.getElem?_eq_some_iff.1 hh).1).trans hh, r⟩
theorem TR.step {W0 wx w2 : World} {v : Value} {L : List (List UInt8)} (h : TR W0 wx v L) (hb : Below wx.heap.size wx w2) : TR W0 w2 v L := ⟨own_step h.own hb, below_then h.below hb⟩
theorem TR.app {W0 w2 w3 : World} {v v' : Value} {L : List (List UInt8)} {n : Nat} {xs : List Value} {o : Obj} (M : List (List UInt8)) (h : TR W0 w2 v L) (hn : n = (L ++ M).length) (hx : xs = (L ++ M).map sv)
    (hown : w3.ownsRow W0.heap.size 9 1 v' n xs) (hg : (w2.alloc o).grownBy w3 v.ownBlock) : TR W0 w3 v' (L ++ M) := by
  subst hn hx
  exact ⟨hown, (h.below.alloc h.below.size _).grown hg (by have := h.below.size; simp; omega) (fun j ej => (h.own.lt j ej).1)⟩
theorem TR.lit {W0 w2 : World} (hb : Below W0.heap.size W0 w2) (x y : ByteArray) : TR W0 (w2.alloc (.cells #[.string x, .string y] 9)) (.slice (some ⟨w2.heap.size, 0, none⟩) 2 2) [x.data.toList, y.data.toList] :=
  ⟨World.ownsRow_lit (size := 1) w2 #[.string x, .string y] 2 hb.size (by unfold maxLen; omega) rfl, hb.alloc hb.size _⟩

theorem TR.one {W0 w2 : World} (hb : Below W0.heap.size W0 w2) (x : ByteArray) : TR W0 (w2.alloc (.cells #[.string x] 9)) (.slice (some ⟨w2.heap.size, 0, none⟩) 1 1) [x.data.toList] :=
  ⟨World.ownsRow_lit (size := 1) w2 #[.string x] 1 hb.size (by unfold maxLen; omega) rfl, hb.alloc hb.size _⟩
theorem TR.nil (W0 : World) : TR W0 W0 (.slice none 0 0) [] := ⟨World.ownsRow_nil _ _ _ _, Below.refl _ _⟩
theorem TR.form {W0 wx : World} {v : Value} {L : List (List UInt8)} (h : TR W0 wx v L) : ∃ a cap, v = .slice a L.length cap := by
  rcases h.own.2 with ⟨rfl, h0⟩ | ⟨g, cap, cur, rfl, _⟩
  · rw [h0]; exact ⟨none, 0, rfl⟩
  · exact ⟨_, cap, rfl⟩
/-- one word more: the new cell -/
theorem word_cell (w : World) (x : ByteArray) : ∀ (j : Nat) (v : Value), [Value.string x][j]? = some v → (w.alloc (.cells #[.string x] 9)).cell? ((⟨w.heap.size, 0, none⟩ : Addr).add j) = some v := fun j v hv => by
  obtain ⟨hj, he⟩ := List.getElem?_eq_some_iff.1 hv
  have hj0 : j = 0 := by simpa using hj
  subst hj0
  have he' : Value.string x = v := by simpa using he
  rw [← he']
  exact (Boxed.new w 9 (.string x)).cell
theorem lens_le : ∀ (ws : List (List UInt8)) (K : Nat), (∀ y ∈ ws, y.length ≤ K) → Lib.lens ws ≤ ws.length * K
  | [], K, _ => by simp [Lib.lens]
  | x :: r, K, h => by
    have h1 := h x (List.mem_cons_self ..)
    have h2 := lens_le r K (fun y hy => h y (List.mem_cons_of_mem _ hy))
    have e : Lib.lens (x :: r) = x.length + Lib.lens r := by simp [Lib.lens]
    rw [e, List.length_cons, Nat.add_mul, Nat.one_mul]
    omega
theorem joinLen (ws : List (List UInt8)) (sep : List UInt8) (K : Nat) (h : ∀ y ∈ ws, y.length ≤ K) : (Lib.join ws sep).length ≤ ws.length * (K + sep.length) := by
  cases ws with
  | nil => simp [Lib.join_nil]
  | cons x r =>
    rw [Lib.join_length, List.length_cons]
    have h2 := lens_le (x :: r) K h
    rw [List.length_cons] at h2
    have e : (r.length + 1) * (K + sep.length) = (r.length + 1) * K + (sep.length * r.length + sep.length) := by
      rw [Nat.mul_add, Nat.mul_comm (r.length + 1) sep.length, Nat.mul_add, Nat.mul_one]
    omega
/-- any words joined -/
theorem joins_any (W0 : World) (v : Value) (ws : List (List UInt8)) (sep : List UInt8) (w : World) (h : TR W0 w v ws) (hN : ws.length ≤ 1000) (hlen : (Lib.join ws sep).length ≤ 100000) :
    Calls Tryz.prog 51 #[v, .string (bs sep)] w fun e w' => e = .returned (.string (bs (Lib.join ws sep))) ∧ Below w.heap.size w w' := by
  by_cases hx : ws = []
  · obtain ⟨a, cap, rfl⟩ := h.form
    subst hx
    refine (Tryz.strings_Join_none a cap (bs sep) w).mono ?_
    rintro r w' ⟨rfl, rfl⟩
    exact ⟨rfl, Below.refl _ _⟩
  · exact join_any v _ ws sep w hx h.own hN hlen
end Go.Proofs.YtpdcjnkgkpbdgaaGreatDoor

/- Package event's Fields, Get, listText and Text: an event's parts, one behind the other. -/
namespace Go.Proofs.YtpdcjnkgkpbdgaaGreatDoor
open Go Go.RowKit Cal
attribute [local go_sem] Oper.semAt_some

/-- the fields' names -/
def fldB : Nat → ByteArray
  | 0 => ⟨#[116, 105, 116, 108, 101]⟩
  | 1 => ⟨#[115, 116, 97, 114, 116]⟩
  | 2 => ⟨#[108, 111, 110, 103]⟩
  | 3 => ⟨#[114, 117, 108, 101]⟩
  | 4 => ⟨#[115, 107, 105, 112, 115]⟩
  | _ => ⟨#[109, 111, 118, 101, 115]⟩
/-- the row of the fields' names -/
def fldO : Obj := .cells #[.string ⟨#[116, 105, 116, 108, 101]⟩, .string ⟨#[115, 116, 97, 114, 116]⟩, .string ⟨#[108, 111, 110, 103]⟩, .string ⟨#[114, 117, 108, 101]⟩, .string ⟨#[115, 107, 105, 112, 115]⟩, .string ⟨#[109, 111, 118, 101, 115]⟩] 9
theorem fld_cell (w : World) (i : Nat) (h : i < 6) : (w.alloc fldO).cell? ⟨w.heap.size, i, none⟩ = some (.string (fldB i)) := by
  unfold fldO
  rw [World.cell?_alloc_new]
  match i, h with
  | 0, _ => rfl
  | 1, _ => rfl
  | 2, _ => rfl
  | 3, _ => rfl
  | 4, _ => rfl
  | 5, _ => rfl
theorem fields_any (w : World) : Calls Tryz.prog 22 #[] w fun r w' => r = .returned (.slice (some ⟨w.heap.size, 0, none⟩) 6 6) ∧ w' = w.alloc fldO := by
  unfold fldO
  go_enter Tryz.func22, Tryz.ntmps22
  go_wp2
  go_ret
  exact ⟨rfl, rfl⟩

set_option maxHeartbeats 1600000 in
set_option maxRecDepth 100000 in
theorem listTextI_any (ds : List Int) (sl : Value) (tx : Int → List UInt8) (w : World) (hd : Ints w sl ds) (h20 : ds.length ≤ 60) (hl : ∀ x ∈ ds, (tx x).length ≤ 30)
    (hc : ∀ x ∈ ds, ∀ W, Below w.heap.size w W → Calls Tryz.prog 50 #[.int .i64 x] W fun r w' => r = .returned (.string (bs (tx x))) ∧ Below W.heap.size W w') :
    Calls Tryz.prog 64 #[sl, .func (.func 50) #[] #[]] w fun r w' => r = .returned (.string (bs (Lib.join (ds.map tx) [44]))) ∧ Below w.heap.size w w' := by
  obtain ⟨a, cap, rfl, _, hcap, hcell⟩ := hd
  obtain ⟨i0, hi, hz0, hz1, hz2⟩ := info_parts info_str
  have HC : Hid (_) := hcell
  have HT : Hid (_) := hc
  have HL : Hid (_) := hl
  clear hcell hc hl
  go_enter Tryz.func64, Tryz.ntmps64
  go_wp2
  go_loopw [5, 7, 10] (fun v _ i wr => ∃ m : Nat, m ≤ ds.length ∧ i = .int .i64 m ∧ Hid (TR w wr v ((ds.map tx).take m))) (fun _ _ i _ => ds.length - (intOf i).toNat)
  case atStart => exact ⟨0, Nat.zero_le _, rfl, TR.nil w⟩
  case round =>
    obtain ⟨m, hm, rfl, HO⟩ := hrel
    by_cases hlt : m < ds.length
    · obtain ⟨blk, rfl, hblk, hcl⟩ := HC.out m hlt
      have hc1 := cell_step hcl HO.out.below
      have HN : Hid ((ds.map tx).take (m + 1) = (ds.map tx).take m ++ [tx ds[m]]) := by
        show _ = _
        rw [List.take_succ_eq_append_getElem (by simpa using hlt)]; simp
      have hcall := HT.out ds[m] (List.getElem_mem hlt) wr HO.out.below
      have hlen : ((ds.map tx).take m).length = m := by simp; omega
      clear HC HT HL hcl
      generalize ds[m] = x at hc1 HN hcall
      generalize (ds.map tx).take m = L at HO HN hlen
      obtain ⟨oa, oc, rfl⟩ := HO.out.form
      rw [hlen] at HO
      have HLN : Hid (L.length = m) := hlen
      have HCL : Hid (_) := hcall
      generalize hbt : bs (tx x) = bt at HCL
      have HBT : Hid (bs (tx x) = bt) := hbt
      clear hlen hcall hbt
      rw [HLN.out]
      go_wp2_with (first
        | (go_at_call 50; refine Calls.mono HCL.out ?_; rintro r w2 ⟨rfl, hb2⟩; have T2 : Hid (TR w w2 (.slice oa m oc) L) := HO.out.step hb2; have NC : Hid (_) := word_cell w2 bt; have hz2' : w.heap.size ≤ w2.heap.size := T2.out.below.size)
        | (at_builtin; refine wpList_append_own _ rfl _ _ 45 rfl w.heap.size 9 i0 (.string ⟨#[]⟩) 1 16 Tryz.underlying45 hi hz0 hz1 hz2 rfl (by decide) _ _ _ rfl (show World.ownsRow _ _ _ _ _ m (L.map sv) by have := T2.out.own.alloc (.cells #[.string bt] 9); rwa [HLN.out] at this) ⟨w2.heap.size, 0, none⟩ 1 1 [.string bt] rfl rfl NC.out (fun v hv => by rw [List.mem_singleton.1 hv]; rfl) (by unfold maxLen; omega) (by omega) (by simp; omega) ?_; intro v' w3 hown' hgrow _; have T3 : Hid (TR w w3 v' (L ++ [tx x])) := TR.app [tx x] T2.out (by rw [List.length_append, HLN.out]; rfl) (by rw [List.map_append, ← HBT.out]; rfl) hown' hgrow; obtain ⟨g', cap', rfl⟩ := ownsRow_succ hown'; clear hown' hgrow)
        | go_in)
      go_roundw
      case rel => exact ⟨m + 1, by omega, by go_num, by rw [HN.out]; exact T3.out⟩
      case measure => simp [intOf]; omega
    · have HE : Hid ((ds.map tx).take m = ds.map tx) := List.take_of_length_le (by simp; omega)
      rw [HE.out] at HO
      have hle : (Lib.join (ds.map tx) [44]).length ≤ 100000 := by
        have := joinLen (ds.map tx) [44] 30 (fun y hy => by obtain ⟨x, hx, rfl⟩ := List.mem_map.1 hy; exact HL.out x hx)
        simp at this
        have h31 : ds.length * 31 ≤ 60 * 31 := Nat.mul_le_mul_right _ h20
        omega
      have J : Hid (_) := joins_any w _ (ds.map tx) [44] wr HO.out (by simp; omega) hle
      obtain ⟨oa, oc, rfl⟩ := HO.out.form
      rw [List.length_map] at HO J ⊢
      clear HC HT HL hle
      unfold bs at J
      go_wp2_with (go_at_call 51; refine Calls.mono J.out ?_; rintro r w2 ⟨rfl, hb2⟩)
      go_ret
      exact ⟨rfl, below_then HO.out.below hb2⟩
theorem get_title (E : EV) (ra : Option Addr) (rn rc : Nat) (sa : Option Addr) (sn sc : Nat) (ma : Option Addr) (mn mc : Nat) (w : World) :
    Calls Tryz.prog 24 #[ev E (.slice ra rn rc) (.slice sa sn sc) (.slice ma mn mc), .string (fldB 0)] w fun r w' => r = .returned (.string E.ti) ∧ Below w.heap.size w w' := by
  obtain ⟨idn, ti, st, lg, f, e, ds, c, u, sk, mv⟩ := E
  unfold ev fldB
  dsimp only
  go_enter Tryz.func24, Tryz.ntmps24
  go_wp2
  go_ret
  exact ⟨rfl, below_alloc _ _⟩
theorem get_start (E : EV) (ra : Option Addr) (rn rc : Nat) (sa : Option Addr) (sn sc : Nat) (ma : Option Addr) (mn mc : Nat) (b : ByteArray) (w : World)
    (h : ∀ W, Below w.heap.size w W → Calls Tryz.prog 50 #[.int .i64 E.st] W fun r w' => r = .returned (.string b) ∧ Below W.heap.size W w') :
    Calls Tryz.prog 24 #[ev E (.slice ra rn rc) (.slice sa sn sc) (.slice ma mn mc), .string (fldB 1)] w fun r w' => r = .returned (.string b) ∧ Below w.heap.size w w' := by
  obtain ⟨idn, ti, st, lg, f, e, ds, c, u, sk, mv⟩ := E
  unfold ev fldB
  dsimp only at h ⊢
  have H : Hid (_) := h _ (below_alloc w (.cells #[.string idn, .string ti, .int .i64 st, .int .i64 lg, .string f, .int .i64 e, .slice ra rn rc, .int .i64 c, .int .i64 u, .slice sa sn sc, .slice ma mn mc] 37))
  clear h
  go_enter Tryz.func24, Tryz.ntmps24
  go_wp2_with (go_at_call 50; refine Calls.mono H.out ?_; rintro r w1 ⟨rfl, hb1⟩)
  go_ret
  exact ⟨rfl, below_then (below_alloc _ _) hb1⟩
theorem get_long (E : EV) (ra : Option Addr) (rn rc : Nat) (sa : Option Addr) (sn sc : Nat) (ma : Option Addr) (mn mc : Nat) (b : ByteArray) (w : World)
    (h : ∀ W, Below w.heap.size w W → Calls Tryz.prog 48 #[.int .i64 E.lg] W fun r w' => r = .returned (.string b) ∧ Below W.heap.size W w') :
    Calls Tryz.prog 24 #[ev E (.slice ra rn rc) (.slice sa sn sc) (.slice ma mn mc), .string (fldB 2)] w fun r w' => r = .returned (.string b) ∧ Below w.heap.size w w' := by
  obtain ⟨idn, ti, st, lg, f, e, ds, c, u, sk, mv⟩ := E
  unfold ev fldB
  dsimp only at h ⊢
  have H : Hid (_) := h _ (below_alloc w (.cells #[.string idn, .string ti, .int .i64 st, .int .i64 lg, .string f, .int .i64 e, .slice ra rn rc, .int .i64 c, .int .i64 u, .slice sa sn sc, .slice ma mn mc] 37))
  clear h
  go_enter Tryz.func24, Tryz.ntmps24
  go_wp2_with (go_at_call 48; refine Calls.mono H.out ?_; rintro r w1 ⟨rfl, hb1⟩)
  go_ret
  exact ⟨rfl, below_then (below_alloc _ _) hb1⟩
theorem get_rule (E : EV) (ra : Option Addr) (rn rc : Nat) (sa : Option Addr) (sn sc : Nat) (ma : Option Addr) (mn mc : Nat) (b : ByteArray) (w : World)
    (h : ∀ W, Below w.heap.size w W → Calls Tryz.prog 13 #[.agg #[.string E.f, .int .i64 E.e, .slice ra rn rc, .int .i64 E.c, .int .i64 E.u]] W fun r w' => r = .returned (.string b) ∧ Below W.heap.size W w') :
    Calls Tryz.prog 24 #[ev E (.slice ra rn rc) (.slice sa sn sc) (.slice ma mn mc), .string (fldB 3)] w fun r w' => r = .returned (.string b) ∧ Below w.heap.size w w' := by
  obtain ⟨idn, ti, st, lg, f, e, ds, c, u, sk, mv⟩ := E
  unfold ev fldB
  dsimp only at h ⊢
  have H : Hid (_) := h _ (below_alloc w (.cells #[.string idn, .string ti, .int .i64 st, .int .i64 lg, .string f, .int .i64 e, .slice ra rn rc, .int .i64 c, .int .i64 u, .slice sa sn sc, .slice ma mn mc] 37))
  clear h
  go_enter Tryz.func24, Tryz.ntmps24
  go_wp2_with (go_at_call 13; refine Calls.mono H.out ?_; rintro r w1 ⟨rfl, hb1⟩)
  go_ret
  exact ⟨rfl, below_then (below_alloc _ _) hb1⟩
theorem get_skips (E : EV) (ra : Option Addr) (rn rc : Nat) (sa : Option Addr) (sn sc : Nat) (ma : Option Addr) (mn mc : Nat) (b : ByteArray) (w : World)
    (h : ∀ W, Below w.heap.size w W → Calls Tryz.prog 64 #[.slice sa sn sc, .func (.func 50) #[] #[]] W fun r w' => r = .returned (.string b) ∧ Below W.heap.size W w') :
    Calls Tryz.prog 24 #[ev E (.slice ra rn rc) (.slice sa sn sc) (.slice ma mn mc), .string (fldB 4)] w fun r w' => r = .returned (.string b) ∧ Below w.heap.size w w' := by
  obtain ⟨idn, ti, st, lg, f, e, ds, c, u, sk, mv⟩ := E
  unfold ev fldB
  dsimp only at h ⊢
  have H : Hid (_) := h _ (below_alloc w (.cells #[.string idn, .string ti, .int .i64 st, .int .i64 lg, .string f, .int .i64 e, .slice ra rn rc, .int .i64 c, .int .i64 u, .slice sa sn sc, .slice ma mn mc] 37))
  clear h
  go_enter Tryz.func24, Tryz.ntmps24
  go_wp2_with (go_at_call 64; refine Calls.mono H.out ?_; rintro r w1 ⟨rfl, hb1⟩)
  go_ret
  exact ⟨rfl, below_then (below_alloc _ _) hb1⟩
theorem get_moves (E : EV) (ra : Option Addr) (rn rc : Nat) (sa : Option Addr) (sn sc : Nat) (ma : Option Addr) (mn mc : Nat) (b : ByteArray) (w : World)
    (h : ∀ W, Below w.heap.size w W → Calls Tryz.prog 65 #[.slice ma mn mc, .func (.func 66) #[] #[]] W fun r w' => r = .returned (.string b) ∧ Below W.heap.size W w') :
    Calls Tryz.prog 24 #[ev E (.slice ra rn rc) (.slice sa sn sc) (.slice ma mn mc), .string (fldB 5)] w fun r w' => r = .returned (.string b) ∧ Below w.heap.size w w' := by
  obtain ⟨idn, ti, st, lg, f, e, ds, c, u, sk, mv⟩ := E
  unfold ev fldB
  dsimp only at h ⊢
  have H : Hid (_) := h _ (below_alloc w (.cells #[.string idn, .string ti, .int .i64 st, .int .i64 lg, .string f, .int .i64 e, .slice ra rn rc, .int .i64 c, .int .i64 u, .slice sa sn sc, .slice ma mn mc] 37))
  clear h
  go_enter Tryz.func24, Tryz.ntmps24
  go_wp2_with (go_at_call 65; refine Calls.mono H.out ?_; rintro r w1 ⟨rfl, hb1⟩)
  go_ret
  exact ⟨rfl, below_then (below_alloc _ _) hb1⟩

set_option maxHeartbeats 1600000 in
set_option maxRecDepth 100000 in
/-- an event's text, out of the texts of its fields -/
theorem etext_of (E : EV) (sl skv mvv : Value) (ps : List (List UInt8)) (s : Nat → Addr) (w : World) (g : GlobK s w) (hd : Days w sl E.ds) (hs : Ints w skv E.sk) (hm : Movs w mvv E.mv) (h30 : E.id.size ≤ 60) (h60 : E.ti.size ≤ 60) (hw : EW E) (hps : ps.length = 6) (hpl : ∀ p ∈ ps, p.length ≤ 10000)
    (hget : ∀ (i : Nat), i < 6 → ∀ (W : World), Below w.heap.size w W → Calls Tryz.prog 24 #[ev E sl skv mvv, .string (fldB i)] W fun r w' => r = .returned (.string (bs (ps.getD i []))) ∧ Below W.heap.size W w') :
    Calls Tryz.prog 20 #[ev E sl skv mvv] w fun r w' => r = .returned (.string (bs (Lib.join (E.id.data.toList :: ps) [124]))) ∧ Below w.heap.size w w' := by
  have hA := below_alloc w (.cells #[.string E.id, .string E.ti, .int .i64 E.st, .int .i64 E.lg, .string E.f, .int .i64 E.e, sl, .int .i64 E.c, .int .i64 E.u, skv, mvv] 37)
  have hB := EB.new w E sl skv mvv
  have CK : Calls Tryz.prog 18 #[ev E sl skv mvv] _ _ := evCheck_k E sl skv mvv 0 s _ (g.step hA) (hd.step hA) (hs.step hA) (hm.step hA) h30 h60 (by obtain ⟨k, hk⟩ := evK_ex E; have := (evK_0 hk).2 hw; subst this; exact hk)
  rw [errV_0] at CK
  obtain ⟨ra, rc, rfl, _⟩ := hd
  obtain ⟨sa, sc, rfl, _⟩ := hs
  obtain ⟨ma, mc, rfl, _⟩ := hm
  obtain ⟨i0, hi, hz0, hz1, hz2⟩ := info_parts info_str
  have HCK : Hid (Calls _ _ _ _ _) := CK
  have HG : Hid (_) := hget
  have HPL : Hid (_) := hpl
  have HPS : Hid (_) := hps
  clear CK hget g hw hpl hps
  obtain ⟨idn, ti, st, lg, f, e, ds, c, u, sk, mv⟩ := E
  unfold ev EB at *
  dsimp only at *
  have HA : Hid (_) := hA
  clear hA
  generalize hw0 : w.alloc (.cells #[.string idn, .string ti, .int .i64 st, .int .i64 lg, .string f, .int .i64 e, .slice ra ds.length rc, .int .i64 c, .int .i64 u, .slice sa sk.length sc, .slice ma mv.length mc] 37) = w0 at HCK HA hB
  obtain ⟨x0, x1, x2, x3, x4, x5, x6, x7, x8, x9, x10⟩ := blk11 hB
  have BX : Hid (∀ W, Below w0.heap.size w0 W → _) := fun W h => blk11 ((h.block _ (Array.getElem?_eq_some_iff.1 hB).1).trans hB)
  clear hB
  have FA : Hid (∀ W, _) := fun W => fields_any W
  go_enter Tryz.func20, Tryz.ntmps20
  go_upto_region 4 with (go_at_call 18; refine Calls.mono HCK.out ?_; rintro r w1 ⟨rfl, hb1⟩; obtain ⟨y0, y1, y2, y3, y4, y5, y6, y7, y8, y9, y10⟩ := BX.out _ hb1)
  have T1 : Hid (TR w0 (w1.alloc (.cells #[.string idn] 9)) (.slice (some ⟨w1.heap.size, 0, none⟩) 1 1) [idn.data.toList]) := TR.one hb1 idn
  generalize hw2 : w1.alloc (.cells #[.string idn] 9) = w2 at T1
  clear x0 x1 x2 x3 x4 x5 x6 x7 x8 x9 x10 y0 y1 y2 y3 y4 y5 y6 y7 y8 y9 y10
  go_wp2_with (go_at_call 22; refine (FA.out _).mono ?_; rintro r w' ⟨rfl, rfl⟩)
  have T2 : Hid (TR w0 (w2.alloc fldO) (.slice (some ⟨w1.heap.size, 0, none⟩) 1 1) [idn.data.toList]) := T1.out.step (below_alloc _ _)
  have FC : Hid (∀ (i : Nat), i < 6 → (w2.alloc fldO).cell? ⟨w2.heap.size, i, none⟩ = some (.string (fldB i))) := fun i hi => fld_cell w2 i hi
  have hnf : w2.heap.size < (w2.alloc fldO).heap.size := by rw [World.size_alloc]; exact Nat.lt_succ_self _
  have hnp : w1.heap.size ≠ w2.heap.size := by rw [← hw2, World.size_alloc]; exact Nat.ne_of_lt (Nat.lt_succ_self _)
  clear T1 hb1 hw2
  generalize w2.alloc fldO = w3 at T2 FC hnf ⊢
  generalize w2.heap.size = nf at FC hnf hnp ⊢
  generalize w1.heap.size = np at T2 hnp ⊢
  go_loopw [3, 5, 14] (fun v _ i wr => ∃ m : Nat, m ≤ 6 ∧ i = .int .i64 m ∧ Hid ((∀ (i : Nat), i < 6 → wr.cell? ⟨nf, i, none⟩ = some (.string (fldB i))) ∧ nf < wr.heap.size ∧ v.ownBlock ≠ some nf) ∧ Hid (TR w0 wr v (idn.data.toList :: ps.take m))) (fun _ _ i _ => 6 - (intOf i).toNat)
  case atStart => exact ⟨0, Nat.zero_le _, rfl, ⟨FC.out, hnf, by simp [Value.ownBlock]; exact hnp⟩, T2.out⟩
  case round =>
    obtain ⟨m, hm, rfl, hB, HO⟩ := hrel
    by_cases hlt : m < 6
    · have hc1 := hB.out.1 m hlt
      have HN : Hid (ps.take (m + 1) = ps.take m ++ [ps.getD m []]) := by
        show _ = _
        rw [List.take_succ_eq_append_getElem (by rw [HPS.out]; exact hlt), List.getD_eq_getElem?_getD, List.getElem?_eq_getElem (by rw [HPS.out]; exact hlt)]; rfl
      have hcall := HG.out m hlt wr (below_then HA.out HO.out.below)
      obtain ⟨y0, y1, y2, y3, y4, y5, y6, y7, y8, y9, y10⟩ := BX.out wr HO.out.below
      have hlen : (idn.data.toList :: ps.take m).length = m + 1 := by simp; rw [HPS.out]; omega
      have HNL : Hid (idn.data.toList :: ps.take (m + 1) = (idn.data.toList :: ps.take m) ++ [ps.getD m []]) := by show _ = _; rw [HN.out]; rfl
      clear HN HG
      generalize idn.data.toList :: ps.take m = L at HO hlen HNL
      generalize ps.getD m [] = px at HNL hcall
      obtain ⟨oa, oc, rfl⟩ := HO.out.form
      rw [hlen] at HO hB
      have HLN : Hid (L.length = m + 1) := hlen
      have HCL : Hid (Calls _ _ _ _ _) := hcall
      generalize hbt : bs px = bt at HCL
      have HBT : Hid (bs px = bt) := hbt
      have hw3 : w0.heap.size ≤ wr.heap.size := HO.out.below.size
      clear hlen hcall hbt
      rw [HLN.out]
      generalize fldB m = fb at hc1 HCL
      go_wp2_with (first
        | (go_at_call 24; refine Calls.mono HCL.out ?_; rintro r w2 ⟨rfl, hb2⟩; have T3 : Hid (TR w0 w2 (.slice oa (m + 1) oc) L) := HO.out.step hb2; have NC : Hid (_) := word_cell w2 bt; have hz2' : w0.heap.size ≤ w2.heap.size := T3.out.below.size; have CW : Hid ((∀ (i : Nat), i < 6 → w2.cell? ⟨nf, i, none⟩ = some (.string (fldB i))) ∧ nf < w2.heap.size) := ⟨fun i hi => cell_step (hB.out.1 i hi) hb2, Nat.lt_of_lt_of_le hB.out.2.1 hb2.size⟩)
        | (at_builtin; refine wpList_append_own_at _ rfl _ _ 45 rfl w0.heap.size 9 i0 (.string ⟨#[]⟩) 1 16 Tryz.underlying45 hi hz0 hz1 hz2 rfl (by decide) _ _ _ rfl (show World.ownsRow _ _ _ _ _ (m + 1) (L.map sv) by have := T3.out.own.alloc (.cells #[.string bt] 9); rwa [HLN.out] at this) ⟨w2.heap.size, 0, none⟩ 1 1 [.string bt] rfl rfl NC.out (fun v hv => by rw [List.mem_singleton.1 hv]; rfl) (by unfold maxLen; omega) (by omega) (by simp; omega) ?_; intro v' w3' hown' hgrow _ hat; have T4 : Hid (TR w0 w3' v' (L ++ [px])) := TR.app [px] T3.out (by rw [List.length_append, HLN.out]; rfl) (by rw [List.map_append, ← HBT.out]; rfl) hown' hgrow; obtain ⟨g', cap', rfl⟩ := ownsRow_succ hown'; have HGR : Hid ((w2.alloc (.cells #[.string bt] 9)).grownBy w3' (Value.slice oa (m + 1) oc).ownBlock) := hgrow; have HAT : Hid (_) := hat; clear hown' hgrow hat)
        | go_in)
      go_roundw
      case rel =>
        have hne := hB.out.2.2
        have hblk : w3'.heap[nf]? = w2.heap[nf]? := (HGR.out.block nf (by rw [World.size_alloc]; have := CW.out.2; omega) (fun q => hne q.symm)).trans ((below_alloc w2 _).block nf CW.out.2)
        refine ⟨m + 1, by omega, by go_num, ⟨fun i hi => (World.cell?_of_block (a := ⟨nf, i, none⟩) hblk).trans (CW.out.1 i hi), ?_, ?_⟩, by rw [HNL.out]; exact T4.out⟩
        · have := HGR.out.size; rw [World.size_alloc] at this; have := CW.out.2; omega
        · rcases HAT.out with q | q
          · exact fun q2 => hne (q.symm.trans q2)
          · rw [q, World.size_alloc]
            intro q2
            have q3 : w2.heap.size + 1 = nf := by simpa using q2
            have := CW.out.2
            omega
      case measure => simp [intOf]; omega
    · have hm6 : m = 6 := by omega
      subst hm6
      have HE : Hid (ps.take 6 = ps) := List.take_of_length_le (by rw [HPS.out]; exact Nat.le_refl _)
      rw [HE.out] at HO
      have hle : (Lib.join (idn.data.toList :: ps) [124]).length ≤ 100000 := by
        have := joinLen (idn.data.toList :: ps) [124] 10000 (fun y hy => by
          rcases List.mem_cons.1 hy with rfl | q
          · have : idn.data.toList.length = idn.size := Array.length_toList
            omega
          · exact HPL.out y q)
        rw [List.length_cons, HPS.out] at this
        simp at this
        omega
      have J : Hid (_) := joins_any w0 _ (idn.data.toList :: ps) [124] wr HO.out (by rw [List.length_cons, HPS.out]; omega) hle
      obtain ⟨oa, oc, rfl⟩ := HO.out.form
      clear HG hle
      generalize hrb : bs (Lib.join (idn.data.toList :: ps) [124]) = rb at J
      have HRB : Hid (_) := hrb
      clear hrb
      unfold bs at J
      go_wp2_with (go_at_call 51; refine Calls.mono J.out ?_; rintro r w2 ⟨rfl, hb2⟩)
      go_ret
      exact ⟨by rw [HRB.out]; rfl, below_then HA.out (below_then HO.out.below hb2)⟩
end Go.Proofs.YtpdcjnkgkpbdgaaGreatDoor
