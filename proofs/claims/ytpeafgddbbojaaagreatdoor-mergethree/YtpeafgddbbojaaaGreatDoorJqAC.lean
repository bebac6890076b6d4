import Derived.Test.YtpeafgddbbojaaaGreatDoorJqAA
import Derived.Test.YtpeafgddbbojaaaGreatDoorJqAB
import Derived.Lib.SmallJoins
import Derived.Shelf.Strings.BuilderK
import Derived.Shelf.Strings.OnBuilder
import Derived.Shelf.Strconv.Atoi
import Derived.Shelf.Strings.Search3
import Derived.Shelf.Strings.Count
import Derived.Shelf.Strings.Search2
import Derived.Shelf.Strings.Split
import Derived.Test.YtpeafgddbbojaaaGreatDoorProg
import Derived.Lib.Join
import Derived.WalkKit
import Derived.Deep.DeepCutAuto
import Derived.Maps.AppendAt
import Derived.Laws.AppendOwnNone
import Derived.Lib.LaidTab
import Derived.Deep.SlicePairs
namespace Go.Proofs.YtpeafgddbbojaaaGreatDoor
open Go.RowKit Cal
theorem zcf(w:World)(q:Nat)(os:Array Obj):Below w.heap.size w (Sort.grow (w.drewN q) os):=
 ⟨rfl,rfl,rfl,by simp [Sort.grow],fun k hk=>by
  show (w.heap++os)[k]? =w.heap[k]?
  rw [Array.getElem?_append_left hk]⟩
theorem yi{a b:ByteArray}(h:a=b):Ending.returned (.string a)= .returned (.string b):=by rw [h]
theorem znd:Tryz.prog.globalNamed "internal/strconv.uint64pow10"=some 9:=by kernel_rfl
def Tab(w:World):Prop:=Lib.TabIs Tryz.prog w "internal/strconv.uint64pow10" .u64 Lib.pow10Tab
theorem Tab.step{w w':World}(h:Tab w)(hb:Below w.heap.size w w'):Tab w':=Joins.tab_stays znd h hb (Nat.le_refl _)
theorem ziF(y:Int)(w:World)(h0:1000≤y)(h1:y≤9999)(ht:Tab w):
  Calls Tryz.prog 119 #[.int .i64 y] w fun e w'=>e= .returned (.string ⟨(four y).toArray⟩)∧Below w.heap.size w w':=by
 refine (Tryz.strconv_Itoa y (by omega) (by omega) w ht).mono ?_
 rintro e w' ⟨rfl,k,os,rfl⟩
 exact ⟨by rw [zdW y h0 h1],zcf _ _ _⟩
theorem zah(k:Int)(w:World)(h0:0≤k)(h1:k<100):
  Calls Tryz.prog 152 #[.int .i64 k] w fun e w'=>e= .returned (.string ⟨(two k).toArray⟩)∧w'=w:=by
 obtain ⟨u,rfl⟩: ∃ u:Nat,k=u:=⟨k.toNat,by omega⟩
 by_cases hu:u<10
 ·have ht:=ziH u hu
  have hl:(Lib.decDigits u).length=1:=by rw [Lib.decDigits_one hu];rfl
  have HT:Hid (_):=ht
  clear ht
  go_enter Tryz.func152,Tryz.ntmps152
  go_wp2_with (go_at_call 119;refine (Tryz.strconv_Itoa_small u (by omega) _).mono ?_;rintro e w' ⟨rfl,rfl⟩)
  go_ret
  exact ⟨yi (by rw [←HT.out];exact ByteArray.mk_append_mk [48] _),rfl⟩
 ·have ht:=ziI u hu (by omega)
  have HT:Hid (_):=ht
  clear ht
  go_enter Tryz.func152,Tryz.ntmps152
  go_wp2_with (go_at_call 119;refine (Tryz.strconv_Itoa_small u (by omega) _).mono ?_;rintro e w' ⟨rfl,rfl⟩)
  go_ret
  exact ⟨yi (by rw [←HT.out]),rfl⟩
theorem ziG(n y m d:Int)(w:World)(h:vld y m d)(hn:num y m d=n)(ht:Tab w):
  Calls Tryz.prog 118 #[.int .i64 n] w fun e w'=>e= .returned (.string ⟨(txt y m d).toArray⟩)∧Below w.heap.size w w':=by
 have hh:=h
 obtain ⟨hy0,hy1,hm0,hm1,hd0,hd1⟩:=hh
 have hd31:=(yy y m).2
 have hl4:=four_length y
 have hl2:=jD m
 have hl3:=jD d
 go_enter Tryz.func118,Tryz.ntmps118
 go_wp2_with (first
  |(go_at_call 151;refine (zkk n y m d _ h hn).mono ?_;rintro e w' ⟨rfl,rfl⟩)
  |(go_at_call 119;refine (ziF y _ (by omega) (by omega) ht).mono ?_;rintro e w' ⟨rfl,hb⟩)
  |(go_at_call_of 152 (Value.int .i64 m);refine (zah m _ (by omega) (by omega)).mono ?_;rintro e w' ⟨rfl,rfl⟩)
  |(go_at_call_of 152 (Value.int .i64 d);refine (zah d _ (by omega) (by omega)).mono ?_;rintro e w' ⟨rfl,rfl⟩))
 go_ret
 exact ⟨yi (by unfold txt;simp [ByteArray.mk_append_mk]),hb⟩
end Go.Proofs.YtpeafgddbbojaaaGreatDoor
namespace Go.Proofs
open Go.Shelf
def Tryz.lays169_ren:Go.Shelf.Ren:=⟨fun|169=>57|n=>n,fun|70=>102|9=>9|0=>0|72=>105|37=>103|127=>135|3=>3|5=>5|n=>n,fun|n=>n⟩
theorem Tryz.lays169:Go.Proofs.Lays.n169 Tryz.prog Tryz.lays169_ren:={
 mixed:=by kernel_rfl
 f169:=Tryz.func57.trans (congrArg some (by kernel_rfl))
 t0:=Tryz.underlying0
 a0:=Tryz.isAgg0
 z0:=Tryz.sizeOf0
 v0:=Tryz.zeroValue0
 t3:=Tryz.underlying3
 a3:=Tryz.isAgg3
 z3:=Tryz.sizeOf3
 v3:=Tryz.zeroValue3
 t9:=Tryz.underlying9
 a9:=Tryz.isAgg9
 z9:=Tryz.sizeOf9
 v9:=Tryz.zeroValue9
 t37:=Tryz.underlying103
 a37:=Tryz.isAgg103
 z37:=Tryz.sizeOf103
 v37:=Tryz.zeroValue103
 t70:=Tryz.underlying102
 a70:=Tryz.isAgg102
 z70:=Tryz.sizeOf102
 v70:=Tryz.zeroValue102
 t72:=Tryz.underlying105
 a72:=Tryz.isAgg105
 z72:=Tryz.sizeOf105
 v72:=Tryz.zeroValue105
 t127:=Tryz.underlying135
 a127:=Tryz.isAgg135
 z127:=Tryz.sizeOf135
 v127:=Tryz.zeroValue135 }
theorem Tryz.Builder_Extra_169:Builder.Extra Tryz.prog Tryz.lays169_ren:={
 sizeBuilder:=by kernel_rfl
 liesBuilder:=by kernel_rfl
 t5:=Tryz.underlying5
 a5:=Tryz.isAgg5
 z5:=Tryz.sizeOf5
 v5:=Tryz.zeroValue5
 infoByte:=by kernel_rfl
 cellsByte:=by kernel_rfl
 sizeByte:=by kernel_rfl
 neB5:=by decide }
open Go.RowKit in
theorem Tryz.Builder_String_any_k(B b:Nat)(l:List UInt8)(w:World)(h:Lib.IsBuilderF 105 5 B b (Lib.byteCells l) w)(hBw:B≤w.heap.size):
  Calls Tryz.prog 57 #[.pointer (some ⟨b,0,none⟩)] w fun e w'=>e= .returned (.string ⟨l.toArray⟩)∧(Lib.IsBuilderF 105 5 B b (Lib.byteCells l) w'∧Below B w w'∧Lib.OthersKept 5 (some b) w w'):=Any.Builder_String_any_k Tryz.lays169 Tryz.Builder_Extra_169 B b l w h hBw
def Tryz.lays156_ren:Go.Shelf.Ren:=⟨fun|156=>77|165=>124|166=>56|169=>57|240=>90|241=>155|276=>141|277=>182|n=>n,fun|31=>51|9=>9|3=>3|4=>4|0=>0|20=>20|72=>105|76=>106|70=>102|37=>103|75=>41|127=>135|164=>176|5=>5|80=>74|n=>n,fun|n=>n⟩
theorem Tryz.lays156:Go.Proofs.Lays.n156 Tryz.prog Tryz.lays156_ren:={
 mixed:=by kernel_rfl
 f156:=Tryz.func77.trans (congrArg some (by kernel_rfl))
 f165:=Tryz.func124.trans (congrArg some (by kernel_rfl))
 f166:=Tryz.func56.trans (congrArg some (by kernel_rfl))
 f169:=Tryz.func57.trans (congrArg some (by kernel_rfl))
 f240:=Tryz.func90.trans (congrArg some (by kernel_rfl))
 f241:=Tryz.func155.trans (congrArg some (by kernel_rfl))
 f276:=Tryz.func141.trans (congrArg some (by kernel_rfl))
 f277:=Tryz.func182.trans (congrArg some (by kernel_rfl))
 t0:=Tryz.underlying0
 a0:=Tryz.isAgg0
 z0:=Tryz.sizeOf0
 v0:=Tryz.zeroValue0
 t3:=Tryz.underlying3
 a3:=Tryz.isAgg3
 z3:=Tryz.sizeOf3
 v3:=Tryz.zeroValue3
 t4:=Tryz.underlying4
 a4:=Tryz.isAgg4
 z4:=Tryz.sizeOf4
 v4:=Tryz.zeroValue4
 t9:=Tryz.underlying9
 a9:=Tryz.isAgg9
 z9:=Tryz.sizeOf9
 v9:=Tryz.zeroValue9
 t20:=Tryz.underlying20
 a20:=Tryz.isAgg20
 z20:=Tryz.sizeOf20
 v20:=Tryz.zeroValue20
 t31:=Tryz.underlying51
 a31:=Tryz.isAgg51
 z31:=Tryz.sizeOf51
 v31:=Tryz.zeroValue51
 t37:=Tryz.underlying103
 a37:=Tryz.isAgg103
 z37:=Tryz.sizeOf103
 v37:=Tryz.zeroValue103
 t70:=Tryz.underlying102
 a70:=Tryz.isAgg102
 z70:=Tryz.sizeOf102
 v70:=Tryz.zeroValue102
 t72:=Tryz.underlying105
 a72:=Tryz.isAgg105
 z72:=Tryz.sizeOf105
 v72:=Tryz.zeroValue105
 t75:=Tryz.underlying41
 a75:=Tryz.isAgg41
 z75:=Tryz.sizeOf41
 v75:=Tryz.zeroValue41
 t76:=Tryz.underlying106
 a76:=Tryz.isAgg106
 z76:=Tryz.sizeOf106
 v76:=Tryz.zeroValue106
 t127:=Tryz.underlying135
 a127:=Tryz.isAgg135
 z127:=Tryz.sizeOf135
 v127:=Tryz.zeroValue135
 t164:=Tryz.underlying176
 a164:=Tryz.isAgg176
 z164:=Tryz.sizeOf176
 v164:=Tryz.zeroValue176 }
theorem Tryz.Builder_Extra_156:Builder.Extra Tryz.prog Tryz.lays156_ren:={
 sizeBuilder:=by kernel_rfl
 liesBuilder:=by kernel_rfl
 t5:=Tryz.underlying5
 a5:=Tryz.isAgg5
 z5:=Tryz.sizeOf5
 v5:=Tryz.zeroValue5
 infoByte:=by kernel_rfl
 cellsByte:=by kernel_rfl
 sizeByte:=by kernel_rfl
 neB5:=by decide }
open Go.RowKit in
theorem Tryz.strings_Join_none(a:Option Addr)(c:Nat)(sep:ByteArray)(w:World):
  Calls Tryz.prog 77 #[.slice a 0 c,.string sep] w fun e w'=>e= .returned (.string ⟨#[]⟩)∧w'=w:=Any.strings_Join_none Tryz.lays156 Tryz.Builder_Extra_156 a c sep w
open Go.RowKit in
theorem Tryz.strings_Join(bk o c:Nat)(xs:List ByteArray)(sep:ByteArray)(w:World)(hcells: ∀ (j:Nat) x,xs[j]? =some x→w.cell? ⟨bk,o+j,none⟩=some (.string x))(hbk:bk<w.heap.size)(hN:xs.length≤140737488355328)(hcap:xs.length≤c)(hlen:(Lib.join (xs.map (·.data.toList)) sep.data.toList).length≤140737488355328):
  Calls Tryz.prog 77 #[.slice (some ⟨bk,o,none⟩) xs.length c,.string sep] w fun e w'=>e= .returned (.string ⟨(Lib.join (xs.map (·.data.toList)) sep.data.toList).toArray⟩)∧Below w.heap.size w w':=Any.strings_Join Tryz.lays156 Tryz.Builder_Extra_156 bk o c xs sep w hcells hbk hN hcap hlen
def Tryz.lays172_ren:Go.Shelf.Ren:=⟨fun|172=>166|244=>190|245=>191|247=>210|279=>211|280=>212|281=>213|282=>214|287=>234|316=>235|171=>119|205=>236|321=>246|322=>247|243=>153|246=>181|283=>199|284=>200|285=>201|286=>202|129=>117|317=>219|318=>220|319=>221|320=>222|337=>240|338=>241|n=>n,fun|9=>9|3=>3|75=>41|76=>106|4=>4|5=>5|167=>234|37=>103|0=>0|85=>235|2=>2|168=>237|53=>157|175=>257|46=>120|210=>260|127=>135|145=>271|143=>269|21=>21|171=>227|173=>229|212=>243|51=>155|20=>20|213=>244|232=>283|233=>284|80=>74|n=>n,fun|15=>12|16=>13|17=>9|18=>14|19=>15|n=>n⟩
theorem Tryz.lays172:Go.Proofs.Lays.n172 Tryz.prog Tryz.lays172_ren:={
 mixed:=by kernel_rfl
 f129:=Tryz.func117.trans (congrArg some (by kernel_rfl))
 f171:=Tryz.func119.trans (congrArg some (by kernel_rfl))
 f172:=Tryz.func166.trans (congrArg some (by kernel_rfl))
 f205:=Tryz.func236.trans (congrArg some (by kernel_rfl))
 f243:=Tryz.func153.trans (congrArg some (by kernel_rfl))
 f244:=Tryz.func190.trans (congrArg some (by kernel_rfl))
 f245:=Tryz.func191.trans (congrArg some (by kernel_rfl))
 f246:=Tryz.func181.trans (congrArg some (by kernel_rfl))
 f247:=Tryz.func210.trans (congrArg some (by kernel_rfl))
 f279:=Tryz.func211.trans (congrArg some (by kernel_rfl))
 f280:=Tryz.func212.trans (congrArg some (by kernel_rfl))
 f281:=Tryz.func213.trans (congrArg some (by kernel_rfl))
 f282:=Tryz.func214.trans (congrArg some (by kernel_rfl))
 f283:=Tryz.func199.trans (congrArg some (by kernel_rfl))
 f284:=Tryz.func200.trans (congrArg some (by kernel_rfl))
 f285:=Tryz.func201.trans (congrArg some (by kernel_rfl))
 f286:=Tryz.func202.trans (congrArg some (by kernel_rfl))
 f287:=Tryz.func234.trans (congrArg some (by kernel_rfl))
 f316:=Tryz.func235.trans (congrArg some (by kernel_rfl))
 f317:=Tryz.func219.trans (congrArg some (by kernel_rfl))
 f318:=Tryz.func220.trans (congrArg some (by kernel_rfl))
 f319:=Tryz.func221.trans (congrArg some (by kernel_rfl))
 f320:=Tryz.func222.trans (congrArg some (by kernel_rfl))
 f321:=Tryz.func246.trans (congrArg some (by kernel_rfl))
 f322:=Tryz.func247.trans (congrArg some (by kernel_rfl))
 f337:=Tryz.func240.trans (congrArg some (by kernel_rfl))
 f338:=Tryz.func241.trans (congrArg some (by kernel_rfl))
 t0:=Tryz.underlying0
 a0:=Tryz.isAgg0
 z0:=Tryz.sizeOf0
 v0:=Tryz.zeroValue0
 t2:=Tryz.underlying2
 a2:=Tryz.isAgg2
 z2:=Tryz.sizeOf2
 v2:=Tryz.zeroValue2
 t3:=Tryz.underlying3
 a3:=Tryz.isAgg3
 z3:=Tryz.sizeOf3
 v3:=Tryz.zeroValue3
 t4:=Tryz.underlying4
 a4:=Tryz.isAgg4
 z4:=Tryz.sizeOf4
 v4:=Tryz.zeroValue4
 t5:=Tryz.underlying5
 a5:=Tryz.isAgg5
 z5:=Tryz.sizeOf5
 v5:=Tryz.zeroValue5
 t9:=Tryz.underlying9
 a9:=Tryz.isAgg9
 z9:=Tryz.sizeOf9
 v9:=Tryz.zeroValue9
 t20:=Tryz.underlying20
 a20:=Tryz.isAgg20
 z20:=Tryz.sizeOf20
 v20:=Tryz.zeroValue20
 t21:=Tryz.underlying21
 a21:=Tryz.isAgg21
 z21:=Tryz.sizeOf21
 v21:=Tryz.zeroValue21
 t37:=Tryz.underlying103
 a37:=Tryz.isAgg103
 z37:=Tryz.sizeOf103
 v37:=Tryz.zeroValue103
 t46:=Tryz.underlying120
 a46:=Tryz.isAgg120
 z46:=Tryz.sizeOf120
 v46:=Tryz.zeroValue120
 t51:=Tryz.underlying155
 a51:=Tryz.isAgg155
 z51:=Tryz.sizeOf155
 v51:=Tryz.zeroValue155
 t53:=Tryz.underlying157
 a53:=Tryz.isAgg157
 z53:=Tryz.sizeOf157
 v53:=Tryz.zeroValue157
 t75:=Tryz.underlying41
 a75:=Tryz.isAgg41
 z75:=Tryz.sizeOf41
 v75:=Tryz.zeroValue41
 t76:=Tryz.underlying106
 a76:=Tryz.isAgg106
 z76:=Tryz.sizeOf106
 v76:=Tryz.zeroValue106
 t85:=Tryz.underlying235
 a85:=Tryz.isAgg235
 z85:=Tryz.sizeOf235
 v85:=Tryz.zeroValue235
 t127:=Tryz.underlying135
 a127:=Tryz.isAgg135
 z127:=Tryz.sizeOf135
 v127:=Tryz.zeroValue135
 t143:=Tryz.underlying269
 a143:=Tryz.isAgg269
 z143:=Tryz.sizeOf269
 v143:=Tryz.zeroValue269
 t145:=Tryz.underlying271
 a145:=Tryz.isAgg271
 z145:=Tryz.sizeOf271
 v145:=Tryz.zeroValue271
 t167:=Tryz.underlying234
 a167:=Tryz.isAgg234
 z167:=Tryz.sizeOf234
 v167:=Tryz.zeroValue234
 t168:=Tryz.underlying237
 a168:=Tryz.isAgg237
 z168:=Tryz.sizeOf237
 v168:=Tryz.zeroValue237
 t171:=Tryz.underlying227
 a171:=Tryz.isAgg227
 z171:=Tryz.sizeOf227
 v171:=Tryz.zeroValue227
 t173:=Tryz.underlying229
 a173:=Tryz.isAgg229
 z173:=Tryz.sizeOf229
 v173:=Tryz.zeroValue229
 t175:=Tryz.underlying257
 a175:=Tryz.isAgg257
 z175:=Tryz.sizeOf257
 v175:=Tryz.zeroValue257
 t210:=Tryz.underlying260
 a210:=Tryz.isAgg260
 z210:=Tryz.sizeOf260
 v210:=Tryz.zeroValue260
 t212:=Tryz.underlying243
 a212:=Tryz.isAgg243
 z212:=Tryz.sizeOf243
 v212:=Tryz.zeroValue243
 t213:=Tryz.underlying244
 a213:=Tryz.isAgg244
 z213:=Tryz.sizeOf244
 t232:=Tryz.underlying283
 a232:=Tryz.isAgg283
 z232:=Tryz.sizeOf283
 v232:=Tryz.zeroValue283
 t233:=Tryz.underlying284
 a233:=Tryz.isAgg284
 z233:=Tryz.sizeOf284
 v233:=Tryz.zeroValue284
 g15:=by kernel_rfl
 g16:=by kernel_rfl
 g17:=by kernel_rfl
 g18:=by kernel_rfl
 g19:=by kernel_rfl }
open Go.RowKit in
theorem Tryz.strconv_Atoi(s:ByteArray)(n:Int)(hl:s.size≤18)(h:Lib.atoi s.data.toList=some n)(w:World):
  Calls Tryz.prog 166 #[.string s] w fun e w'=>e= .returned (.tuple #[.int .i64 n,.nilIface])∧ ∃ t,w'=Lib.bytesWorld w 5 t:=Any.strconv_Atoi Tryz.lays172 s n hl h w
def Tryz.lays143_ren:Go.Shelf.Ren:=⟨fun|143=>165|219=>189|217=>206|225=>207|224=>208|267=>209|266=>232|314=>233|n=>n,fun|9=>9|3=>3|4=>4|5=>5|46=>120|146=>255|51=>155|n=>n,fun|1=>8|n=>n⟩
theorem Tryz.lays143:Go.Proofs.Lays.n143 Tryz.prog Tryz.lays143_ren:={
 mixed:=by kernel_rfl
 f143:=Tryz.func165.trans (congrArg some (by kernel_rfl))
 f217:=Tryz.func206.trans (congrArg some (by kernel_rfl))
 f219:=Tryz.func189.trans (congrArg some (by kernel_rfl))
 f224:=Tryz.func208.trans (congrArg some (by kernel_rfl))
 f225:=Tryz.func207.trans (congrArg some (by kernel_rfl))
 f266:=Tryz.func232.trans (congrArg some (by kernel_rfl))
 f267:=Tryz.func209.trans (congrArg some (by kernel_rfl))
 f314:=Tryz.func233.trans (congrArg some (by kernel_rfl))
 t3:=Tryz.underlying3
 a3:=Tryz.isAgg3
 z3:=Tryz.sizeOf3
 v3:=Tryz.zeroValue3
 t4:=Tryz.underlying4
 a4:=Tryz.isAgg4
 z4:=Tryz.sizeOf4
 v4:=Tryz.zeroValue4
 t5:=Tryz.underlying5
 a5:=Tryz.isAgg5
 z5:=Tryz.sizeOf5
 v5:=Tryz.zeroValue5
 t9:=Tryz.underlying9
 a9:=Tryz.isAgg9
 z9:=Tryz.sizeOf9
 v9:=Tryz.zeroValue9
 t46:=Tryz.underlying120
 a46:=Tryz.isAgg120
 z46:=Tryz.sizeOf120
 v46:=Tryz.zeroValue120
 t51:=Tryz.underlying155
 a51:=Tryz.isAgg155
 z51:=Tryz.sizeOf155
 v51:=Tryz.zeroValue155
 t146:=Tryz.underlying255
 a146:=Tryz.isAgg255
 z146:=Tryz.sizeOf255
 v146:=Tryz.zeroValue255
 g1:=by kernel_rfl }
open Go.RowKit Go.Lib in
theorem Tryz.strings_Index_one(s:ByteArray)(c:UInt8)(w:World):
  Calls Tryz.prog 165 #[.string s,.string ⟨#[c]⟩] w fun e w'=>e= .returned (.int .i64 (Lib.indexByte s.data.toList c))∧w'=w:=Any.strings_Index_one Tryz.lays143 s c w
def Tryz.lays138_ren:Go.Shelf.Ren:=⟨fun|138=>164|195=>186|218=>188|143=>165|219=>189|217=>206|225=>207|224=>208|267=>209|266=>232|314=>233|n=>n,fun|9=>9|3=>3|4=>4|5=>5|0=>0|46=>120|146=>255|51=>155|n=>n,fun|1=>8|n=>n⟩
theorem Tryz.lays138:Go.Proofs.Lays.n138 Tryz.prog Tryz.lays138_ren:={
 mixed:=by kernel_rfl
 f138:=Tryz.func164.trans (congrArg some (by kernel_rfl))
 f143:=Tryz.func165.trans (congrArg some (by kernel_rfl))
 f195:=Tryz.func186.trans (congrArg some (by kernel_rfl))
 f217:=Tryz.func206.trans (congrArg some (by kernel_rfl))
 f218:=Tryz.func188.trans (congrArg some (by kernel_rfl))
 f219:=Tryz.func189.trans (congrArg some (by kernel_rfl))
 f224:=Tryz.func208.trans (congrArg some (by kernel_rfl))
 f225:=Tryz.func207.trans (congrArg some (by kernel_rfl))
 f266:=Tryz.func232.trans (congrArg some (by kernel_rfl))
 f267:=Tryz.func209.trans (congrArg some (by kernel_rfl))
 f314:=Tryz.func233.trans (congrArg some (by kernel_rfl))
 t0:=Tryz.underlying0
 a0:=Tryz.isAgg0
 z0:=Tryz.sizeOf0
 v0:=Tryz.zeroValue0
 t3:=Tryz.underlying3
 a3:=Tryz.isAgg3
 z3:=Tryz.sizeOf3
 v3:=Tryz.zeroValue3
 t4:=Tryz.underlying4
 a4:=Tryz.isAgg4
 z4:=Tryz.sizeOf4
 v4:=Tryz.zeroValue4
 t5:=Tryz.underlying5
 a5:=Tryz.isAgg5
 z5:=Tryz.sizeOf5
 v5:=Tryz.zeroValue5
 t9:=Tryz.underlying9
 a9:=Tryz.isAgg9
 z9:=Tryz.sizeOf9
 v9:=Tryz.zeroValue9
 t46:=Tryz.underlying120
 a46:=Tryz.isAgg120
 z46:=Tryz.sizeOf120
 v46:=Tryz.zeroValue120
 t51:=Tryz.underlying155
 a51:=Tryz.isAgg155
 z51:=Tryz.sizeOf155
 v51:=Tryz.zeroValue155
 t146:=Tryz.underlying255
 a146:=Tryz.isAgg255
 z146:=Tryz.sizeOf255
 v146:=Tryz.zeroValue255
 g1:=by kernel_rfl }
open Go.RowKit Go.Lib in
theorem Tryz.strings_Count_one(s:ByteArray)(c:UInt8)(w:World):
  Calls Tryz.prog 164 #[.string s,.string ⟨#[c]⟩] w fun e w'=>e= .returned (.int .i64 (Lib.countByte s.data.toList c))∧w'=w:=Any.strings_Count_one Tryz.lays138 s c w
def Tryz.lays219_ren:Go.Shelf.Ren:=⟨fun|219=>189|217=>206|225=>207|224=>208|267=>209|266=>232|314=>233|n=>n,fun|9=>9|3=>3|4=>4|5=>5|46=>120|146=>255|51=>155|n=>n,fun|1=>8|n=>n⟩
theorem Tryz.lays219:Go.Proofs.Lays.n219 Tryz.prog Tryz.lays219_ren:={
 mixed:=by kernel_rfl
 f217:=Tryz.func206.trans (congrArg some (by kernel_rfl))
 f219:=Tryz.func189.trans (congrArg some (by kernel_rfl))
 f224:=Tryz.func208.trans (congrArg some (by kernel_rfl))
 f225:=Tryz.func207.trans (congrArg some (by kernel_rfl))
 f266:=Tryz.func232.trans (congrArg some (by kernel_rfl))
 f267:=Tryz.func209.trans (congrArg some (by kernel_rfl))
 f314:=Tryz.func233.trans (congrArg some (by kernel_rfl))
 t3:=Tryz.underlying3
 a3:=Tryz.isAgg3
 z3:=Tryz.sizeOf3
 v3:=Tryz.zeroValue3
 t4:=Tryz.underlying4
 a4:=Tryz.isAgg4
 z4:=Tryz.sizeOf4
 v4:=Tryz.zeroValue4
 t5:=Tryz.underlying5
 a5:=Tryz.isAgg5
 z5:=Tryz.sizeOf5
 v5:=Tryz.zeroValue5
 t9:=Tryz.underlying9
 a9:=Tryz.isAgg9
 z9:=Tryz.sizeOf9
 v9:=Tryz.zeroValue9
 t46:=Tryz.underlying120
 a46:=Tryz.isAgg120
 z46:=Tryz.sizeOf120
 v46:=Tryz.zeroValue120
 t51:=Tryz.underlying155
 a51:=Tryz.isAgg155
 z51:=Tryz.sizeOf155
 v51:=Tryz.zeroValue155
 t146:=Tryz.underlying255
 a146:=Tryz.isAgg255
 z146:=Tryz.sizeOf255
 v146:=Tryz.zeroValue255
 g1:=by kernel_rfl }
open Go.RowKit Go.Lib in
theorem Tryz.stringslite_Index_one(s:ByteArray)(c:UInt8)(w:World):
  Calls Tryz.prog 189 #[.string s,.string ⟨#[c]⟩] w fun e w'=>e= .returned (.int .i64 (Lib.indexByte s.data.toList c))∧w'=w:=Any.stringslite_Index_one Tryz.lays219 s c w
def Tryz.lays221_ren:Go.Shelf.Ren:=⟨fun|221=>127|268=>163|138=>164|143=>165|195=>186|197=>187|218=>188|219=>189|260=>205|217=>206|225=>207|224=>208|267=>209|266=>232|314=>233|n=>n,fun|9=>9|3=>3|31=>51|4=>4|0=>0|105=>220|21=>21|5=>5|46=>120|119=>251|139=>254|138=>253|146=>255|51=>155|n=>n,fun|1=>8|3=>10|4=>11|n=>n⟩
theorem Tryz.lays221:Go.Proofs.Lays.n221 Tryz.prog Tryz.lays221_ren:={
 mixed:=by kernel_rfl
 f138:=Tryz.func164.trans (congrArg some (by kernel_rfl))
 f143:=Tryz.func165.trans (congrArg some (by kernel_rfl))
 f195:=Tryz.func186.trans (congrArg some (by kernel_rfl))
 f197:=Tryz.func187.trans (congrArg some (by kernel_rfl))
 f217:=Tryz.func206.trans (congrArg some (by kernel_rfl))
 f218:=Tryz.func188.trans (congrArg some (by kernel_rfl))
 f219:=Tryz.func189.trans (congrArg some (by kernel_rfl))
 f221:=Tryz.func127.trans (congrArg some (by kernel_rfl))
 f224:=Tryz.func208.trans (congrArg some (by kernel_rfl))
 f225:=Tryz.func207.trans (congrArg some (by kernel_rfl))
 f260:=Tryz.func205.trans (congrArg some (by kernel_rfl))
 f266:=Tryz.func232.trans (congrArg some (by kernel_rfl))
 f267:=Tryz.func209.trans (congrArg some (by kernel_rfl))
 f268:=Tryz.func163.trans (congrArg some (by kernel_rfl))
 f314:=Tryz.func233.trans (congrArg some (by kernel_rfl))
 t0:=Tryz.underlying0
 a0:=Tryz.isAgg0
 z0:=Tryz.sizeOf0
 v0:=Tryz.zeroValue0
 t3:=Tryz.underlying3
 a3:=Tryz.isAgg3
 z3:=Tryz.sizeOf3
 v3:=Tryz.zeroValue3
 t4:=Tryz.underlying4
 a4:=Tryz.isAgg4
 z4:=Tryz.sizeOf4
 v4:=Tryz.zeroValue4
 t5:=Tryz.underlying5
 a5:=Tryz.isAgg5
 z5:=Tryz.sizeOf5
 v5:=Tryz.zeroValue5
 t9:=Tryz.underlying9
 a9:=Tryz.isAgg9
 z9:=Tryz.sizeOf9
 v9:=Tryz.zeroValue9
 t21:=Tryz.underlying21
 a21:=Tryz.isAgg21
 z21:=Tryz.sizeOf21
 v21:=Tryz.zeroValue21
 t31:=Tryz.underlying51
 a31:=Tryz.isAgg51
 z31:=Tryz.sizeOf51
 v31:=Tryz.zeroValue51
 t46:=Tryz.underlying120
 a46:=Tryz.isAgg120
 z46:=Tryz.sizeOf120
 v46:=Tryz.zeroValue120
 t51:=Tryz.underlying155
 a51:=Tryz.isAgg155
 z51:=Tryz.sizeOf155
 v51:=Tryz.zeroValue155
 t105:=Tryz.underlying220
 a105:=Tryz.isAgg220
 z105:=Tryz.sizeOf220
 v105:=Tryz.zeroValue220
 t119:=Tryz.underlying251
 a119:=Tryz.isAgg251
 z119:=Tryz.sizeOf251
 t138:=Tryz.underlying253
 a138:=Tryz.isAgg253
 z138:=Tryz.sizeOf253
 v138:=Tryz.zeroValue253
 t139:=Tryz.underlying254
 a139:=Tryz.isAgg254
 z139:=Tryz.sizeOf254
 v139:=Tryz.zeroValue254
 t146:=Tryz.underlying255
 a146:=Tryz.isAgg255
 z146:=Tryz.sizeOf255
 v146:=Tryz.zeroValue255
 g1:=by kernel_rfl
 g3:=by kernel_rfl
 g4:=by kernel_rfl }
end Go.Proofs
namespace Go.Proofs.YtpeafgddbbojaaaGreatDoor
open Go.RowKit Cal
theorem ye:(Tryz.prog.info? 9).map (fun i=>(i.zero,i.size,i.bytes))=some (some (.string ⟨#[]⟩),1,16):=by kernel_rfl
def bs(l:List UInt8):ByteArray:=⟨l.toArray⟩
def sv(l:List UInt8):Value:= .string (bs l)
theorem zh(l:List UInt8):(bs l).data.toList=l:=rfl
theorem zaY(v:Value)(base:Nat)(ws:List (List UInt8))(sep:List UInt8)(w:World)(hx:ws≠[])(h:w.ownsRow base 9 1 v ws.length (ws.map sv))(hN:ws.length≤1000)(hlen:(Lib.join ws sep).length≤100000):
  Calls Tryz.prog 77 #[v,.string (bs sep)] w fun e w'=>e= .returned (.string (bs (Lib.join ws sep)))∧Below w.heap.size w w':=by
 rcases h.2 with ⟨_,h0⟩|⟨g,cap,cur,rfl,hb,hg,hcap,hmax,hsz,htake⟩
 ·exact absurd (List.length_eq_zero_iff.1 h0) hx
 ·have hm:(ws.map bs).map (fun x=>x.data.toList)=ws:=by rw [List.map_map];exact List.map_id'' (fun x=>rfl) ws
  have hl:(ws.map bs).length=ws.length:=List.length_map _
  have:=Tryz.strings_Join g 0 cap (ws.map bs) (bs sep) w (fun j x hj=> ?_) (Array.getElem?_eq_some_iff.1 hg).1 (by omega) (by omega) (by rw [hm,zh];omega)
  ·rw [hl,hm,zh] at this
   exact this
  ·have hj':ws[j]?.map bs=some x:=by rw [←List.getElem?_map];exact hj
   obtain ⟨y,hy,rfl⟩:=Option.map_eq_some_iff.1 hj'
   have hjl:j<ws.length:=(List.getElem?_eq_some_iff.1 hy).1
   have:=h.cellAt j (by omega)
   rw [Nat.zero_add,this,List.getElem?_map,hy];rfl
theorem js(n:Int)(w:World)(h0:0≤n)(h1:n≤100000)(ht:Tab w):
  Calls Tryz.prog 119 #[.int .i64 n] w fun e w'=>e= .returned (.string (bs (Lib.itoa n)))∧Below w.heap.size w w':=by
 refine (Tryz.strconv_Itoa n (by omega) (by omega) w ht).mono ?_
 rintro e w' ⟨rfl,k,os,rfl⟩
 exact ⟨rfl,zcf _ _ _⟩
theorem zI(w:World):Below w.heap.size w w.drew:=⟨rfl,rfl,rfl,Nat.le_refl _,fun _ _=>rfl⟩
structure TR(W0 wx:World)(v:Value)(L:List (List UInt8)):Prop where
 own:wx.ownsRow W0.heap.size 9 1 v L.length (L.map sv)
 below:Below W0.heap.size W0 wx
theorem zU{w w':World}{base:Nat}{e:TypeId}{size:Nat}{v:Value}{n:Nat}{xs:List Value}(h:w.ownsRow base e size v n xs)(hb:Below w.heap.size w w'):w'.ownsRow base e size v n xs:=by
 refine ⟨h.1,?_⟩
 rcases h.2 with h2|⟨g,cap,cur,hv,hg,hh,r⟩
 ·exact Or.inl h2
 ·exact Or.inr ⟨g,cap,cur,hv,hg,(hb.block g (Array.getElem?_eq_some_iff.1 hh).1).trans hh,r⟩
theorem TR.step{W0 wx w2:World}{v:Value}{L:List (List UInt8)}(h:TR W0 wx v L)(hb:Below wx.heap.size wx w2):TR W0 w2 v L:=⟨zU h.own hb,zB h.below hb⟩
theorem TR.app{W0 w2 w3:World}{v v':Value}{L:List (List UInt8)}{n:Nat}{xs:List Value}{o:Obj}(M:List (List UInt8))(h:TR W0 w2 v L)(hn:n=(L++M).length)(hx:xs=(L++M).map sv)
  (hown:w3.ownsRow W0.heap.size 9 1 v' n xs) (hg:(w2.alloc o).grownBy w3 v.ownBlock):TR W0 w3 v' (L++M):=by
 subst hn hx
 exact ⟨hown,(h.below.alloc h.below.size _).grown hg (by have:=h.below.size;simp;omega) (fun j ej=>(h.own.lt j ej).1)⟩
theorem TR.lit{W0 w2:World}(hb:Below W0.heap.size W0 w2)(x y:ByteArray):TR W0 (w2.alloc (.cells #[.string x,.string y] 9)) (.slice (some ⟨w2.heap.size,0,none⟩) 2 2) [x.data.toList,y.data.toList]:=
 ⟨World.ownsRow_lit (size:=1) w2 #[.string x,.string y] 2 hb.size (by unfold maxLen;omega) rfl,hb.alloc hb.size _⟩
theorem TR.one{W0 w2:World}(hb:Below W0.heap.size W0 w2)(x:ByteArray):TR W0 (w2.alloc (.cells #[.string x] 9)) (.slice (some ⟨w2.heap.size,0,none⟩) 1 1) [x.data.toList]:=
 ⟨World.ownsRow_lit (size:=1) w2 #[.string x] 1 hb.size (by unfold maxLen;omega) rfl,hb.alloc hb.size _⟩
theorem TR.nil(W0:World):TR W0 W0 (.slice none 0 0) []:=⟨World.ownsRow_nil _ _ _ _,Below.refl _ _⟩
theorem TR.form{W0 wx:World}{v:Value}{L:List (List UInt8)}(h:TR W0 wx v L): ∃ a cap,v= .slice a L.length cap:=by
 rcases h.own.2 with ⟨rfl,h0⟩|⟨g,cap,cur,rfl,_⟩
 ·rw [h0];exact ⟨none,0,rfl⟩
 ·exact ⟨_,cap,rfl⟩
theorem xQ(w:World)(x:ByteArray): ∀ (j:Nat) (v:Value),[Value.string x][j]? =some v→(w.alloc (.cells #[.string x] 9)).cell? ((⟨w.heap.size,0,none⟩:Addr).add j)=some v:=fun j v hv=>by
 obtain ⟨hj,he⟩:=List.getElem?_eq_some_iff.1 hv
 have hj0:j=0:=by simpa using hj
 subst hj0
 have he':Value.string x=v:=by simpa using he
 rw [←he']
 exact (Boxed.new w 9 (.string x)).cell
theorem zhp: ∀ (ws:List (List UInt8))(K:Nat),(∀ y∈ws,y.length≤K)→Lib.lens ws≤ws.length*K
 |[],K,_=>by simp [Lib.lens]
 |x::r,K,h=>by
  have h1:=h x (List.mem_cons_self ..)
  have h2:=zhp r K (fun y hy=>h y (List.mem_cons_of_mem _ hy))
  have e:Lib.lens (x::r)=x.length+Lib.lens r:=by simp [Lib.lens]
  rw [e,List.length_cons,Nat.add_mul,Nat.one_mul]
  omega
theorem yT(ws:List (List UInt8))(sep:List UInt8)(K:Nat)(h: ∀ y∈ws,y.length≤K):(Lib.join ws sep).length≤ws.length*(K+sep.length):=by
 cases ws with
 |nil=>simp [Lib.join_nil]
 |cons x r=>
  rw [Lib.join_length,List.length_cons]
  have h2:=zhp (x::r) K h
  rw [List.length_cons] at h2
  have e:(r.length+1)*(K+sep.length)=(r.length+1)*K+(sep.length*r.length+sep.length):=by
   rw [Nat.mul_add,Nat.mul_comm (r.length+1) sep.length,Nat.mul_add,Nat.mul_one]
  omega
theorem zbk(W0:World)(v:Value)(ws:List (List UInt8))(sep:List UInt8)(w:World)(h:TR W0 w v ws)(hN:ws.length≤1000)(hlen:(Lib.join ws sep).length≤100000):
  Calls Tryz.prog 77 #[v,.string (bs sep)] w fun e w'=>e= .returned (.string (bs (Lib.join ws sep)))∧Below w.heap.size w w':=by
 by_cases hx:ws=[]
 ·obtain ⟨a,cap,rfl⟩:=h.form
  subst hx
  refine (Tryz.strings_Join_none a cap (bs sep) w).mono ?_
  rintro r w' ⟨rfl,rfl⟩
  exact ⟨rfl,Below.refl _ _⟩
 ·exact zaY v _ ws sep w hx h.own hN hlen
end Go.Proofs.YtpeafgddbbojaaaGreatDoor
namespace Go.Proofs.YtpeafgddbbojaaaGreatDoor
open Go Go.RowKit Cal
attribute [local go_sem] Oper.semAt_some
def zt:Nat→ByteArray
 |0=>⟨#[116,105,116,108,101]⟩
 |1=>⟨#[115,116,97,114,116]⟩
 |2=>⟨#[108,111,110,103]⟩
 |3=>⟨#[114,117,108,101]⟩
 |4=>⟨#[115,107,105,112,115]⟩
 |_=>⟨#[109,111,118,101,115]⟩
def vD:Obj:= .cells #[.string ⟨#[116,105,116,108,101]⟩,.string ⟨#[115,116,97,114,116]⟩,.string ⟨#[108,111,110,103]⟩,.string ⟨#[114,117,108,101]⟩,.string ⟨#[115,107,105,112,115]⟩,.string ⟨#[109,111,118,101,115]⟩] 9
theorem vE(w:World)(i:Nat)(h:i<6):(w.alloc vD).cell? ⟨w.heap.size,i,none⟩=some (.string (zt i)):=by
 unfold vD
 rw [World.cell?_alloc_new]
 match i,h with
 |0,_=>rfl
 |1,_=>rfl
 |2,_=>rfl
 |3,_=>rfl
 |4,_=>rfl
 |5,_=>rfl
theorem vr(w:World):Calls Tryz.prog 75 #[] w fun r w'=>r= .returned (.slice (some ⟨w.heap.size,0,none⟩) 6 6)∧w'=w.alloc vD:=by
 unfold vD
 go_enter Tryz.func75,Tryz.ntmps75
 go_wp2
 go_ret
 exact ⟨rfl,rfl⟩
set_option maxHeartbeats 1600000 in
set_option maxRecDepth 100000 in
theorem jo(ds:List Int)(sl:Value)(tx:Int→List UInt8)(w:World)(hd:Ints w sl ds)(h20:ds.length≤60)(hl: ∀ x∈ds,(tx x).length≤30)
  (hc: ∀ x∈ds,∀ W,Below w.heap.size w W→Calls Tryz.prog 118 #[.int .i64 x] W fun r w'=>r= .returned (.string (bs (tx x)))∧Below W.heap.size W w'):
  Calls Tryz.prog 121 #[sl,.func (.func 118) #[] #[]] w fun r w'=>r= .returned (.string (bs (Lib.join (ds.map tx) [44])))∧Below w.heap.size w w':=by
 obtain ⟨a,cap,rfl,_,hcap,hcell⟩:=hd
 obtain ⟨i0,hi,hz0,hz1,hz2⟩:=info_parts ye
 have HC:Hid (_):=hcell
 have HT:Hid (_):=hc
 have HL:Hid (_):=hl
 clear hcell hc hl
 go_enter Tryz.func121,Tryz.ntmps121
 go_wp2
 go_loopw [5,7,10] (fun v _ i wr=> ∃ m:Nat,m≤ds.length∧i= .int .i64 m∧Hid (TR w wr v ((ds.map tx).take m))) (fun _ _ i _=>ds.length - (intOf i).toNat)
 case atStart=>exact ⟨0,Nat.zero_le _,rfl,TR.nil w⟩
 case round=>
  obtain ⟨m,hm,rfl,HO⟩:=hrel
  by_cases hlt:m<ds.length
  ·obtain ⟨blk,rfl,hblk,hcl⟩:=HC.out m hlt
   have hc1:=zD hcl HO.out.below
   have HN:Hid ((ds.map tx).take (m+1)=(ds.map tx).take m++[tx ds[m]]):=by
    show _=_
    rw [List.take_succ_eq_append_getElem (by simpa using hlt)];simp
   have hcall:=HT.out ds[m] (List.getElem_mem hlt) wr HO.out.below
   have hlen:((ds.map tx).take m).length=m:=by simp;omega
   clear HC HT HL hcl
   generalize ds[m]=x at hc1 HN hcall
   generalize (ds.map tx).take m=L at HO HN hlen
   obtain ⟨oa,oc,rfl⟩:=HO.out.form
   rw [hlen] at HO
   have HLN:=hid hlen
   have HCL:Hid (_):=hcall
   generalize hbt:bs (tx x)=bt at HCL
   have HBT:=hid hbt
   clear hlen hcall hbt
   rw [HLN.out]
   go_wp2_with (first
    |(go_at_call 118;refine Calls.mono HCL.out ?_;rintro r w2 ⟨rfl,hb2⟩;have T2:Hid (TR w w2 (.slice oa m oc) L):=HO.out.step hb2;have NC:Hid (_):=xQ w2 bt;have hz2':w.heap.size≤w2.heap.size:=T2.out.below.size)
    |(at_builtin;refine wpList_append_own _ rfl _ _ 51 rfl w.heap.size 9 i0 (.string ⟨#[]⟩) 1 16 Tryz.underlying51 hi hz0 hz1 hz2 rfl (by decide) _ _ _ rfl (show World.ownsRow _ _ _ _ _ m (L.map sv) by have:=T2.out.own.alloc (.cells #[.string bt] 9);rwa [HLN.out] at this) ⟨w2.heap.size,0,none⟩ 1 1 [.string bt] rfl rfl NC.out (fun v hv=>by rw [List.mem_singleton.1 hv];rfl) (by unfold maxLen;omega) (by omega) (by simp;omega) ?_;intro v' w3 hown' hgrow _;have T3:Hid (TR w w3 v' (L++[tx x])):=TR.app [tx x] T2.out (by rw [List.length_append,HLN.out];rfl) (by rw [List.map_append,←HBT.out];rfl) hown' hgrow;obtain ⟨g',cap',rfl⟩:=ownsRow_succ hown';clear hown' hgrow)
    |go_in)
   go_roundw
   case rel=>exact ⟨m+1,by omega,by go_num,by rw [HN.out];exact T3.out⟩
   case measure=>simp [intOf];omega
  ·have HE:Hid ((ds.map tx).take m=ds.map tx):=List.take_of_length_le (by simp;omega)
   rw [HE.out] at HO
   have hle:(Lib.join (ds.map tx) [44]).length≤100000:=by
    have:=yT (ds.map tx) [44] 30 (fun y hy=>by obtain ⟨x,hx,rfl⟩:=List.mem_map.1 hy;exact HL.out x hx)
    simp at this
    have h31:ds.length*31≤60*31:=Nat.mul_le_mul_right _ h20
    omega
   have J:Hid (_):=zbk w _ (ds.map tx) [44] wr HO.out (by simp;omega) hle
   obtain ⟨oa,oc,rfl⟩:=HO.out.form
   rw [List.length_map] at HO J ⊢
   clear HC HT HL hle
   unfold bs at J
   go_wp2_with (go_at_call 77;refine Calls.mono J.out ?_;rintro r w2 ⟨rfl,hb2⟩)
   go_ret
   exact ⟨rfl,zB HO.out.below hb2⟩
theorem zhd(E:EV)(ra:Option Addr)(rn rc:Nat)(sa:Option Addr)(sn sc:Nat)(ma:Option Addr)(mn mc:Nat)(w:World):
  Calls Tryz.prog 76 #[ev E (.slice ra rn rc) (.slice sa sn sc) (.slice ma mn mc),.string (zt 0)] w fun r w'=>r= .returned (.string E.ti)∧Below w.heap.size w w':=by
 obtain ⟨idn,ti,st,lg,f,e,ds,c,u,sk,mv⟩:=E
 unfold ev zt
 dsimp only
 go_enter Tryz.func76,Tryz.ntmps76
 go_wp2
 go_ret
 exact ⟨rfl,zC _ _⟩
theorem zhe(E:EV)(ra:Option Addr)(rn rc:Nat)(sa:Option Addr)(sn sc:Nat)(ma:Option Addr)(mn mc:Nat)(b:ByteArray)(w:World)
  (h: ∀ W,Below w.heap.size w W→Calls Tryz.prog 118 #[.int .i64 E.st] W fun r w'=>r= .returned (.string b)∧Below W.heap.size W w'):
  Calls Tryz.prog 76 #[ev E (.slice ra rn rc) (.slice sa sn sc) (.slice ma mn mc),.string (zt 1)] w fun r w'=>r= .returned (.string b)∧Below w.heap.size w w':=by
 obtain ⟨idn,ti,st,lg,f,e,ds,c,u,sk,mv⟩:=E
 unfold ev zt
 dsimp only at h ⊢
 have H:Hid (_):=h _ (zC w (.cells (eW idn ti st lg f e ra rn rc c u sa sn sc ma mn mc) 48))
 clear h
 go_enter Tryz.func76,Tryz.ntmps76
 go_wp2_with (go_at_call 118;refine Calls.mono H.out ?_;rintro r w1 ⟨rfl,hb1⟩)
 go_ret
 exact ⟨rfl,zB (zC _ _) hb1⟩
theorem ziZ(E:EV)(ra:Option Addr)(rn rc:Nat)(sa:Option Addr)(sn sc:Nat)(ma:Option Addr)(mn mc:Nat)(b:ByteArray)(w:World)
  (h: ∀ W,Below w.heap.size w W→Calls Tryz.prog 119 #[.int .i64 E.lg] W fun r w'=>r= .returned (.string b)∧Below W.heap.size W w'):
  Calls Tryz.prog 76 #[ev E (.slice ra rn rc) (.slice sa sn sc) (.slice ma mn mc),.string (zt 2)] w fun r w'=>r= .returned (.string b)∧Below w.heap.size w w':=by
 obtain ⟨idn,ti,st,lg,f,e,ds,c,u,sk,mv⟩:=E
 unfold ev zt
 dsimp only at h ⊢
 have H:Hid (_):=h _ (zC w (.cells (eW idn ti st lg f e ra rn rc c u sa sn sc ma mn mc) 48))
 clear h
 go_enter Tryz.func76,Tryz.ntmps76
 go_wp2_with (go_at_call 119;refine Calls.mono H.out ?_;rintro r w1 ⟨rfl,hb1⟩)
 go_ret
 exact ⟨rfl,zB (zC _ _) hb1⟩
theorem zi0(E:EV)(ra:Option Addr)(rn rc:Nat)(sa:Option Addr)(sn sc:Nat)(ma:Option Addr)(mn mc:Nat)(b:ByteArray)(w:World)
  (h: ∀ W,Below w.heap.size w W→Calls Tryz.prog 120 #[.agg #[.string E.f,.int .i64 E.e,.slice ra rn rc,.int .i64 E.c,.int .i64 E.u]] W fun r w'=>r= .returned (.string b)∧Below W.heap.size W w'):
  Calls Tryz.prog 76 #[ev E (.slice ra rn rc) (.slice sa sn sc) (.slice ma mn mc),.string (zt 3)] w fun r w'=>r= .returned (.string b)∧Below w.heap.size w w':=by
 obtain ⟨idn,ti,st,lg,f,e,ds,c,u,sk,mv⟩:=E
 unfold ev zt
 dsimp only at h ⊢
 have H:Hid (_):=h _ (zC w (.cells (eW idn ti st lg f e ra rn rc c u sa sn sc ma mn mc) 48))
 clear h
 go_enter Tryz.func76,Tryz.ntmps76
 go_wp2_with (go_at_call 120;refine Calls.mono H.out ?_;rintro r w1 ⟨rfl,hb1⟩)
 go_ret
 exact ⟨rfl,zB (zC _ _) hb1⟩
theorem zdq(E:EV)(ra:Option Addr)(rn rc:Nat)(sa:Option Addr)(sn sc:Nat)(ma:Option Addr)(mn mc:Nat)(b:ByteArray)(w:World)
  (h: ∀ W,Below w.heap.size w W→Calls Tryz.prog 121 #[.slice sa sn sc,.func (.func 118) #[] #[]] W fun r w'=>r= .returned (.string b)∧Below W.heap.size W w'):
  Calls Tryz.prog 76 #[ev E (.slice ra rn rc) (.slice sa sn sc) (.slice ma mn mc),.string (zt 4)] w fun r w'=>r= .returned (.string b)∧Below w.heap.size w w':=by
 obtain ⟨idn,ti,st,lg,f,e,ds,c,u,sk,mv⟩:=E
 unfold ev zt
 dsimp only at h ⊢
 have H:Hid (_):=h _ (zC w (.cells (eW idn ti st lg f e ra rn rc c u sa sn sc ma mn mc) 48))
 clear h
 go_enter Tryz.func76,Tryz.ntmps76
 go_wp2_with (go_at_call 121;refine Calls.mono H.out ?_;rintro r w1 ⟨rfl,hb1⟩)
 go_ret
 exact ⟨rfl,zB (zC _ _) hb1⟩
theorem zdr(E:EV)(ra:Option Addr)(rn rc:Nat)(sa:Option Addr)(sn sc:Nat)(ma:Option Addr)(mn mc:Nat)(b:ByteArray)(w:World)
  (h: ∀ W,Below w.heap.size w W→Calls Tryz.prog 122 #[.slice ma mn mc,.func (.func 123) #[] #[]] W fun r w'=>r= .returned (.string b)∧Below W.heap.size W w'):
  Calls Tryz.prog 76 #[ev E (.slice ra rn rc) (.slice sa sn sc) (.slice ma mn mc),.string (zt 5)] w fun r w'=>r= .returned (.string b)∧Below w.heap.size w w':=by
 obtain ⟨idn,ti,st,lg,f,e,ds,c,u,sk,mv⟩:=E
 unfold ev zt
 dsimp only at h ⊢
 have H:Hid (_):=h _ (zC w (.cells (eW idn ti st lg f e ra rn rc c u sa sn sc ma mn mc) 48))
 clear h
 go_enter Tryz.func76,Tryz.ntmps76
 go_wp2_with (go_at_call 122;refine Calls.mono H.out ?_;rintro r w1 ⟨rfl,hb1⟩)
 go_ret
 exact ⟨rfl,zB (zC _ _) hb1⟩
set_option maxHeartbeats 1600000 in
set_option maxRecDepth 100000 in
theorem zi1(E:EV)(sl skv mvv:Value)(ps:List (List UInt8))(s:Nat→Addr)(w:World)(g:GlobK s w)(hd:Days w sl E.ds)(hs:Ints w skv E.sk)(hm:Movs w mvv E.mv)(h30:E.id.size≤60)(h60:E.ti.size≤60)(hw:EW E)(hps:ps.length=6)(hpl: ∀ p∈ps,p.length≤10000)
  (hget: ∀ (i:Nat),i<6→ ∀ (W:World),Below w.heap.size w W→Calls Tryz.prog 76 #[ev E sl skv mvv,.string (zt i)] W fun r w'=>r= .returned (.string (bs (ps.getD i [])))∧Below W.heap.size W w'):
  Calls Tryz.prog 45 #[ev E sl skv mvv] w fun r w'=>r= .returned (.string (bs (Lib.join (E.id.data.toList::ps) [124])))∧Below w.heap.size w w':=by
 have hA:=zC w (.cells #[.string E.id,.string E.ti,.int .i64 E.st,.int .i64 E.lg,.string E.f,.int .i64 E.e,sl,.int .i64 E.c,.int .i64 E.u,skv,mvv] 48)
 have hB:=EB.new w E sl skv mvv
 have CK:Calls Tryz.prog 32 #[ev E sl skv mvv] _ _:=vW E sl skv mvv 0 s _ (g.step hA) (hd.step hA) (hs.step hA) (hm.step hA) h30 h60 (by obtain ⟨k,hk⟩:=vV E;have:=(jM hk).2 hw;subst this;exact hk)
 rw [zdt] at CK
 obtain ⟨ra,rc,rfl,_⟩:=hd
 obtain ⟨sa,sc,rfl,_⟩:=hs
 obtain ⟨ma,mc,rfl,_⟩:=hm
 obtain ⟨i0,hi,hz0,hz1,hz2⟩:=info_parts ye
 have HCK:=hid CK
 have HG:Hid (_):=hget
 have HPL:Hid (_):=hpl
 have HPS:Hid (_):=hps
 clear CK hget g hw hpl hps
 obtain ⟨idn,ti,st,lg,f,e,ds,c,u,sk,mv⟩:=E
 unfold ev EB at*
 dsimp only at*
 have HA:Hid (_):=hA
 clear hA
 generalize hw0:w.alloc (.cells (eW idn ti st lg f e ra ds.length rc c u sa sk.length sc ma mv.length mc) 48)=w0 at HCK HA hB
 obtain ⟨x0,x1,x2,x3,x4,x5,x6,x7,x8,x9,x10⟩:=zK hB
 have BX:Hid (∀ W,Below w0.heap.size w0 W→_):=fun W h=>zK ((h.block _ (Array.getElem?_eq_some_iff.1 hB).1).trans hB)
 clear hB
 have FA:Hid (∀ W,_):=fun W=>vr W
 go_enter Tryz.func45,Tryz.ntmps45
 go_upto_region 4 with (go_at_call 32;refine Calls.mono HCK.out ?_;rintro r w1 ⟨rfl,hb1⟩;obtain ⟨y0,y1,y2,y3,y4,y5,y6,y7,y8,y9,y10⟩:=BX.out _ hb1)
 have T1:=hid (TR.one hb1 idn)
 generalize hw2:w1.alloc (.cells #[.string idn] 9)=w2 at T1
 clear x0 x1 x2 x3 x4 x5 x6 x7 x8 x9 x10 y0 y1 y2 y3 y4 y5 y6 y7 y8 y9 y10
 go_wp2_with (go_at_call 75;refine (FA.out _).mono ?_;rintro r w' ⟨rfl,rfl⟩)
 have T2:Hid (TR w0 (w2.alloc vD) (.slice (some ⟨w1.heap.size,0,none⟩) 1 1) [idn.data.toList]):=T1.out.step (zC _ _)
 have FC:Hid (∀ (i:Nat),i<6→(w2.alloc vD).cell? ⟨w2.heap.size,i,none⟩=some (.string (zt i))):=fun i hi=>vE w2 i hi
 have hnf:w2.heap.size<(w2.alloc vD).heap.size:=by rw [World.size_alloc];exact Nat.lt_succ_self _
 have hnp:w1.heap.size≠w2.heap.size:=by rw [←hw2,World.size_alloc];exact Nat.ne_of_lt (Nat.lt_succ_self _)
 clear T1 hb1 hw2
 generalize w2.alloc vD=w3 at T2 FC hnf ⊢
 generalize w2.heap.size=nf at FC hnf hnp ⊢
 generalize w1.heap.size=np at T2 hnp ⊢
 go_loopw [3,5,14] (fun v _ i wr=> ∃ m:Nat,m≤6∧i= .int .i64 m∧Hid ((∀ (i:Nat),i<6→wr.cell? ⟨nf,i,none⟩=some (.string (zt i)))∧nf<wr.heap.size∧v.ownBlock≠some nf)∧Hid (TR w0 wr v (idn.data.toList::ps.take m))) (fun _ _ i _=>6 - (intOf i).toNat)
 case atStart=>exact ⟨0,Nat.zero_le _,rfl,⟨FC.out,hnf,by simp [Value.ownBlock];exact hnp⟩,T2.out⟩
 case round=>
  obtain ⟨m,hm,rfl,hB,HO⟩:=hrel
  by_cases hlt:m<6
  ·have hc1:=hB.out.1 m hlt
   have HN:Hid (ps.take (m+1)=ps.take m++[ps.getD m []]):=by
    show _=_
    rw [List.take_succ_eq_append_getElem (by rw [HPS.out];exact hlt),List.getD_eq_getElem?_getD,List.getElem?_eq_getElem (by rw [HPS.out];exact hlt)];rfl
   have hcall:=HG.out m hlt wr (zB HA.out HO.out.below)
   obtain ⟨y0,y1,y2,y3,y4,y5,y6,y7,y8,y9,y10⟩:=BX.out wr HO.out.below
   have hlen:(idn.data.toList::ps.take m).length=m+1:=by simp;rw [HPS.out];omega
   have HNL:Hid (idn.data.toList::ps.take (m+1)=(idn.data.toList::ps.take m)++[ps.getD m []]):=by show _=_;rw [HN.out];rfl
   clear HN HG
   generalize idn.data.toList::ps.take m=L at HO hlen HNL
   generalize ps.getD m []=px at HNL hcall
   obtain ⟨oa,oc,rfl⟩:=HO.out.form
   rw [hlen] at HO hB
   have HLN:=hid hlen
   have HCL:=hid hcall
   generalize hbt:bs px=bt at HCL
   have HBT:=hid hbt
   have hw3:w0.heap.size≤wr.heap.size:=HO.out.below.size
   clear hlen hcall hbt
   rw [HLN.out]
   generalize zt m=fb at hc1 HCL
   go_wp2_with (first
    |(go_at_call 76;refine Calls.mono HCL.out ?_;rintro r w2 ⟨rfl,hb2⟩;have T3:=hid (HO.out.step hb2);have NC:Hid (_):=xQ w2 bt;have hz2':w0.heap.size≤w2.heap.size:=T3.out.below.size;have CW:Hid ((∀ (i:Nat),i<6→w2.cell? ⟨nf,i,none⟩=some (.string (zt i)))∧nf<w2.heap.size):=⟨fun i hi=>zD (hB.out.1 i hi) hb2,Nat.lt_of_lt_of_le hB.out.2.1 hb2.size⟩)
    |(at_builtin;refine wpList_append_own_at _ rfl _ _ 51 rfl w0.heap.size 9 i0 (.string ⟨#[]⟩) 1 16 Tryz.underlying51 hi hz0 hz1 hz2 rfl (by decide) _ _ _ rfl (show World.ownsRow _ _ _ _ _ (m+1) (L.map sv) by have:=T3.out.own.alloc (.cells #[.string bt] 9);rwa [HLN.out] at this) ⟨w2.heap.size,0,none⟩ 1 1 [.string bt] rfl rfl NC.out (fun v hv=>by rw [List.mem_singleton.1 hv];rfl) (by unfold maxLen;omega) (by omega) (by simp;omega) ?_;intro v' w3' hown' hgrow _ hat;have T4:=hid (TR.app [px] T3.out (by rw [List.length_append,HLN.out];rfl) (by rw [List.map_append,←HBT.out];rfl) hown' hgrow);obtain ⟨g',cap',rfl⟩:=ownsRow_succ hown';have HGR:=hid hgrow;have HAT:Hid (_):=hat;clear hown' hgrow hat)
    |go_in)
   go_roundw
   case rel=>
    have hne:=hB.out.2.2
    have hblk:w3'.heap[nf]? =w2.heap[nf]? :=(HGR.out.block nf (by rw [World.size_alloc];have:=CW.out.2;omega) (fun q=>hne q.symm)).trans ((zC w2 _).block nf CW.out.2)
    refine ⟨m+1,by omega,by go_num,⟨fun i hi=>(World.cell?_of_block (a:=⟨nf,i,none⟩) hblk).trans (CW.out.1 i hi),?_,?_⟩,by rw [HNL.out];exact T4.out⟩
    ·have:=HGR.out.size;rw [World.size_alloc] at this;have:=CW.out.2;omega
    ·rcases HAT.out with q|q
     ·exact fun q2=>hne (q.symm.trans q2)
     ·rw [q,World.size_alloc]
      intro q2
      have q3:w2.heap.size+1=nf:=by simpa using q2
      have:=CW.out.2
      omega
   case measure=>simp [intOf];omega
  ·have hm6:m=6:=by omega
   subst hm6
   have HE:Hid (ps.take 6=ps):=List.take_of_length_le (by rw [HPS.out];exact Nat.le_refl _)
   rw [HE.out] at HO
   have hle:(Lib.join (idn.data.toList::ps) [124]).length≤100000:=by
    have:=yT (idn.data.toList::ps) [124] 10000 (fun y hy=>by
     rcases List.mem_cons.1 hy with rfl|q
     ·have:idn.data.toList.length=idn.size:=Array.length_toList
      omega
     ·exact HPL.out y q)
    rw [List.length_cons,HPS.out] at this
    simp at this
    omega
   have J:Hid (_):=zbk w0 _ (idn.data.toList::ps) [124] wr HO.out (by rw [List.length_cons,HPS.out];omega) hle
   obtain ⟨oa,oc,rfl⟩:=HO.out.form
   clear HG hle
   generalize hrb:bs (Lib.join (idn.data.toList::ps) [124])=rb at J
   have HRB:Hid (_):=hrb
   clear hrb
   unfold bs at J
   go_wp2_with (go_at_call 77;refine Calls.mono J.out ?_;rintro r w2 ⟨rfl,hb2⟩)
   go_ret
   exact ⟨by rw [HRB.out];rfl,zB HA.out (zB HO.out.below hb2)⟩
def E0:EV:=⟨⟨#[97]⟩,⟨#[65,32,98]⟩,5,1,⟨#[111,110,99,101]⟩,1,[],0,-1,[],[]⟩
theorem zkr:Well (rd ⟨#[111,110,99,101]⟩ 1 [] 0 (-1)):=by
 refine ⟨?_,?_,by decide,by decide,by decide,fun _=>⟨rfl,rfl,rfl⟩,fun _=>rfl,Or.inl rfl,?_⟩
 ·left;exact ByteArray.toList_eq _
 ·intro d hd;cases hd
 ·intro i h;exact absurd h (by simp [rd])
def P0:List (List UInt8):=[[65,32,98],[50,48,48,48,45,48,49,45,48,54],[49],[111,110,99,101],[],[]]
def zaV(E:EV):Int:=if (20<E.f.size∨20<E.ds.length)∨30<E.id.size∨60<E.ti.size∨25<E.sk.length∨25<E.mv.length then 1 else 0
theorem zg8{E:EV}(h:zaV E=0):E.f.size≤20∧E.ds.length≤20∧E.id.size≤30∧E.ti.size≤60∧E.sk.length≤25∧E.mv.length≤25:=by
 unfold zaV at h
 split at h
 ·omega
 ·omega
set_option maxHeartbeats 1000000 in
theorem zcs(E:EV)(ra:Option Addr)(rc:Nat)(sa:Option Addr)(sc:Nat)(ma:Option Addr)(mc:Nat)(w:World):
  Calls Tryz.prog 16 #[ev E (.slice ra E.ds.length rc) (.slice sa E.sk.length sc) (.slice ma E.mv.length mc)] w fun r w'=>r= .returned (.int .i64 (zaV E))∧Below w.heap.size w w':=by
 have HK:Hid (zaV E=if (20<E.f.size∨20<E.ds.length)∨30<E.id.size∨60<E.ti.size∨25<E.sk.length∨25<E.mv.length then 1 else 0):=rfl
 generalize zaV E=k at HK ⊢
 have hB:=EB.new w E (.slice ra E.ds.length rc) (.slice sa E.sk.length sc) (.slice ma E.mv.length mc)
 obtain ⟨idn,ti,st,lg,f,e,ds,c,u,sk,mv⟩:=E
 unfold ev EB at*
 dsimp only at*
 have LR:Hid (∀ W,Calls Tryz.prog 37 #[.agg #[.string f,.int .i64 e,.slice ra ds.length rc,.int .i64 c,.int .i64 u]] W fun r w'=>r= .returned (.int .i64 (if 20<f.size∨20<ds.length then 1 else 0))∧Below W.heap.size W w'):=fun W=>zdx f e ra ds.length rc c u W _ rfl
 have HA:Hid (_):=zC w (.cells (eW idn ti st lg f e ra ds.length rc c u sa sk.length sc ma mv.length mc) 48)
 generalize hw0:w.alloc (.cells (eW idn ti st lg f e ra ds.length rc c u sa sk.length sc ma mv.length mc) 48)=w0 at HA hB
 obtain ⟨x0,x1,x2,x3,x4,x5,x6,x7,x8,x9,x10⟩:=zK hB
 have BX:Hid (∀ W,Below w0.heap.size w0 W→_):=fun W h=>zK ((h.block _ (Array.getElem?_eq_some_iff.1 hB).1).trans hB)
 clear hB
 have h1:(20<f.size∨20<ds.length)∨(¬ (20<f.size∨20<ds.length)∧30<idn.size)∨(¬ (20<f.size∨20<ds.length)∧idn.size≤30∧60<ti.size)∨(¬ (20<f.size∨20<ds.length)∧idn.size≤30∧ti.size≤60∧25<sk.length)∨(¬ (20<f.size∨20<ds.length)∧idn.size≤30∧ti.size≤60∧sk.length≤25∧25<mv.length)∨(¬ (20<f.size∨20<ds.length)∧idn.size≤30∧ti.size≤60∧sk.length≤25∧mv.length≤25):=by omega
 have HK2:=hid HK.out
 clear HK
 rcases h1 with h1|⟨h1,h2⟩|⟨h1,h2,h3⟩|⟨h1,h2,h3,h4⟩|⟨h1,h2,h3,h4,h5⟩|⟨h1,h2,h3,h4,h5⟩
 all_goals
  first
  |rw [if_pos h1] at LR
  |rw [if_neg h1] at LR
  first
  |rw [if_pos (by omega)] at HK2
  |rw [if_neg (by omega)] at HK2
  clear h1
  go_enter Tryz.func16,Tryz.ntmps16
  go_wp2_with (go_at_call 37;refine (LR.out _).mono ?_;rintro r w1 ⟨rfl,hb1⟩;obtain ⟨y0,y1,y2,y3,y4,y5,y6,y7,y8,y9,y10⟩:=BX.out _ hb1)
  go_ret
  exact ⟨ze HK2.out.symm,zB HA.out hb1⟩
def GotM(w:World)(sl:Value)(ms:List (Int×Int)):Prop:=
 ∃ (a:Option Addr) (cap:Nat),sl= .slice a ms.length cap∧(a=none→ms.length=0∧cap=0)∧ ∀ ad,a=some ad→ ∀ (j:Nat) (h:j<ms.length),ad.block<w.heap.size∧w.cell? (ad.add (j*2))=some (.int .i64 ms[j].1)∧w.cell? (ad.add (j*2+1))=some (.int .i64 ms[j].2)
theorem GotM.step{w w':World}{sl:Value}{ms:List (Int×Int)}(h:GotM w sl ms)(hb:Below w.heap.size w w'):GotM w' sl ms:=by
 obtain ⟨a,cap,h1,h2,h3⟩:=h
 refine ⟨a,cap,h1,h2,fun ad e j hj=> ?_⟩
 obtain ⟨h4,h5,h6⟩:=h3 ad e j hj
 exact ⟨Nat.lt_of_lt_of_le h4 hb.size,(World.cell?_of_block (a:=ad.add (j*2)) (hb.block _ (by rw [zi];exact h4))).trans h5,(World.cell?_of_block (a:=ad.add (j*2+1)) (hb.block _ (by rw [zi];exact h4))).trans h6⟩
def yF:List (Int×Int)→List Value
 |[]=>[]
 |m::r=> .int .i64 m.1:: .int .i64 m.2::yF r
theorem xG: ∀ ms:List (Int×Int),(yF ms).length=ms.length*2
 |[]=>rfl
 |m::r=>by simp [yF,xG r];omega
theorem zbc: ∀ (ms:List (Int×Int)) (j:Nat) (h:j<ms.length),(yF ms)[j*2]? =some (.int .i64 ms[j].1)∧(yF ms)[j*2+1]? =some (.int .i64 ms[j].2)
 |m::r,0,_=>⟨rfl,rfl⟩
 |m::r,j+1,h=>by
  have:=zbc r j (by simpa using h)
  rw [show (j+1)*2=j*2+1+1 by omega]
  exact this
theorem xH(ms:List (Int×Int)): ∀ u∈yF ms,u.oneCell'=true:=by
 induction ms with
 |nil=>intro u hu;cases hu
 |cons m r ih=>
  intro u hu
  rcases List.mem_cons.1 hu with rfl|hu
  ·rfl
  ·rcases List.mem_cons.1 hu with rfl|hu
   ·rfl
   ·exact ih u hu
theorem zbd(ms:List (Int×Int))(P:Nat→Value→Prop)(h: ∀ (j:Nat) (h:j<ms.length),P (j*2) (.int .i64 ms[j].1)∧P (j*2+1) (.int .i64 ms[j].2)): ∀ (i:Nat) (u:Value),(yF ms)[i]? =some u→P i u:=fun i u hu=>by
 have hi:i<ms.length*2:=by rw [←xG];exact (List.getElem?_eq_some_iff.1 hu).1
 have hj:i / 2<ms.length:=by omega
 obtain ⟨a1,a2⟩:=zbc ms (i / 2) hj
 obtain ⟨b1,b2⟩:=h (i / 2) hj
 rcases Nat.mod_two_eq_zero_or_one i with q|q
 ·have e:i / 2*2=i:=by omega
  rw [e] at a1 b1
  rw [hu] at a1
  cases a1;exact b1
 ·have e:i / 2*2+1=i:=by omega
  rw [e] at a2 b2
  rw [hu] at a2
  cases a2;exact b2
theorem xN:(Tryz.prog.info? 114).map (fun i=>(i.zero,i.size,i.bytes))=some (some (.agg #[.int .i64 0,.int .i64 0]),2,16):=by kernel_rfl
def OwM(base:Nat)(W:World)(sl:Value)(ms:List (Int×Int)):Prop:=W.ownsRow base 114 2 sl ms.length (yF ms)
theorem OwM.grown{base B:Nat}{W W':World}{sl:Value}{ds:List (Int×Int)}(h:OwM base W sl ds)(hg:W.grownBy W' (some B))(hB:B<base):OwM base W' sl ds:=
 World.ownsRow.kept h hg (.inr (fun he=>by have:=(World.ownsRow.lt h _ he).1;omega))
theorem zaW{W:World}{g:Nat}{cur:Array Value}{ms:List (Int×Int)}(hg:W.heap[g]? =some (.cells cur 114 (0,0)))(htake:cur.toList.take (ms.length*2)=yF ms)(j:Nat)(hj:j<ms.length):
  W.cell? ⟨g,j*2,none⟩=some (.int .i64 ms[j].1)∧W.cell? ⟨g,j*2+1,none⟩=some (.int .i64 ms[j].2):=by
 obtain ⟨a1,a2⟩:=zbc ms j hj
 rw [←htake,List.getElem?_take_of_lt (by omega),Array.getElem?_toList] at a1 a2
 constructor
 ·simp only [World.cell?,hg];simpa using a1
 ·simp only [World.cell?,hg];simpa using a2
theorem zr{base:Nat}{W:World}{sl:Value}{ms:List (Int×Int)}(h:OwM base W sl ms)(hl:ms.length≤80000):Movs W sl ms∧GotM W sl ms:=by
 rcases h.2 with ⟨rfl,h0⟩|⟨g,cap,cur,rfl,hb,hg,hcap,hmax,hsz,htake⟩
 ·rw [List.length_eq_zero_iff.1 h0];exact ⟨Movs.nil W 0,none,0,rfl,fun _=>⟨rfl,rfl⟩,fun ad q=>by cases q⟩
 ·have hlt:=(Array.getElem?_eq_some_iff.1 hg).1
  refine ⟨⟨_,cap,rfl,hl,hcap,fun j hj=> ?_⟩,⟨_,cap,rfl,(fun q=>by cases q),fun ad q j hj=> ?_⟩⟩
  ·obtain ⟨c1,c2⟩:=zaW hg htake j hj
   exact ⟨g,rfl,hlt,c1,c2⟩
  ·cases q
   obtain ⟨c1,c2⟩:=zaW hg htake j hj
   rw [Addr.add_lit,Addr.add_lit,Nat.zero_add,Nat.zero_add]
   exact ⟨hlt,c1,c2⟩
end Go.Proofs.YtpeafgddbbojaaaGreatDoor
namespace Go.Proofs.YtpeafgddbbojaaaGreatDoor
open Go.ChangeShapes Go.WideShapes Go.ChangeAt Go.RowKit Cal
theorem znh:(Tryz.prog.globals[9]?).map (·.type)=some 243:=by kernel_rfl
theorem zni:Tryz.prog.cellsOf 243=20:=by kernel_rfl
theorem znj:Tryz.prog.cellsOf 157=1:=by kernel_rfl
theorem zmT:Tryz.prog.globalNamed "lammastide/api.ErrText"=some 3:=by kernel_rfl
theorem zmU:(Tryz.prog.globals[3]?).map (·.type)=some 41:=by kernel_rfl
theorem zl0:Tryz.prog.globalNamed "lammastide/api.ErrExist"=some 6:=by kernel_rfl
theorem zl1:(Tryz.prog.globals[6]?).map (·.type)=some 41:=by kernel_rfl
theorem zmV:Tryz.prog.globalNamed "lammastide/api.ErrFull"=some 1:=by kernel_rfl
theorem zmW:(Tryz.prog.globals[1]?).map (·.type)=some 41:=by kernel_rfl
theorem zl2:Tryz.prog.cellsOf 48=11:=by kernel_rfl
theorem zmX:Tryz.prog.cellsOf 114=2:=by kernel_rfl
theorem zl3:Tryz.prog.cellsOf 46=1:=by kernel_rfl
theorem zmY{r:List (String×DataW Unit)}{W:World}(h:laidMet Tryz.prog (("internal/strconv.uint64pow10",Rows.laid_internal_strconv_uint64pow10)::r) W):Tab W:=
 Lib.tabIs_of_head znd znh Tryz.underlying243 Tryz.underlying157 znj zni h
def zmZ(a0 a1 a2 a3 a5 a6 a7:Addr):Nat→Addr
 |0=>a0|1=>a1|2=>a2|3=>a3|5=>a5|6=>a6|_=>a7
section
variable {H : Type} {enc : TypeId × Value → H} {W : World}
theorem zfj{fuel:Nat}{v:Value}{x:DataW H×List MemPlace}(h:DataW.trod enc Tryz.prog W 0 (fun _=>true) true fuel 43 [v]=some x): ∃ ds:List Int,Got W v ds:=by
 rcases open_ints Tryz.underlying43 Tryz.underlying3 zlY h with ⟨e2,_⟩|⟨a,len,cap,zs,e2,_,hlc,_,hz,_,hc,_⟩
 ·cases e2
  exact ⟨[],none,0,rfl,fun _=>⟨rfl,rfl⟩,fun ad ha=>by cases ha⟩
 ·cases e2
  have hzl:zs.length=cap:=by simpa using hz
  have hl':(zs.take len).length=len:=by simp;omega
  refine ⟨zs.take len,some a,cap,by rw [hl'],fun ha=>(by cases ha),fun ad ha j hj=> ?_⟩
  cases ha
  have hj':j<len:=by omega
  have hcell:=hc j (by omega)
  have e5:zs.getD j 0=(zs.take len)[j]:=by simp [List.getD,List.getElem?_eq_getElem (show j<zs.length by omega)]
  rw [e5] at hcell
  refine ⟨?_,hcell⟩
  rcases Nat.lt_or_ge a.block W.heap.size with h|h
  ·exact h
  ·have hb:W.heap.size≤(a.add j).block:=by rw [zi];exact h
   simp [World.cell?,Array.getElem?_eq_none hb] at hcell
theorem zhn{fuel:Nat}{v:Value}{x:DataW H×List MemPlace}(h:DataW.trod enc Tryz.prog W 0 (fun _=>true) true fuel 46 [v]=some x): ∃ ms:List (Int×Int),GotM W v ms:=by
 rcases Deep.open_slice_pairs Tryz.underlying46 Tryz.underlying114 zmX rfl rfl zlY zlY h with ⟨e2,_⟩|⟨a,len,cap,m,n,V0,V1,D0,D1,P0,P1,e2,_,hlc,_,hm,_,hx⟩
 ·cases e2
  exact ⟨[],none,0,rfl,fun _=>⟨rfl,rfl⟩,fun ad ha=>by cases ha⟩
 ·cases e2
  have hm':m=cap:=by simpa using hm
  have each: ∀ i,i<len→ ∃ q:Int×Int,W.cell? (a.add (i*2))=some (.int .i64 q.1)∧W.cell? (a.add (i*2+1))=some (.int .i64 q.2):=by
   intro i hi
   obtain ⟨c0,c1,t0,t1⟩:=hx i (by omega)
   obtain ⟨x0,e0,_,_⟩:=DataW.trod_int Tryz.underlying3 t0
   obtain ⟨x1,e1,_,_⟩:=DataW.trod_int Tryz.underlying3 t1
   exact ⟨(x0,x1),c0.trans (congrArg some (List.cons.inj e0).1),c1.trans (congrArg some (List.cons.inj e1).1)⟩
  obtain ⟨q,hq⟩:=Deep.choose_lt each
  refine ⟨(List.range len).map q,some a,cap,by simp,fun ha=>(by cases ha),fun ad ha j hj=> ?_⟩
  cases ha
  have hj':j<len:=by simpa using hj
  have e5:((List.range len).map q)[j]=q j:=by simp
  obtain ⟨h1,h2⟩:=hq j hj'
  rw [e5]
  refine ⟨?_,h1,h2⟩
  rcases Nat.lt_or_ge a.block W.heap.size with h|h
  ·exact h
  ·have hb:W.heap.size≤(a.add (j*2)).block:=by rw [zi];exact h
   simp [World.cell?,Array.getElem?_eq_none hb] at h1
end
end Go.Proofs.YtpeafgddbbojaaaGreatDoor
namespace Go.Proofs.YtpeafgddbbojaaaGreatDoor
open Go.RowKit Cal
set_option maxHeartbeats 1000000 in
set_option maxRecDepth 100000 in
theorem zfX(f:ByteArray)(e:Int)(sl:Value)(c u:Int)(ds:List Int)(w:World)(hd:Got w sl ds)(h20:ds.length≤20):
  Calls Tryz.prog 38 #[rv f e sl c u] w fun r w'=> ∃ sl',r= .returned (rv f e sl' c u)∧Ow w.heap.size w' sl' ds∧Below w.heap.size w w':=by
 obtain ⟨a,cap,rfl,hn,hs⟩:=hd
 obtain ⟨i0,hi,hz0,hz1,hz2⟩:=info_parts yZ
 unfold rv
 cases a with
 |none=>
  obtain ⟨h0,rfl⟩:=hn rfl
  have hds:ds=[]:=List.length_eq_zero_iff.1 h0
  subst hds
  clear hn hs h0
  simp only [List.length_nil]
  go_enter Tryz.func38,Tryz.ntmps38
  go_wp2
  exact bodyPost_ret (v:= .agg #[.string f,.int .i64 e,.slice none 0 0,.int .i64 c,.int .i64 u]) (by simp [results,Tryz.f38,go_sem]) rfl ⟨_,rfl,Ow.nil _ _,xt _ _ _⟩
 |some ad=>
  have hc:=hs ad rfl
  have HC:Hid (_):=hc
  clear hn hs hc
  go_enter Tryz.func38,Tryz.ntmps38
  go_wp2_with (first
   |(at_builtin;refine wpList_append_own _ rfl _ _ 43 rfl (w.heap.size+2) 3 i0 (.int .i64 0) 1 8 Tryz.underlying43 hi hz0 hz1 hz2 rfl (by decide) _ _ _ rfl (World.ownsRow_nil _ _ _ _) ad ds.length cap (ds.map (Value.int .i64)) rfl (by simp) ?c1 ?c2 ?c3 ?c4 ?c5 ?_)
   |go_in)
  case c1=>
   intro j v hv
   rw [List.getElem?_map] at hv
   obtain ⟨d,hd,rfl⟩:=Option.map_eq_some_iff.1 hv
   obtain ⟨hj,rfl⟩:=List.getElem?_eq_some_iff.1 hd
   exact (World.cell?_of_block (a:=ad.add j) ((xt w _ _).block _ (by rw [zi];exact (HC.out j hj).1))).trans (HC.out j hj).2
  case c2=>
   intro v hv
   obtain ⟨d,_,rfl⟩:=List.mem_map.1 hv
   rfl
  case c3=>unfold maxLen;omega
  case c4=>omega
  case c5=>simp
  ·intro v' w1 hown hgrow _
   have hb1:Below _ _ w1:=⟨hgrow.os,hgrow.tape,hgrow.output,hgrow.size,fun k hk=>hgrow.block k hk (by simp [Value.ownBlock])⟩
   have OW:=hid hown
   obtain ⟨a',c',rfl,_,_,_⟩:=xP OW.out h20
   have k0:=(hb1.block w.heap.size (by simp;omega)).trans (zH _ (zJ _ rfl))
   have k1:=(hb1.block (w.heap.size+1) (by simp)).trans (zJ _ (by simp))
   have K1:Hid (_):=k1
   have HB:Hid (Below w.heap.size w w1):=(xt w _ _).trans (hb1.mono (by simp;omega))
   obtain ⟨x0,x1,x2,x3,x4⟩:=zbE k0
   obtain ⟨y0,y1,y2,y3,y4⟩:=zbE k1
   have z2:=zY k0 2
   have t0:=zY k1 0
   have t1:=zY k1 1
   have t2:=zY k1 2
   have t3:=zY k1 3
   have t4:=zY k1 4
   clear hown hgrow hb1 HC
   go_wp2
   have g0:=zG w1 ⟨w.heap.size,2,none⟩ (.slice a' ds.length c')
   have q1:=(Below.heap_setCell w1 ⟨w.heap.size,2,none⟩ (.slice a' ds.length c') (w.heap.size+1) (fun e=>by have e':w.heap.size+1=w.heap.size:=e;omega)).trans K1.out
   have o1:=Ow.grown OW.out g0 (show w.heap.size<_ by omega)
   have b1:Below w.heap.size w (w1.setCell ⟨w.heap.size,2,none⟩ (.slice a' ds.length c')):=HB.out.grown g0 HB.out.size (fun k e=>by cases e;exact Nat.le_refl _)
   generalize w1.setCell ⟨w.heap.size,2,none⟩ (.slice a' ds.length c')=w2 at q1 o1 b1
   have m0:=zM (i:=0) (.string f) q1
   have m1:=zM (i:=1) (.int .i64 e) m0
   have m2:=zM (i:=2) (.slice a' ds.length c') m1
   have m3:=zM (i:=3) (.int .i64 c) m2
   have m4:=zM (i:=4) (.int .i64 u) m3
   have g4:w2.grownBy (((((w2.setCell ⟨w.heap.size+1,0,none⟩ (.string f)).setCell ⟨w.heap.size+1,1,none⟩ (.int .i64 e)).setCell ⟨w.heap.size+1,2,none⟩ (.slice a' ds.length c')).setCell ⟨w.heap.size+1,3,none⟩ (.int .i64 c)).setCell ⟨w.heap.size+1,4,none⟩ (.int .i64 u)) (some (w.heap.size+1)):=
    zL (zL (zL (zL (zG _ ⟨w.heap.size+1,0,none⟩ _) (zG _ ⟨w.heap.size+1,1,none⟩ _)) (zG _ ⟨w.heap.size+1,2,none⟩ _)) (zG _ ⟨w.heap.size+1,3,none⟩ _)) (zG _ ⟨w.heap.size+1,4,none⟩ _)
   change _=some (Obj.cells #[.string f,.int .i64 e,.slice a' ds.length c',.int .i64 c,.int .i64 u] 45 (0,0)) at m4
   clear m0 m1 m2 m3 x0 x1 x2 x3 x4 y0 y1 y2 y3 y4 z2 t0 t1 t2 t3 t4
   generalize ((((w2.setCell ⟨w.heap.size+1,0,none⟩ (.string f)).setCell ⟨w.heap.size+1,1,none⟩ (.int .i64 e)).setCell ⟨w.heap.size+1,2,none⟩ (.slice a' ds.length c')).setCell ⟨w.heap.size+1,3,none⟩ (.int .i64 c)).setCell ⟨w.heap.size+1,4,none⟩ (.int .i64 u)=w3 at m4 g4
   obtain ⟨c0,c1,c2,c3,c4⟩:=zbE m4
   exact bodyPost_ret (v:= .agg #[.string f,.int .i64 e,.slice a' ds.length c',.int .i64 c,.int .i64 u]) (by simp [results,Tryz.f38,go_sem,c0,c1,c2,c3,c4]) rfl
    ⟨_,rfl,zW (Ow.grown o1 g4 (by omega)) (by omega),b1.grown g4 b1.size (fun k e=>by cases e;omega)⟩
end Go.Proofs.YtpeafgddbbojaaaGreatDoor
