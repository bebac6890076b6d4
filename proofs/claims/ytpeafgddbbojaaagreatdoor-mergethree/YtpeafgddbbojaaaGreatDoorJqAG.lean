import Derived.Test.YtpeafgddbbojaaaGreatDoorJqAA
import Derived.Test.YtpeafgddbbojaaaGreatDoorJqAB
import Derived.Test.YtpeafgddbbojaaaGreatDoorJqAE
import Derived.Test.YtpeafgddbbojaaaGreatDoorJqAF
import Derived.Test.YtpeafgddbbojaaaGreatDoorJqAC
import Derived.Lib.AppendZerosOnto
import Derived.Lib.QuietBelow
import Derived.Maps.OwnSet
import Derived.Maps.OwnOps
import Derived.Lib.SplitLaws
import Derived.WalkKit
namespace Go.Proofs.YtpeafgddbbojaaaGreatDoor
open Go Go.RowKit Go.Sort Cal
attribute [local go_sem] Oper.semAt_some
def yD{α:Type} [DecidableEq α] (b x y:α):Option α:=if x=y∨y=b then some x else if x=b then some y else none
theorem zhz{α:Type} [DecidableEq α] (b x:α):yD b x x=some x:=by unfold yD;rw [if_pos (.inl rfl)]
theorem zem{x y:ByteArray}(h:x=y):(x.toList==y.toList)=true:=by rw [h];exact beq_self_eq_true _
theorem zcy{y x:ByteArray}(h:y≠x):(y.toList==x.toList)=false:=by
 rw [beq_eq_false_iff_ne,ByteArray.toList_eq,ByteArray.toList_eq]
 intro e
 apply h
 cases x;cases y
 simpa [Array.toList_inj] using e
theorem zbZ(b x y:ByteArray)(w:World):Calls Tryz.prog 44 #[.string b,.string x,.string y] w fun r w'=>r= .returned (.tuple #[.string ((yD b x y).getD ⟨#[]⟩),.bool (yD b x y).isSome])∧w'=w:=by
 have H:Hid (∀ (s:ByteArray) (k:Bool),((yD b x y).getD ⟨#[]⟩=s∧(yD b x y).isSome=k)→Ending.returned (.tuple #[.string s,.bool k])=Ending.returned (.tuple #[.string ((yD b x y).getD ⟨#[]⟩),.bool (yD b x y).isSome])):=fun s k h=>by rw [h.1,h.2]
 generalize hz:yD b x y=z at H
 have HZ:=hid hz
 clear hz
 by_cases h1:x=y
 ·have e1:(x.toList==y.toList)=true:=zem h1
  have R:Hid (z=some x):=by show z=some x;rw [←HZ.out];unfold yD;rw [if_pos (.inl h1)]
  clear h1 HZ
  go_enter Tryz.func44,Tryz.ntmps44
  go_wp2
  go_ret2
  exact ⟨H.out _ _ (by rw [R.out];exact ⟨rfl,rfl⟩),rfl⟩
 ·have e1:(x.toList==y.toList)=false:=zcy h1
  by_cases h2:y=b
  ·have e2:(y.toList==b.toList)=true:=zem h2
   have R:Hid (z=some x):=by show z=some x;rw [←HZ.out];unfold yD;rw [if_pos (.inr h2)]
   clear h1 h2 HZ
   go_enter Tryz.func44,Tryz.ntmps44
   go_wp2
   go_ret2
   exact ⟨H.out _ _ (by rw [R.out];exact ⟨rfl,rfl⟩),rfl⟩
  ·have e2:(y.toList==b.toList)=false:=zcy h2
   have n1: ¬ (x=y∨y=b):=by rintro (q|q);exact h1 q;exact h2 q
   by_cases h3:x=b
   ·have e3:(x.toList==b.toList)=true:=zem h3
    have R:Hid (z=some y):=by show z=some y;rw [←HZ.out];unfold yD;rw [if_neg n1,if_pos h3]
    clear h1 h2 h3 n1 HZ
    go_enter Tryz.func44,Tryz.ntmps44
    go_wp2
    go_ret2
    exact ⟨H.out _ _ (by rw [R.out];exact ⟨rfl,rfl⟩),rfl⟩
   ·have e3:(x.toList==b.toList)=false:=zcy h3
    have R:Hid (z=none):=by show z=none;rw [←HZ.out];unfold yD;rw [if_neg n1,if_neg h3]
    clear h1 h2 h3 n1 HZ
    go_enter Tryz.func44,Tryz.ntmps44
    go_wp2
    go_ret2
    exact ⟨H.out _ _ (by rw [R.out];exact ⟨rfl,rfl⟩),rfl⟩
theorem zgc(b x y:Bool)(w:World):Calls Tryz.prog 159 #[.bool b,.bool x,.bool y] w fun r w'=>r= .returned (.tuple #[.bool ((yD b x y).getD false),.bool (yD b x y).isSome])∧w'=w:=by
 cases b<;>cases x<;>cases y
 all_goals
  go_enter Tryz.func159,Tryz.ntmps159
  go_wp2
  go_ret2
  exact ⟨rfl,rfl⟩
theorem zgd(w:World):Calls Tryz.prog 203 #[.slice none 0 0,.int .i64 0] w fun r w'=>r= .returned (.slice none 0 0)∧w'=w:=by
 go_enter Tryz.func203,Tryz.ntmps203
 go_wp2
 go_ret
 exact ⟨rfl,rfl⟩
set_option maxHeartbeats 1000000 in
theorem zhA(n:Nat)(w:World)(h1:1≤n)(h2:n≤100000):Calls Tryz.prog 203 #[.slice none 0 0,.int .i64 n] w fun r w'=> ∃ g cap,r= .returned (.slice (some ⟨g,0,none⟩) 0 cap)∧Ow w.heap.size w' (.slice (some ⟨g,0,none⟩) 0 cap) []∧Below w.heap.size w w':=by
 obtain ⟨i0,hi,hz0,hz1,hz2⟩:=info_parts yZ
 have hold:(Builtin.firstCells i0.size 0 (.slice none 0 0)).run Tryz.prog w.drew= .ok ([]:List Value).toArray w.drew:=run_firstCells_none w.drew i0.size 0 0 0
 have hrz: ∀ ty,(Builtin.append_ #[43,3] ty #[.slice none 0 0,.int .i64 (n:Int)]).run Tryz.prog w=
   .ok (.slice (some ⟨w.heap.size,0,none⟩) n (grownCap w n 0 3)) (w.drew.alloc (.cells (([]:List Value).toArray++Builtin.zeroCells (Value.int .i64 0).cells n++Builtin.zeroCells (Value.int .i64 0).cells (grownCap w n 0 3 - n)) 3)):=fun ty=>by
  have h:=Lib.run_append_grow_zeros w 43 3 ty 3 i0 (.int .i64 0) .i64 .i64 Tryz.underlying43 Tryz.underlying3 hi hz0 none 0 0 [] hold n (by omega) (by rw [hz1];decide) (by omega) (by omega) (by rw [hz2];omega) (by rw [Nat.zero_add];exact growslice_fits (by omega) (by rw [hz2];omega))
  rw [Nat.zero_add] at h
  exact h
 have hG:=grownCap_ge w n 0 3
 have hGm:=grownCap_le_maxLen w n 0 3 (by unfold maxLen;omega)
 have hGi:(grownCap w n 0 3:Int)≤9223372036854775807:=by unfold maxLen at hGm;omega
 generalize grownCap w n 0 3=G at hrz hG hGm hGi
 have HW:Hid (Ow w.heap.size (w.drew.alloc (.cells (([]:List Value).toArray++Builtin.zeroCells (Value.int .i64 0).cells n++Builtin.zeroCells (Value.int .i64 0).cells (G - n)) 3)) (.slice (some ⟨w.heap.size,0,none⟩) 0 G) []∧Below w.heap.size w (w.drew.alloc (.cells (([]:List Value).toArray++Builtin.zeroCells (Value.int .i64 0).cells n++Builtin.zeroCells (Value.int .i64 0).cells (G - n)) 3))):=by
  refine ⟨⟨rfl,.inr ⟨w.heap.size,G,_,rfl,Nat.le_refl _,zJ (W:=w.drew) _ rfl,by simp,hGm,?_,by simp⟩⟩,zB (zI _) (zC _ _)⟩
  simp [size_zeroCells,Value.cells]
  omega
 clear hold hi hz0 hz1 hz2 hGm
 generalize w.drew.alloc (.cells (([]:List Value).toArray++Builtin.zeroCells (Value.int .i64 0).cells n++Builtin.zeroCells (Value.int .i64 0).cells (G - n)) 3)=W' at hrz HW
 go_enter Tryz.func203,Tryz.ntmps203
 go_wp2_with (at_builtin;refine Lib.wpList_append_run _ rfl _ _ _ _ rfl _ _ rfl rfl _ _ (hrz _) ?_)
 all_goals
  go_ret
  exact ⟨_,_,rfl,HW.out.1,HW.out.2⟩
theorem jv{w:World}{v:Value}{l:List Int}(h:Got w v l): ∃ a c,v= .slice a l.length c:=by
 obtain ⟨a,c,rfl,_⟩:=h
 exact ⟨_,_,rfl⟩
set_option maxHeartbeats 2000000 in
set_option maxRecDepth 100000 in
theorem zen(B:Nat)(v1 v2:Value)(l1 l2:List Int)(w:World)(h1:Got w v1 l1)(h2:Got w v2 l2)(hc:w.heap[B]? =some (.cells #[v1,v2] 43 (0,0)))(hl1:l1.length≤1000)(hl2:l2.length≤1000):
  Calls Tryz.prog 183 #[.slice (some ⟨B,0,none⟩) 2 2] w fun r w'=> ∃ v',r= .returned v'∧Ow w.heap.size w' v' (l1++l2)∧Below w.heap.size w w':=by
 have H1:=hid h1
 have H2:=hid h2
 obtain ⟨a1,k1,rfl⟩:=jv h1
 obtain ⟨a2,k2,rfl⟩:=jv h2
 have x0:w.cell? ⟨B,0,none⟩=some (.slice a1 l1.length k1):=by simp [World.cell?,hc]
 have x1:w.cell? ⟨B,1,none⟩=some (.slice a2 l2.length k2):=by simp [World.cell?,hc]
 have HL1:Hid (_):=hl1
 have HL2:Hid (_):=hl2
 generalize hn1:l1.length=n1 at hl1 x0 H1 hc
 generalize hn2:l2.length=n2 at hl2 x1 H2 hc
 have HN1:=hid hn1
 have HN2:=hid hn2
 have X0:Hid (∀ W,Below w.heap.size w W→W.cell? ⟨B,0,none⟩=some (.slice a1 n1 k1)):=fun W hW=>zD x0 hW
 have X1:Hid (∀ W,Below w.heap.size w W→W.cell? ⟨B,1,none⟩=some (.slice a2 n2 k2)):=fun W hW=>zD x1 hW
 have GR:Hid (Calls Tryz.prog 203 #[.slice none 0 0,.int .i64 ((n1+n2:Nat):Int)] w fun r w'=> ∃ a c,r= .returned (.slice a 0 c)∧Ow w.heap.size w' (.slice a 0 c) []∧Below w.heap.size w w'):=by
  by_cases hz:n1+n2=0
  ·rw [hz]
   refine Calls.mono (zgd w) ?_
   rintro r w' ⟨rfl,rfl⟩
   exact ⟨none,0,rfl,Ow.nil _ _,Below.refl _ _⟩
  ·refine Calls.mono (zhA (n1+n2) w (by omega) (by omega)) ?_
   rintro r w' ⟨g,cap,rfl,ho,hb⟩
   exact ⟨_,_,rfl,ho,hb⟩
 clear h1 h2 hn1 hn2 hc
 go_enter Tryz.func183,Tryz.ntmps183
 go_wp2
 go_loop [3,5,11] (fun n _ i=>((i= .int .i64 0∧n= .int .i64 0)∨(i= .int .i64 1∧n= .int .i64 n1))∨(i= .int .i64 2∧n= .int .i64 ((n1+n2:Nat):Int))) (fun _ _ i=>2 - (intOf i).toNat)
 case atStart=>exact .inl (.inl ⟨rfl,rfl⟩)
 case round=>
  rcases hrel with (⟨rfl,rfl⟩|⟨rfl,rfl⟩)|⟨rfl,rfl⟩
  ·go_wp2
   go_round
   case rel=>exact .inl (.inr ⟨rfl,by go_num⟩)
   case measure=>simp [intOf]
  ·go_wp2
   go_round
   case rel=>exact .inr ⟨rfl,by go_num⟩
   case measure=>simp [intOf]
  ·clear x0 x1
   go_wp2_with (go_at_call 203;refine Calls.mono GR.out ?_;rintro r w1 ⟨ga,gc,rfl,ho1,hb1⟩)
   have HO1:=hid ho1
   have HB1:=hid hb1
   clear ho1 hb1 GR
   go_loopw [6,8,27] (fun v _ i wr=>Hid (Below w.heap.size w wr)∧(((i= .int .i64 0∧Hid (Ow w.heap.size wr v []))∨(i= .int .i64 1∧Hid (Ow w.heap.size wr v l1)))∨(i= .int .i64 2∧Hid (Ow w.heap.size wr v (l1++l2))))) (fun _ _ i _=>2 - (intOf i).toNat)
   case atStart=>exact ⟨HB1.out,.inl (.inl ⟨rfl,HO1.out⟩)⟩
   case round=>
    obtain ⟨HB,hr⟩:=hrel
    have hzw:w.heap.size≤wr.heap.size:=HB.out.size
    rcases hr with (⟨rfl,HO⟩|⟨rfl,HO⟩)|⟨rfl,HO⟩
    ·have x0:=X0.out wr HB.out
     obtain ⟨oa,oc,rfl⟩:=zw HO.out
     have HR1:=hid (Got.step H1.out HB.out)
     have hl:([]:List Int).length+l1.length≤100000:=by have:=HL1.out;simp;omega
     have HLL:Hid (_):=hl
     clear hl
     go_wp2_with (first
      |(at_builtin;refine zdy rfl _ _ rfl w.heap.size [] l1 _ _ rfl HO.out rfl HR1.out HLL.out hzw ?_;intro v' w3 ho3 hb3;have HO3:=hid ho3;have HB3:Hid (Below w.heap.size w w3):=⟨hb3.os.trans HB.out.os,hb3.tape.trans HB.out.tape,hb3.output.trans HB.out.output,Nat.le_trans HB.out.size hb3.size,fun k hk=>(hb3.block k hk).trans (HB.out.block k hk)⟩;obtain ⟨na,nc,rfl⟩:=zw HO3.out;clear ho3 hb3)
      |go_in)
     go_roundw
     case rel=>exact ⟨HB3.out,.inl (.inr ⟨rfl,HO3.out⟩)⟩
     case measure=>simp [intOf]
    ·have x1:=X1.out wr HB.out
     obtain ⟨oa,oc,rfl⟩:=zw HO.out
     have HR2:=hid (Got.step H2.out HB.out)
     have hl:l1.length+l2.length≤100000:=by have:=HL1.out;have:=HL2.out;omega
     have HLL:Hid (_):=hl
     clear hl
     generalize l1.length=ll at HO ⊢
     go_wp2_with (first
      |(at_builtin;refine zdy rfl _ _ rfl w.heap.size l1 l2 _ _ rfl HO.out rfl HR2.out HLL.out hzw ?_;intro v' w3 ho3 hb3;have HO3:=hid ho3;have HB3:Hid (Below w.heap.size w w3):=⟨hb3.os.trans HB.out.os,hb3.tape.trans HB.out.tape,hb3.output.trans HB.out.output,Nat.le_trans HB.out.size hb3.size,fun k hk=>(hb3.block k hk).trans (HB.out.block k hk)⟩;obtain ⟨na,nc,rfl⟩:=zw HO3.out;clear ho3 hb3)
      |go_in)
     go_roundw
     case rel=>exact ⟨HB3.out,.inr ⟨rfl,by have:=HO3.out;rw [List.length_append] at this;exact this⟩⟩
     case measure=>simp [intOf]
    ·go_wp2
     go_ret
     exact ⟨_,rfl,HO.out,HB.out⟩
theorem zfk{a b:Nat}{W:World}{v:Value}{o:List Int}(h:Ow b W v o)(hab:a≤b):Ow a W v o:=by
 refine ⟨h.1,?_⟩
 rcases h.2 with q|⟨g,cap,cur,hv,hb,r⟩
 ·exact .inl q
 ·exact .inr ⟨g,cap,cur,hv,Nat.le_trans hab hb,r⟩
def ris(a b:List Int):List Int:=Go.Lib.compact ((a++b).mergeSort fun x y=>decide (x≤y))
theorem jS(a b:List Int):(ris a b).length≤a.length+b.length:=by
 unfold ris
 refine Nat.le_trans (jN _) ?_
 rw [List.length_mergeSort,List.length_append]
 exact Nat.le_refl _
set_option maxHeartbeats 1000000 in
theorem zbn(v1 v2:Value)(l1 l2:List Int)(w:World)(h1:Got w v1 l1)(h2:Got w v2 l2)(hl1:l1.length≤1000)(hl2:l2.length≤1000):
  Calls Tryz.prog 157 #[v1,v2] w fun r w'=> ∃ v',r= .returned v'∧Ow w.heap.size w' v' (ris l1 l2)∧Below w.heap.size w w':=by
 have CC:Hid (Calls _ _ _ _ _):=zen w.heap.size v1 v2 l1 l2 (w.alloc (.cells #[v1,v2] 43)) (h1.step (zC _ _)) (h2.step (zC _ _)) (zJ _ rfl) hl1 hl2
 have HA:Hid (Below w.heap.size w (w.alloc (.cells #[v1,v2] 43))):=zC _ _
 have HL:Hid ((l1++l2).length≤80000):=by show _≤_;rw [List.length_append];omega
 have HR:Hid (ris l1 l2=Go.Lib.compact ((l1++l2).mergeSort fun x y=>decide (x≤y))):=rfl
 obtain ⟨a1,k1,rfl⟩:=jv h1
 obtain ⟨a2,k2,rfl⟩:=jv h2
 generalize ris l1 l2=R at HR ⊢
 generalize l1++l2=L at CC HL HR
 clear h1 h2
 go_enter Tryz.func157,Tryz.ntmps157
 go_wp2_with fail
 go_at_call 183
 refine Calls.mono CC.out ?_
 rintro r w3 ⟨v3,rfl,ho3,hb3⟩
 have HB3:=hid (zB HA.out hb3)
 have hz2:w.heap.size≤(w.alloc (.cells #[.slice a1 l1.length k1,.slice a2 l2.length k2] 43)).heap.size:=HA.out.size
 have SO:Hid (Calls _ _ _ _ _):=zkt _ v3 _ w3 ho3 HL.out
 have HOW:Hid (∀ g,v3.ownBlock=some g→w.heap.size≤g):=fun g hg=>Nat.le_trans hz2 (World.ownsRow.lt ho3 g hg).1
 have HSL:Hid ((L.mergeSort fun x y=>decide (x≤y)).length≤80000):=by show _≤_;rw [List.length_mergeSort];exact HL.out
 obtain ⟨a3,k3,rfl⟩:=zw ho3
 clear ho3 hb3 CC
 generalize L.length=n3 at SO HOW ⊢
 go_wp2_with fail
 go_at_call 184
 refine Calls.mono SO.out ?_
 rintro r w4 ⟨rfl,ho4,hg4⟩
 have HB4:Hid (Below w.heap.size w w4):=HB3.out.grown hg4 HB3.out.size (fun k q=>HOW.out k q)
 have CO:Hid (Calls _ _ _ _ _):=zfW _ _ _ w4 ho4 HSL.out
 clear SO ho4 hg4
 go_wp2_with (go_at_call 185;refine Calls.mono CO.out ?_;rintro r w5 ⟨v5,rfl,ho5,hg5⟩)
 have HB5:Hid (Below w.heap.size w w5):=HB4.out.grown hg5 HB4.out.size (fun k q=>HOW.out k q)
 have HT:Hid (Ow w.heap.size w5 v5 R):=by
  rw [HR.out]
  exact zfk ho5 hz2
 clear ho5 hg5
 go_ret
 exact ⟨v5,rfl,HT.out,HB5.out⟩
set_option maxHeartbeats 1000000 in
set_option maxRecDepth 100000 in
theorem zbo(ms:List (Int×Int))(sl:Value)(w:World)(hd:Movs w sl ms):
  Calls Tryz.prog 161 #[sl] w fun r w'=> ∃ v,r= .returned v∧Ow w.heap.size w' v (ms.map Prod.fst)∧Below w.heap.size w w':=by
 obtain ⟨a,cap,rfl,h20,hcap,hc⟩:=hd
 obtain ⟨i0,hi,hz0,hz1,hz2⟩:=info_parts yZ
 have HC:Hid (_):=hc
 clear hc
 go_enter Tryz.func161,Tryz.ntmps161
 go_wp2
 go_loopw [3,5,8] (fun ov _ i wr=> ∃ m:Nat,m≤ms.length∧i= .int .i64 m∧Hid (Below w.heap.size w wr)∧Hid (Ow w.heap.size wr ov ((ms.map Prod.fst).take m))) (fun _ _ i _=>ms.length - (intOf i).toNat)
 case atStart=>exact ⟨0,Nat.zero_le _,rfl,Below.refl _ _,Ow.nil _ _⟩
 case round=>
  obtain ⟨m,hm,rfl,hB,HO⟩:=hrel
  by_cases hlt:m<ms.length
  ·obtain ⟨blk,rfl,hblk,hcell,hcell'⟩:=HC.out m hlt
   have hc1:=zD hcell hB.out
   have hc2:=zD hcell' hB.out
   have HT:Hid ((ms.map Prod.fst).take (m+1)=(ms.map Prod.fst).take m++[ms[m].1]):=by
    show _=_
    rw [List.take_succ_eq_append_getElem (by simpa using hlt)];simp
   have hlen:((ms.map Prod.fst).take m).length=m:=by simp;omega
   clear HC hcell hcell'
   generalize ms[m]=x at hc1 hc2 HT
   obtain ⟨x1,x2⟩:=x
   dsimp only at hc1 hc2 HT
   generalize (ms.map Prod.fst).take m=o at HO HT hlen
   obtain ⟨oa,oc,rfl⟩:=zw HO.out
   have hA:=zC wr (.cells #[.int .i64 x1,.int .i64 x2] 114)
   have hc0:(wr.alloc (.cells #[.int .i64 x1,.int .i64 x2] 114)).cell? ⟨wr.heap.size,0,none⟩=some (.int .i64 x1):=by rw [World.cell?_alloc_new];rfl
   have hsz:(wr.alloc (.cells #[.int .i64 x1,.int .i64 x2] 114)).heap.size=wr.heap.size+1:=World.size_alloc _ _
   have hzr:w.heap.size≤wr.heap.size:=hB.out.size
   go_upto_region 5 with (fail)
   generalize wr.alloc (.cells #[.int .i64 x1,.int .i64 x2] 114)=wq at hA hc0 hsz
   have HA:=hid hA
   have OW1:Hid (Ow w.heap.size (wq.alloc (.cells #[.int .i64 x1] 3)) (.slice oa o.length oc) o):=Ow.step HO.out (zB hA (zC _ _))
   have NC:Hid (_):=zaU wq x1
   have hzq:w.heap.size≤wq.heap.size:=by omega
   clear hA hc1 hc2 hsz
   go_upto_region 6 with (first
    |(at_builtin;refine wpList_append_own _ rfl _ _ 43 rfl w.heap.size 3 i0 (.int .i64 0) 1 8 Tryz.underlying43 hi hz0 hz1 hz2 rfl (by decide) _ _ _ rfl OW1.out ⟨wq.heap.size,0,none⟩ 1 1 [.int .i64 x1] rfl rfl NC.out (fun v hv=>by rw [List.mem_singleton.1 hv];rfl) (by unfold maxLen;omega) (by omega) (by simp;omega) ?_;intro v' w1 hown' hgrow _;obtain ⟨g',cap',rfl⟩:=ownsRow_succ hown')
    |go_in)
   have OW2:Hid (Ow w.heap.size w1 (.slice (some ⟨g',0,none⟩) (o.length+1) cap') (o++[x1])):=by
    show World.ownsRow _ _ _ _ _ _ _
    rw [List.length_append,List.map_append]
    exact hown'
   have HB1:Hid (Below w.heap.size w w1):=(zB hB.out (zB HA.out (zC wq (.cells #[.int .i64 x1] 3)))).grown (show (wq.alloc (.cells #[.int .i64 x1] 3)).grownBy w1 (Value.slice oa o.length oc).ownBlock from hgrow) (by rw [World.size_alloc];omega) (fun k q=>(World.ownsRow.lt OW1.out k q).1)
   clear hown' hgrow OW1 NC HO hB HA
   go_wp2
   go_roundw
   case rel=>exact ⟨m+1,by omega,by go_num,HB1.out,by rw [HT.out,←hlen];exact OW2.out⟩
   case measure=>simp [intOf];omega
  ·have HE:Hid ((ms.map Prod.fst).take m=ms.map Prod.fst):=List.take_of_length_le (by simp;omega)
   rw [HE.out] at HO
   obtain ⟨oa,oc,rfl⟩:=zw HO.out
   clear HC
   go_wp2
   go_ret
   exact ⟨_,rfl,HO.out,hB.out⟩
end Go.Proofs.YtpeafgddbbojaaaGreatDoor
namespace Go.Proofs.YtpeafgddbbojaaaGreatDoor
open Go Go.RowKit Go.Maps Cal
attribute [local go_sem] Oper.semAt_some
structure RowN(W:World)(B cap:Nat)(l:List Int):Prop where
 ex: ∃ cur,W.heap[B]? =some (.cells cur 3 (0,0))∧cur.size=cap∧ ∀ (j:Nat) (h:j<l.length),cur[j]? =some (.int .i64 l[j])
 le:l.length≤cap
theorem RowN.lt{W:World}{B cap:Nat}{l:List Int}(h:RowN W B cap l):B<W.heap.size:=by
 obtain ⟨cur,h1,_⟩:=h.ex
 exact (Array.getElem?_eq_some_iff.1 h1).1
theorem RowN.cell{W:World}{B cap:Nat}{l:List Int}(h:RowN W B cap l)(j:Nat)(hj:j<l.length):W.cell? ⟨B,j,none⟩=some (.int .i64 l[j]):=by
 obtain ⟨cur,h1,_,h3⟩:=h.ex
 simp [World.cell?,h1,h3 j hj]
theorem RowN.cold{W:World}{B cap:Nat}{l:List Int}(h:RowN W B cap l)(j:Nat):W.frozen? ⟨B,j,none⟩=false:=by
 obtain ⟨cur,h1,_⟩:=h.ex
 exact zF h1 j
theorem RowN.step{W W':World}{B cap:Nat}{l:List Int}(h:RowN W B cap l)(hb:Below W.heap.size W W'):RowN W' B cap l:=by
 have hlt:=h.lt
 obtain ⟨⟨cur,h1,h2,h3⟩,h4⟩:=h
 exact ⟨⟨cur,(hb.block _ hlt).trans h1,h2,h3⟩,h4⟩
theorem RowN.set{W:World}{B cap:Nat}{l:List Int}(h:RowN W B cap l)(i:Nat)(x:Int):RowN (W.setCell ⟨B,i,none⟩ (.int .i64 x)) B cap (l.set i x):=by
 obtain ⟨⟨cur,h1,h2,h3⟩,h4⟩:=h
 refine ⟨⟨_,zM (i:=i) _ h1,by simp [h2],fun j hj=> ?_⟩,by simpa using h4⟩
 have hj':j<l.length:=by simpa using hj
 rw [Array.getElem?_setIfInBounds,List.getElem_set]
 by_cases e:i=j
 ·subst e
  have:i<cur.size:=by omega
  simp [this]
 ·simp [e,h3 j hj']
theorem RowN.far{W:World}{B cap:Nat}{l:List Int}(h:RowN W B cap l)(i:Nat)(hi:l.length≤i)(v:Value):RowN (W.setCell ⟨B,i,none⟩ v) B cap l:=by
 obtain ⟨⟨cur,h1,h2,h3⟩,h4⟩:=h
 refine ⟨⟨_,zM (i:=i) _ h1,by simp [h2],fun j hj=> ?_⟩,h4⟩
 rw [Array.getElem?_setIfInBounds]
 have:i≠j:=by omega
 simp [this,h3 j hj]
theorem RowN.fars{B cap:Nat}{l:List Int}: ∀ (vs:List Value) (i:Nat) {W:World},RowN W B cap l→l.length≤i→RowN (W.setCells B i vs) B cap l
 |[],_,_,h,_=>h
 |v::r,i,_,h,hi=>RowN.fars r (i+1) (h.far i hi v) (by omega)
theorem RowN.take{W:World}{B cap:Nat}{l:List Int}(h:RowN W B cap l)(i:Nat):RowN W B cap (l.take i):=by
 obtain ⟨⟨cur,h1,h2,h3⟩,h4⟩:=h
 refine ⟨⟨cur,h1,h2,fun j hj=> ?_⟩,by rw [List.length_take];omega⟩
 have hj':j<l.length:=by rw [List.length_take] at hj;omega
 rw [h3 j hj',List.getElem_take]
set_option maxHeartbeats 1000000 in
theorem zbG(g:Nat)(lb:Array Value)(p:Int→Bool)(l:List Int)(B cap:Nat)(w:World)(hR:RowN w B cap l)(h8:l.length≤80000)(eg: ∀ args W,(callFunc g args).run Tryz.prog W= .ok (.enter g args) W)
  (hp: ∀ x∈l,∀ (W:World),Below w.heap.size w W→Calls Tryz.prog g (#[.int .i64 x]++lb) W fun r w'=>r= .returned (.bool (p x))∧Below W.heap.size W w'):
  Calls Tryz.prog 142 #[.slice (some ⟨B,0,none⟩) l.length cap,.func (.func g) #[] lb] w fun r w'=>Below w.heap.size w w'∧((r= .returned (.int .i64 (-1))∧ ∀ x∈l,p x=false)∨ ∃ (k:Nat) (h:k<l.length),r= .returned (.int .i64 k)∧p l[k]=true∧ ∀ (j:Nat) (hj:j<l.length),j<k→p l[j]=false):=by
 have HC:Hid (_):=hR
 have HP:Hid (_):=hp
 have hcap:=hR.le
 clear hR hp
 go_enter Tryz.func142,Tryz.ntmps142
 go_wp2
 go_loopw [5,8] (fun _ i wr=> ∃ m:Nat,m≤l.length∧i= .int .i64 m∧Hid (Below w.heap.size w wr)∧Hid (∀ (j:Nat) (h:j<l.length),j<m→p l[j]=false)) (fun _ i _=>l.length - (intOf i).toNat)
 case atStart=>exact ⟨0,Nat.zero_le _,rfl,Below.refl _ _,fun j _ h=>absurd h (Nat.not_lt_zero _)⟩
 case round=>
  obtain ⟨m,hm,rfl,hB,HA⟩:=hrel
  by_cases hlt:m<l.length
  ·have hcell2:=(HC.out.step hB.out).cell m hlt
   have hx:=HP.out l[m] (List.getElem_mem hlt) wr hB.out
   have HN:Hid (p l[m]=false→ ∀ (j:Nat) (h:j<l.length),j<m+1→p l[j]=false):=fun q j hj hjk=>by
    by_cases ej:j=m
    ·subst ej;exact q
    ·exact HA.out j hj (by omega)
   have HT:Hid (p l[m]=true→ ∃ (k:Nat) (h:k<l.length),(m:Int)=(k:Int)∧p l[k]=true∧ ∀ (j:Nat) (hj:j<l.length),j<k→p l[j]=false):=fun q=>⟨m,hlt,rfl,q,HA.out⟩
   clear HA HC HP
   generalize l[m]=x at hcell2 hx HN HT
   have HX:Hid (_):=hx
   clear hx
   cases hpx:p x with
   |true=>
    have HT':Hid (_):=HT.out hpx
    have HX':=HX.out
    rw [hpx] at HX'
    have HX2:Hid (_):=HX'
    clear HT HN HX HX'
    go_wp2_with (go_at_fn g;refine Calls.mono HX2.out ?_;rintro r w1 ⟨rfl,hb1⟩)
    go_ret
    obtain ⟨k,hk,e,q1,q2⟩:=HT'.out
    exact ⟨zB hB.out hb1,.inr ⟨k,hk,by rw [←e];rfl,q1,q2⟩⟩
   |false=>
    have HN':Hid (_):=HN.out hpx
    have HX':=HX.out
    rw [hpx] at HX'
    have HX2:Hid (_):=HX'
    clear HT HN HX HX'
    go_wp2_with (go_at_fn g;refine Calls.mono HX2.out ?_;rintro r w1 ⟨rfl,hb1⟩)
    go_roundw
    case rel=>exact ⟨m+1,by omega,by go_num,zB hB.out hb1,HN'.out⟩
    case measure=>simp [intOf];omega
  ·have HR:Hid (∀ x∈l,p x=false):=fun x hx=>by
    obtain ⟨j,hj,rfl⟩:=List.mem_iff_getElem.1 hx
    exact HA.out j hj (by omega)
   clear HA HC HP
   go_wp2
   go_ret
   exact ⟨hB.out,.inl ⟨rfl,HR.out⟩⟩
structure InvN(l:List Int)(p:Int→Bool)(a b:Nat)(L:List Int):Prop where
 len:L.length=l.length
 ahead:L.take a=(l.take b).filter fun x=> !p x
 rest:L.drop b=l.drop b
 fst:a<b
theorem InvN.get{l:List Int}{p:Int→Bool}{a b:Nat}{L:List Int}(h:InvN l p a b L)(hb:b<l.length):L[b]'(by rw [h.len];exact hb)=l[b]:=by
 have e:=congrArg (fun z:List Int=>z[0]?) h.rest
 simp only [List.getElem?_drop,Nat.add_zero] at e
 rw [List.getElem?_eq_getElem hb,List.getElem?_eq_getElem (by rw [h.len];exact hb)] at e
 exact Option.some.inj e
theorem zb0{L l:List Int}{b:Nat}(h:L.drop b=l.drop b):L.drop (b+1)=l.drop (b+1):=by
 rw [←List.drop_drop,←List.drop_drop,h]
theorem InvN.skip{l:List Int}{p:Int→Bool}{a b:Nat}{L:List Int}(h:InvN l p a b L)(hb:b<l.length)(q:p l[b]=true):InvN l p a (b+1) L:=
 ⟨h.len,by rw [h.ahead,List.take_succ_eq_append_getElem hb,List.filter_append];simp [q],zb0 h.rest,by have:=h.fst;omega⟩
theorem InvN.keep{l:List Int}{p:Int→Bool}{a b:Nat}{L:List Int}(h:InvN l p a b L)(hb:b<l.length)(q:p l[b]=false):InvN l p (a+1) (b+1) (L.set a l[b]):=by
 have hf:=h.fst
 have hl:=h.len
 refine ⟨by simpa using hl,?_,?_,by omega⟩
 ·rw [List.take_succ_eq_append_getElem (by rw [List.length_set];omega),List.take_set_of_le (Nat.le_refl _),List.getElem_set_self,h.ahead,List.take_succ_eq_append_getElem hb,List.filter_append]
  simp [q]
 ·rw [List.drop_set_of_lt (by omega)]
  exact zb0 h.rest
theorem InvN.start{l:List Int}{p:Int→Bool}{k:Nat}(hk:k<l.length)(q:p l[k]=true)(h: ∀ (j:Nat) (hj:j<l.length),j<k→p l[j]=false):InvN l p k (k+1) l:=by
 refine ⟨rfl,?_,rfl,Nat.lt_succ_self _⟩
 rw [List.take_succ_eq_append_getElem hk,List.filter_append]
 have:(l.take k).filter (fun x=> !p x)=l.take k:=by
  rw [List.filter_eq_self]
  intro x hx
  obtain ⟨j,hj,rfl⟩:=List.mem_iff_getElem.1 hx
  rw [List.length_take] at hj
  rw [List.getElem_take,h j (by omega) (by omega)];rfl
 rw [this]
 simp [q]
theorem InvN.done{l:List Int}{p:Int→Bool}{a b:Nat}{L:List Int}(h:InvN l p a b L)(hb:l.length≤b):L.take a=l.filter fun x=> !p x:=by
 rw [h.ahead,List.take_of_length_le hb]
theorem zi8: ∀ w:World,(zeroValue 3).run Tryz.prog w= .ok (.int .i64 0) w:=fun w=>by kernel_rfl
set_option maxHeartbeats 2000000 in
set_option maxRecDepth 100000 in
theorem zbp(g:Nat)(lb:Array Value)(p:Int→Bool)(l:List Int)(B cap:Nat)(w:World)(hR:RowN w B cap l)(h8:l.length≤80000)(eg: ∀ args W,(callFunc g args).run Tryz.prog W= .ok (.enter g args) W)
  (hp: ∀ x∈l,∀ (W:World),w.grownBy W (some B)→Calls Tryz.prog g (#[.int .i64 x]++lb) W fun r w'=>r= .returned (.bool (p x))∧Below W.heap.size W w'):
  Calls Tryz.prog 156 #[.slice (some ⟨B,0,none⟩) l.length cap,.func (.func g) #[] lb] w fun r w'=>r= .returned (.slice (some ⟨B,0,none⟩) (l.filter fun x=> !p x).length cap)∧RowN w' B cap (l.filter fun x=> !p x)∧w.grownBy w' (some B):=by
 have IX:Hid (Calls _ _ _ _ _):=zbG g lb p l B cap w hR h8 eg (fun x hx W hW=>hp x hx W (zO hW _))
 have HC:Hid (_):=hR
 have HP:=hid hp
 have hcap:=hR.le
 clear hR hp
 go_enter Tryz.func156,Tryz.ntmps156
 go_upto_region 2 with (go_at_call 142;refine Calls.mono IX.out ?_;rintro r w1 ⟨hb1,⟨rfl,hall⟩|⟨k,hk,rfl,hpk,hpj⟩⟩)
 ·have HALL:=hid hall
  clear hall
  go_wp2
  go_ret
  have e:(l.filter fun x=> !p x)=l:=by
   rw [List.filter_eq_self]
   intro x hx
   rw [HALL.out x hx];rfl
  rw [e]
  exact ⟨rfl,HC.out.step hb1,zO hb1 _⟩
 ·have HI:=hid (InvN.start hk hpk hpj)
  have HC1:=hid (HC.out.step hb1)
  have HG1:Hid (w.grownBy w1 (some B)):=zO hb1 _
  obtain ⟨ki,hki⟩: ∃ ki:Int,ki=(k:Int):=⟨_,rfl⟩
  rw [←hki]
  have hk0:0≤ki:=by omega
  have hk1:ki<80000:=by omega
  have HKI:=hid hki
  clear hpk hpj IX HC hb1 hki
  have hq:(ki== -1)=false:=by rw [beq_eq_false_iff_ne];omega
  go_upto_region 4 with fail
  clear hq
  go_wp2
  go_loopw [5,6,7] (fun i j _ wr=> ∃ (a b:Nat) (L:List Int),i= .int .i64 a∧j= .int .i64 b∧a<b∧b≤l.length∧Hid (InvN l p a b L)∧Hid (RowN wr B cap L)∧Hid (w.grownBy wr (some B))) (fun _ j _ _=>l.length - (intOf j).toNat)
  case atStart=>exact ⟨k,k+1,l,by rw [HKI.out],by rw [HKI.out];go_num,by omega,by omega,HI.out,HC1.out,HG1.out⟩
  case round=>
   obtain ⟨a,b,L,rfl,rfl,hab,hbl,HI,HRr,HGr⟩:=hrel
   clear HC1 HG1
   by_cases hlt:b<l.length
   ·have cb:=HRr.out.cell b (by rw [HI.out.len];exact hlt)
    rw [HI.out.get hlt] at cb
    have hx:=HP.out l[b] (List.getElem_mem hlt) wr HGr.out
    have HSK:Hid (p l[b]=true→InvN l p a (b+1) L):=fun q=>HI.out.skip hlt q
    have HKE:Hid (p l[b]=false→InvN l p (a+1) (b+1) (L.set a l[b])):=fun q=>HI.out.keep hlt q
    have ha:a<L.length:=by rw [HI.out.len];omega
    clear HP HI
    generalize l[b]=x at cb hx HSK HKE
    have HX:Hid (_):=hx
    clear hx
    cases hpx:p x with
    |true=>
     have HI':Hid (_):=HSK.out hpx
     have HX':=HX.out
     rw [hpx] at HX'
     have HX2:=hid HX'
     clear HX HX' HSK HKE
     go_wp2_with (go_at_fn g;refine Calls.mono HX2.out ?_;rintro r w2 ⟨rfl,hb2⟩)
     go_roundw
     case rel=>exact ⟨a,b+1,L,rfl,by go_num,by omega,by omega,HI'.out,HRr.out.step hb2,zL HGr.out (zO hb2 _)⟩
     case measure=>simp [intOf];omega
    |false=>
     have HI':Hid (_):=HKE.out hpx
     have HX':=HX.out
     rw [hpx] at HX'
     have HX2:=hid HX'
     clear HX HX' HSK HKE
     go_wp2_with (go_at_fn g;refine Calls.mono HX2.out ?_;rintro r w2 ⟨rfl,hb2⟩;have HR2:=hid (HRr.out.step hb2);have ca:=HR2.out.cell a ha;have fa:=HR2.out.cold a)
     go_roundw
     case rel=>exact ⟨a+1,b+1,L.set a x,by go_num,by go_num,by omega,by omega,HI'.out,HR2.out.set a x,zL (zL HGr.out (zO hb2 _)) (zG w2 ⟨B,a,none⟩ _)⟩
     case measure=>simp [intOf];omega
   ·have hcl: ∀ ty,(Builtin.clear_ #[43] ty #[.slice (some ⟨B,a,none⟩) (l.length - a) (cap - a)]).run Tryz.prog wr= .ok (.tuple #[]) (wr.setCells B a (List.replicate (l.length - a) (.int .i64 0))):=
     fun ty=>Lib.run_clear_slice wr _ _ ty _ Tryz.underlying43 zi8 rfl rfl B a _ _ (by omega) (fun j hj=>by rw [HRr.out.cell (a+j) (by rw [HI.out.len];omega)];rfl) (fun j hj=>HRr.out.cold (a+j))
    have HDN:=hid (HI.out.done (by omega))
    have hla:(l.filter fun x=> !p x).length=a:=by
     rw [←HDN.out,List.length_take,HI.out.len];omega
    have HLA:=hid hla
    clear hla
    clear HP HI
    go_wp2
    go_ret
    refine ⟨by rw [HLA.out];rfl,?_,zL HGr.out (zbQ B _ _ _)⟩
    have:=(HRr.out.take a).fars (List.replicate (l.length - a) (.int .i64 0)) a (by rw [List.length_take];omega)
    rwa [HDN.out] at this
set_option maxHeartbeats 1000000 in
theorem zbq(g:Nat)(lb:Array Value)(w:World):
  Calls Tryz.prog 156 #[.slice none 0 0,.func (.func g) #[] lb] w fun r w'=>r= .returned (.slice none 0 0)∧w'=w:=by
 have IX:Hid (Calls Tryz.prog 142 #[.slice none 0 0,.func (.func g) #[] lb] w fun r w'=>r= .returned (.int .i64 (-1))∧w'=w):=by
  show Calls _ _ _ _ _
  go_enter Tryz.func142,Tryz.ntmps142
  go_wp2
  go_loopw [5,8] (fun _ i wr=>i= .int .i64 0∧wr=w) (fun _ _ _=>0)
  case atStart=>exact ⟨rfl,rfl⟩
  case round=>
   obtain ⟨rfl,rfl⟩:=hrel
   go_wp2
   go_ret
   exact ⟨rfl,rfl⟩
 go_enter Tryz.func156,Tryz.ntmps156
 go_wp2_with (go_at_call 142;refine Calls.mono IX.out ?_;rintro r w1 ⟨rfl,rfl⟩)
 go_ret
 exact ⟨rfl,rfl⟩
end Go.Proofs.YtpeafgddbbojaaaGreatDoor
namespace Go.Proofs.YtpeafgddbbojaaaGreatDoor
open Go Go.RowKit Go.Maps Go.Sort Cal
attribute [local go_sem] Oper.semAt_some
def ziJ(bl al cl:List Int)(d:Int):Bool:= !(yD (decide (d∈bl)) (decide (d∈al)) (decide (d∈cl))).getD false
def jSk(bl al cl:List Int):List Int:=(ris al cl).filter fun d=> !ziJ bl al cl d
set_option maxHeartbeats 1000000 in
set_option maxRecDepth 100000 in
theorem zbH(d:Int)(B1 B2 B3:Nat)(v1 v2 v3:Value)(l1 l2 l3:List Int)(w:World)(b1:Boxed w B1 43 v1)(b2:Boxed w B2 43 v2)(b3:Boxed w B3 43 v3)(h1:Ints w v1 l1)(h2:Ints w v2 l2)(h3:Ints w v3 l3):
  Calls Tryz.prog 158 #[.int .i64 d,.pointer (some ⟨B1,0,none⟩),.pointer (some ⟨B2,0,none⟩),.pointer (some ⟨B3,0,none⟩)] w fun r w'=>r= .returned (.bool (ziJ l1 l2 l3 d))∧Below w.heap.size w w':=by
 have C1:Hid (∀ k os,Calls Tryz.prog 102 #[v1,.int .i64 d] (grow (redrawn w k) os) fun r w''=>r= .returned (.bool (decide (d∈l1)))∧ ∃ p:Regrown,w''=grow (redrawn w p.d) p.os):=fun k os=>Calls.regrown_of (xD d l1 v1 _ (h1.step (below_regrown _ _ _)) _ (by simp))
 have C2:Hid (∀ k os,Calls Tryz.prog 102 #[v2,.int .i64 d] (grow (redrawn w k) os) fun r w''=>r= .returned (.bool (decide (d∈l2)))∧ ∃ p:Regrown,w''=grow (redrawn w p.d) p.os):=fun k os=>Calls.regrown_of (xD d l2 v2 _ (h2.step (below_regrown _ _ _)) _ (by simp))
 have C3:Hid (∀ k os,Calls Tryz.prog 102 #[v3,.int .i64 d] (grow (redrawn w k) os) fun r w''=>r= .returned (.bool (decide (d∈l3)))∧ ∃ p:Regrown,w''=grow (redrawn w p.d) p.os):=fun k os=>Calls.regrown_of (xD d l3 v3 _ (h3.step (below_regrown _ _ _)) _ (by simp))
 have G:Hid (ziJ l1 l2 l3 d= !(yD (decide (d∈l1)) (decide (d∈l2)) (decide (d∈l3))).getD false):=rfl
 generalize decide (d∈l1)=q1 at C1 G
 generalize decide (d∈l2)=q2 at C2 G
 generalize decide (d∈l3)=q3 at C3 G
 generalize ziJ l1 l2 l3 d=R at G ⊢
 have O:Hid (∀ k os,Calls Tryz.prog 159 #[.bool q1,.bool q2,.bool q3] (grow (redrawn w k) os) fun r w''=>r= .returned (.tuple #[.bool ((yD q1 q2 q3).getD false),.bool (yD q1 q2 q3).isSome])∧ ∃ p:Regrown,w''=grow (redrawn w p.d) p.os):=fun k os=>Calls.regrown_of ((zgc q1 q2 q3 _).mono (by rintro r w' ⟨rfl,rfl⟩;exact ⟨rfl,Below.refl _ _⟩))
 have X1:=cell_regrown b1.cell
 have X2:=cell_regrown b2.cell
 have X3:=cell_regrown b3.cell
 obtain ⟨a1,c1,rfl,_⟩:=h1
 obtain ⟨a2,c2,rfl,_⟩:=h2
 obtain ⟨a3,c3,rfl,_⟩:=h3
 have x1:=b1.cell
 have x2:=b2.cell
 have x3:=b3.cell
 generalize (yD q1 q2 q3).getD false=g1 at O G
 generalize (yD q1 q2 q3).isSome=g2 at O
 clear b1 b2 b3
 go_enter Tryz.func158,Tryz.ntmps158
 go_upto_region 1 with (fail)
 refine wp_region_quiet_below (by kernel_rfl) (by kernel_rfl) ?_
 repeat (quiet_step (first|(go_at_call 102;first|exact C1.out _ _|exact C2.out _ _|exact C3.out _ _)|(go_at_call 159;exact O.out _ _)))
 refine wpQuiet_nil ?_
 intro w3 hw'
 have hb3:Below w.heap.size w w3:=by
  obtain ⟨⟨dq,osq⟩,hw''⟩:=hw'
  subst hw''
  exact below_regrown _ _ _
 clear hw' X1 X2 X3 x1 x2 x3
 go_wp2
 go_ret
 exact ⟨by rw [G.out];rfl,hb3⟩
theorem zkI{base B cap:Nat}{W:World}{l:List Int}(h:Ow base W (.slice (some ⟨B,0,none⟩) l.length cap) l):RowN W B cap l:=by
 rcases h.2 with ⟨h0,_⟩|⟨g,c,cur,hv,hb,hg,hcap,hmax,hsz,htake⟩
 ·cases h0
 ·cases hv
  refine ⟨⟨cur,hg,by simpa using hsz,fun j hj=> ?_⟩,hcap⟩
  have:=World.ownsRow.cellAt h j (by omega)
  rw [List.getElem?_map,List.getElem?_eq_getElem hj] at this
  simpa [World.cell?,hg] using this
theorem zkJ{base B cap:Nat}{W:World}{l:List Int}(h:RowN W B cap l)(hb:base≤B)(hmax:cap≤maxLen):Ow base W (.slice (some ⟨B,0,none⟩) l.length cap) l:=by
 obtain ⟨⟨cur,h1,h2,h3⟩,h4⟩:=h
 refine ⟨by simp,.inr ⟨B,cap,cur,rfl,hb,h1,h4,hmax,by simpa using h2,?_⟩⟩
 rw [Nat.mul_one]
 refine List.ext_getElem (by simp;omega) (fun j hj1 hj2=> ?_)
 have hj:j<l.length:=by simpa using hj2
 have e:=h3 j hj
 have hc:j<cur.size:=by omega
 rw [Array.getElem?_eq_getElem hc] at e
 simp [Option.some.inj e]
set_option maxHeartbeats 1000000 in
set_option maxRecDepth 100000 in
theorem zcz(v1 v2 v3:Value)(l1 l2 l3:List Int)(w:World)(h1:Ints w v1 l1)(h2:Ints w v2 l2)(h3:Ints w v3 l3)(g2:Got w v2 l2)(g3:Got w v3 l3)(hl2:l2.length≤1000)(hl3:l3.length≤1000):
  Calls Tryz.prog 125 #[v1,v2,v3] w fun r w'=> ∃ v',r= .returned v'∧Ow w.heap.size w' v' (jSk l1 l2 l3)∧Below w.heap.size w w':=by
 have a1:Below w.heap.size w (w.alloc (.cells #[v1] 43)):=zC _ _
 have a2:Below w.heap.size w ((w.alloc (.cells #[v1] 43)).alloc (.cells #[v2] 43)):=zB a1 (zC _ _)
 have a3:Below w.heap.size w (((w.alloc (.cells #[v1] 43)).alloc (.cells #[v2] 43)).alloc (.cells #[v3] 43)):=zB a2 (zC _ _)
 have b1:Boxed (((w.alloc (.cells #[v1] 43)).alloc (.cells #[v2] 43)).alloc (.cells #[v3] 43)) w.heap.size 43 v1:=((Boxed.new w 43 v1).alloc _).alloc _
 have b2:Boxed (((w.alloc (.cells #[v1] 43)).alloc (.cells #[v2] 43)).alloc (.cells #[v3] 43)) (w.heap.size+1) 43 v2:=by
  have:=(Boxed.new (w.alloc (.cells #[v1] 43)) 43 v2).alloc (.cells #[v3] 43)
  rwa [World.size_alloc] at this
 have b3:Boxed (((w.alloc (.cells #[v1] 43)).alloc (.cells #[v2] 43)).alloc (.cells #[v3] 43)) (w.heap.size+1+1) 43 v3:=by
  have:=Boxed.new ((w.alloc (.cells #[v1] 43)).alloc (.cells #[v2] 43)) 43 v3
  rwa [World.size_alloc,World.size_alloc] at this
 have RI:Hid (Calls _ _ _ _ _):=zbn v2 v3 l2 l3 _ (g2.step a3) (g3.step a3) hl2 hl3
 have HI:Hid (Ints w v1 l1∧Ints w v2 l2∧Ints w v3 l3):=⟨h1,h2,h3⟩
 have HRL:Hid ((ris l2 l3).length≤80000):=by show _≤_;have:=jS l2 l3;omega
 have c1:=b1.cell
 have c2:=b2.cell
 have c3:=b3.cell
 have HA:Hid (_):=a3
 have HBX:Hid (_∧_∧_):=⟨b1,b2,b3⟩
 obtain ⟨x1,k1,rfl,z1⟩:=h1
 clear z1
 obtain ⟨x2,k2,rfl,z2⟩:=h2
 clear z2
 obtain ⟨x3,k3,rfl,z3⟩:=h3
 clear z3
 have HJ:Hid (jSk l1 l2 l3=(ris l2 l3).filter fun d=> !ziJ l1 l2 l3 d):=rfl
 have HG:Hid (∀ d B1 B2 B3 v1 v2 v3 W,Boxed W B1 43 v1→Boxed W B2 43 v2→Boxed W B3 43 v3→Ints W v1 l1→Ints W v2 l2→Ints W v3 l3→Calls Tryz.prog 158 #[.int .i64 d,.pointer (some ⟨B1,0,none⟩),.pointer (some ⟨B2,0,none⟩),.pointer (some ⟨B3,0,none⟩)] W fun r w'=>r= .returned (.bool (ziJ l1 l2 l3 d))∧Below W.heap.size W w'):=fun d B1 B2 B3 v1 v2 v3 W=>zbH d B1 B2 B3 v1 v2 v3 l1 l2 l3 W
 generalize jSk l1 l2 l3=J at HJ ⊢
 generalize ziJ l1 l2 l3=p at HJ HG
 clear a1 a2 a3 b1 b2 b3 g2 g3
 go_enter Tryz.func125,Tryz.ntmps125
 go_upto_region 1 with fail
 generalize ((w.alloc (.cells #[.slice x1 l1.length k1] 43)).alloc (.cells #[.slice x2 l2.length k2] 43)).alloc (.cells #[.slice x3 l3.length k3] 43)=W3 at RI c1 c2 c3 HA HBX ⊢
 have HI3:Hid (Ints W3 (.slice x1 l1.length k1) l1∧Ints W3 (.slice x2 l2.length k2) l2∧Ints W3 (.slice x3 l3.length k3) l3):=⟨HI.out.1.step HA.out,HI.out.2.1.step HA.out,HI.out.2.2.step HA.out⟩
 clear HI
 generalize l1.length=n1 at*
 generalize l2.length=n2 at*
 generalize l3.length=n3 at*
 generalize ris l2 l3=L at RI HRL HJ
 generalize w.heap.size+1+1=B3 at*
 generalize w.heap.size+1=B2 at*
 go_wp2_with fail
 go_at_call 157
 refine Calls.mono RI.out ?_
 rintro r w4 ⟨v4,rfl,ho4,hb4⟩
 have HP:Hid (∀ x (W:World),Below W3.heap.size W3 W→Calls Tryz.prog 158 (#[.int .i64 x]++ #[.pointer (some ⟨w.heap.size,0,none⟩),.pointer (some ⟨B2,0,none⟩),.pointer (some ⟨B3,0,none⟩)]) W fun r w'=>r= .returned (.bool (p x))∧Below W.heap.size W w'):=fun x W hW=>HG.out x w.heap.size B2 B3 _ _ _ W ((hW.block _ HBX.out.1.lt).trans HBX.out.1) ((hW.block _ HBX.out.2.1.lt).trans HBX.out.2.1) ((hW.block _ HBX.out.2.2.lt).trans HBX.out.2.2) (HI3.out.1.step hW) (HI3.out.2.1.step hW) (HI3.out.2.2.step hW)
 have HB4:=hid hb4
 have DF:Hid (Calls Tryz.prog 156 #[v4,.func (.func 158) #[] #[.pointer (some ⟨w.heap.size,0,none⟩),.pointer (some ⟨B2,0,none⟩),.pointer (some ⟨B3,0,none⟩)]] w4 fun r w'=> ∃ v',r= .returned v'∧Ow W3.heap.size w' v' (L.filter fun d=> !p d)∧Below W3.heap.size W3 w'):=by
  show Calls _ _ _ _ _
  rcases ho4.2 with ⟨rfl,h0⟩|⟨g,cap,cur,rfl,hb,hg,hcap,hmax,hsz,htake⟩
  ·have hL:L=[]:=List.length_eq_zero_iff.1 h0
   subst hL
   refine (zbq _ _ w4).mono ?_
   rintro r w' ⟨rfl,rfl⟩
   exact ⟨_,rfl,Ow.nil _ _,HB4.out⟩
  ·refine (zbp 158 _ p L g cap w4 (zkI ho4) HRL.out (fun args W=>by kernel_rfl) (fun x _ W hW=>HP.out x W (HB4.out.grown hW HB4.out.size (fun k q=>by cases q;exact hb)))).mono ?_
   rintro r w' ⟨rfl,hr,hg'⟩
   exact ⟨_,rfl,zkJ hr hb hmax,HB4.out.grown hg' HB4.out.size (fun k q=>by cases q;exact hb)⟩
 obtain ⟨a4,k4,rfl⟩:=zw ho4
 clear ho4 hb4 HP HG RI c1 c2 c3
 generalize L.length=n4 at DF HRL ⊢
 go_wp2_with (go_at_call 156;refine Calls.mono DF.out ?_;rintro r w5 ⟨v5,rfl,ho5,hb5⟩)
 go_ret
 refine ⟨v5,rfl,?_,zB HA.out hb5⟩
 rw [HJ.out]
 exact zfk ho5 HA.out.size
def gV(o:Int×Bool):Value:= .agg #[.int .i64 o.1,.bool o.2]
theorem zma(w:World):(zeroValue 197).run Tryz.prog w= .ok (.agg #[.int .i64 0,.bool false]) w:=by kernel_rfl
set_option maxHeartbeats 1000000 in
set_option maxRecDepth 100000 in
theorem zdB{w W:World}{b x y:Int×Bool}{a:Act}{B:Nat}(o:Int×Bool)(k:Bool)(h:yD b x y=(if k then some o else none))(ho:k=false→o=(0,false))(h6:a.tmps[6]? =some (.pointer (some ⟨B,0,none⟩)))(h7:a.tmps[7]? =some (.bool k))
  (c0:W.cell? ⟨B,0,none⟩=some (.int .i64 o.1)) (c1:W.cell? ⟨B,1,none⟩=some (.bool o.2)) (hb:Below w.heap.size w W) (hd:a.defers=[]):
  bodyPost Tryz.prog Tryz.f162 (fun r w'=>r= .returned (.tuple #[gV ((yD b x y).getD (0,false)),.bool (yD b x y).isSome])∧Below w.heap.size w w') Exit.ret a W:=by
 refine bodyPost_ret (v:= .tuple #[.agg #[.int .i64 o.1,.bool o.2],.bool k]) ?_ hd ⟨?_,hb⟩
 ·simp [results,Tryz.f162,go_sem,h6,h7,c0,c1]
 ·rw [h]
  cases k
  ·rw [ho rfl];rfl
  ·rfl
theorem jw{W:World}{B:Nat}{u v:Value}{t:TypeId}(h:W.heap[B]? =some (.cells #[u,v] t (0,0))):W.cell? ⟨B,0,none⟩=some u∧W.cell? ⟨B,1,none⟩=some v:=⟨by simp [World.cell?,h],by simp [World.cell?,h]⟩
theorem yj{w:World}{b x y:Int×Bool}{a:Act}(o1 o2 o3:Obj)(o:Int×Bool)(h:yD b x y=some o)(h6:a.tmps[6]? =some (.pointer (some ⟨w.heap.size+1+1+1,0,none⟩)))(h7:a.tmps[7]? =some (.bool true))(hd:a.defers=[]):
  bodyPost Tryz.prog Tryz.f162 (fun r w'=>r= .returned (.tuple #[gV ((yD b x y).getD (0,false)),.bool (yD b x y).isSome])∧Below w.heap.size w w') Exit.ret a ((((w.alloc o1).alloc o2).alloc o3).alloc (.cells #[.int .i64 o.1,.bool o.2] 197)):=by
 have hB:((((w.alloc o1).alloc o2).alloc o3).alloc (.cells #[.int .i64 o.1,.bool o.2] 197)).heap[w.heap.size+1+1+1]? =some (.cells #[.int .i64 o.1,.bool o.2] 197 (0,0)):=zJ _ (by simp [World.size_alloc])
 exact zdB o true (by rw [h];rfl) (fun q=>by cases q) h6 h7 (jw hB).1 (jw hB).2 (zB (zB (zB (zC _ _) (zC _ _)) (zC _ _)) (zC _ _)) hd
theorem vz{w:World}{b x y:Int×Bool}{a:Act}(o1 o2 o3 o5:Obj)(h:yD b x y=none)(h6:a.tmps[6]? =some (.pointer (some ⟨w.heap.size+1+1+1,0,none⟩)))(h7:a.tmps[7]? =some (.bool false))(hd:a.defers=[]):
  bodyPost Tryz.prog Tryz.f162 (fun r w'=>r= .returned (.tuple #[gV ((yD b x y).getD (0,false)),.bool (yD b x y).isSome])∧Below w.heap.size w w') Exit.ret a (((((w.alloc o1).alloc o2).alloc o3).alloc (.cells #[.int .i64 0,.bool false] 197)).alloc o5):=by
 have hB:((((w.alloc o1).alloc o2).alloc o3).alloc (.cells #[.int .i64 0,.bool false] 197)).heap[w.heap.size+1+1+1]? =some (.cells #[.int .i64 0,.bool false] 197 (0,0)):=zJ _ (by simp [World.size_alloc])
 have hB5:=zH o5 hB
 exact zdB (0,false) false (by rw [h];rfl) (fun _=>rfl) h6 h7 (jw hB5).1 (jw hB5).2 (zB (zB (zB (zB (zC _ _) (zC _ _)) (zC _ _)) (zC _ _)) (zC _ _)) hd
set_option maxHeartbeats 4000000 in
set_option maxRecDepth 100000 in
theorem zge(b1 x1 y1:Int)(b2 x2 y2:Bool)(w:World):Calls Tryz.prog 162 #[gV (b1,b2),gV (x1,x2),gV (y1,y2)] w fun r w'=>r= .returned (.tuple #[gV ((yD (b1,b2) (x1,x2) (y1,y2)).getD (0,false)),.bool (yD (b1,b2) (x1,x2) (y1,y2)).isSome])∧Below w.heap.size w w':=by
 change Calls Tryz.prog 162 #[.agg #[.int .i64 b1,.bool b2],.agg #[.int .i64 x1,.bool x2],.agg #[.int .i64 y1,.bool y2]] w _
 have hzz:=zma
 by_cases h1:x1=y1
 ·subst h1
  by_cases h2:x1=b1
  ·subst h2
   cases x2<;>cases y2<;>cases b2
   all_goals
    go_enter Tryz.func162,Tryz.ntmps162
    go_wp2
    first
     |exact yj _ _ _ (x1,true) (by simp [yD]) rfl rfl rfl
     |exact yj _ _ _ (x1,false) (by simp [yD]) rfl rfl rfl
  ·cases x2<;>cases y2<;>cases b2
   all_goals
    go_enter Tryz.func162,Tryz.ntmps162
    go_wp2
    first
     |exact yj _ _ _ (x1,true) (by simp [yD]) rfl rfl rfl
     |exact yj _ _ _ (x1,false) (by simp [yD]) rfl rfl rfl
     |exact vz _ _ _ _ (by simp [yD,h2]) rfl rfl rfl
 ·by_cases h2:y1=b1
  ·subst h2
   cases x2<;>cases y2<;>cases b2
   all_goals
    go_enter Tryz.func162,Tryz.ntmps162
    go_wp2
    first
     |exact yj _ _ _ (x1,true) (by simp [yD]) rfl rfl rfl
     |exact yj _ _ _ (x1,false) (by simp [yD]) rfl rfl rfl
     |exact vz _ _ _ _ (by simp [yD,h1]) rfl rfl rfl
  ·by_cases h3:x1=b1
   ·subst h3
    cases x2<;>cases y2<;>cases b2
    all_goals
     go_enter Tryz.func162,Tryz.ntmps162
     go_wp2
     first
      |exact yj _ _ _ (y1,true) (by simp [yD,h1,h2]) rfl rfl rfl
      |exact yj _ _ _ (y1,false) (by simp [yD,h1,h2]) rfl rfl rfl
      |exact vz _ _ _ _ (by simp [yD,h1,h2]) rfl rfl rfl
   ·go_enter Tryz.func162,Tryz.ntmps162
    go_wp2
    exact vz _ _ _ _ (by simp [yD,h1,h2,h3]) rfl rfl rfl
def gl(ms:List (Int×Int))(x:Int):Int×Bool:=ms.foldl (fun f m=>if m.1=x then (m.2,true) else f) (0,false)
theorem zkK(ms:List (Int×Int))(m:Int×Int)(x:Int):gl (ms++[m]) x=if m.1=x then (m.2,true) else gl ms x:=by
 unfold gl
 rw [List.foldl_append]
 rfl
theorem znb:Keyed Tryz.prog 3:=int_keyed Tryz.underlying3
def zj0(x:Int):Lit:= .int .i64 x
theorem zhB{x:Int}(h0:0≤x)(h1:x≤73048):keyOf Tryz.prog 3 (.int .i64 x)=some (zj0 x):=keyOf_int_mk Tryz.underlying3 (by simp [Lit.wf,IntKind.min,IntKind.max,IntKind.bits,IntKind.signed];omega)
structure GM(W:World)(b:Nat)(ms:List (Int×Int)):Prop where
 own: ∃ D,W.ownsMap Tryz.prog 3 hld b ms.length D∧ ∀ x,D.atKey (zj0 x) (.held (gV (0,false)))= .held (gV (gl ms x))
theorem GM.kept{W W':World}{b:Nat}{ms:List (Int×Int)}(h:GM W b ms)(hb:Below W.heap.size W W'):GM W' b ms:=by
 obtain ⟨D,h1,h2⟩:=h.own
 exact ⟨D,h1.kept (zO hb none) (by simp),h2⟩
theorem zi9{x y:Int}(h:zj0 x=zj0 y):x=y:=by
 unfold zj0 at h
 injection h
set_option maxHeartbeats 1000000 in
set_option maxRecDepth 100000 in
theorem jT(ms:List (Int×Int))(sl:Value)(w:World)(hd:Movs w sl ms)(hv: ∀ m∈ms,0≤m.1∧m.1≤73048):
  Calls Tryz.prog 160 #[sl] w fun r w'=> ∃ b,r= .returned (.map (some b))∧w.heap.size≤b∧GM w' b ms∧Below w.heap.size w w':=by
 obtain ⟨a,cap,rfl,h20,hcap,hc⟩:=hd
 have HC:Hid (_):=hc
 have HV:=hid hv
 have hmm:= @run_makeMap Tryz.prog
 clear hc hv
 go_enter Tryz.func160,Tryz.ntmps160
 have hM0:GM (w.alloc (.map #[] 0)) w.heap.size []:=⟨.map [],World.ownsMap_made w Tryz.prog 3 hld,fun x=>rfl⟩
 have HM0:=hid hM0
 clear hM0
 go_wp2
 go_loopw [5,9] (fun _ i wr=> ∃ m:Nat,m≤ms.length∧i= .int .i64 m∧w.heap.size<wr.heap.size∧Hid (Below w.heap.size w wr)∧Hid (GM wr w.heap.size (ms.take m))) (fun _ i _=>ms.length - (intOf i).toNat)
 case atStart=>exact ⟨0,Nat.zero_le _,rfl,by rw [World.size_alloc];omega,zC _ _,HM0.out⟩
 case round=>
  obtain ⟨m,hm,rfl,hsz,hB,HM⟩:=hrel
  clear HM0
  by_cases hlt:m<ms.length
  ·obtain ⟨blk,rfl,hblk,hcell,hcell'⟩:=HC.out m hlt
   have hc1:=zD hcell hB.out
   have hc2:=zD hcell' hB.out
   have HT:Hid (ms.take (m+1)=ms.take m++[ms[m]]):=List.take_succ_eq_append_getElem hlt
   have hlen:(ms.take m).length=m:=by simp;omega
   have hx:=HV.out ms[m] (List.getElem_mem hlt)
   clear HC HV hcell hcell'
   generalize ms[m]=x at hc1 hc2 HT hx
   obtain ⟨x1,x2⟩:=x
   dsimp only at hc1 hc2 HT hx
   generalize ms.take m=o at HM HT hlen
   have HKY:Hid (keyOf Tryz.prog 3 (.int .i64 x1)=some (zj0 x1)):=zhB hx.1 hx.2
   have hA:=zC wr (.cells #[.int .i64 x1,.int .i64 x2] 114)
   have hc0:(wr.alloc (.cells #[.int .i64 x1,.int .i64 x2] 114)).cell? ⟨wr.heap.size,0,none⟩=some (.int .i64 x1):=by rw [World.cell?_alloc_new];rfl
   have hc9:(wr.alloc (.cells #[.int .i64 x1,.int .i64 x2] 114)).cell? ⟨wr.heap.size,1,none⟩=some (.int .i64 x2):=by rw [World.cell?_alloc_new];rfl
   have hsz1:w.heap.size<(wr.alloc (.cells #[.int .i64 x1,.int .i64 x2] 114)).heap.size:=by rw [World.size_alloc];omega
   obtain ⟨D,hown,hat⟩:=(HM.out.kept hA).own
   have HOWN:=hid hown
   have HAT:=hid hat
   have HNM:Hid (o.length<maxLen):=by show _<_;unfold maxLen;omega
   have HB1:Hid (Below w.heap.size w (wr.alloc (.cells #[.int .i64 x1,.int .i64 x2] 114))):=zB hB.out hA
   clear hown hat hx hA
   go_upto_region 5 with (fail)
   generalize wr.alloc (.cells #[.int .i64 x1,.int .i64 x2] 114)=wq at hc0 hc9 hsz1 HOWN HB1
   go_wp2_with (at_mapUpdate;refine wpList_mapUpdate_in _ rfl _ _ _ 194 rfl 3 197 znb Tryz.underlying194 _ w.heap.size _ D rfl HOWN.out HNM.out _ _ (zj0 x1) rfl rfl HKY.out (.held (gV (x2,true))) [] rfl ?_;intro w5 hown5 hturn5)
   go_roundw
   case rel=>
    refine ⟨m+1,by omega,by go_num,Nat.lt_of_lt_of_le hsz1 hturn5.grown.size,HB1.out.grown hturn5.grown (Nat.le_of_lt hsz1) (fun k q=>by cases q;exact Nat.le_refl _),?_⟩
    show GM _ _ _
    rw [HT.out]
    refine ⟨_,by rw [List.length_append];exact hown5,fun x=> ?_⟩
    rw [zkK]
    dsimp only
    by_cases e:x1=x
    ·subst e
     rw [if_pos rfl]
     exact atKey_put_same HOWN.out.isMap (by trivial) _ _
    ·rw [if_neg e,atKey_put_other (fun q=>e (zi9 q).symm)]
     exact HAT.out x
   case measure=>simp [intOf];omega
  ·have HE:Hid (ms.take m=ms):=List.take_of_length_le (by omega)
   rw [HE.out] at HM
   clear HC HV
   go_wp2
   go_ret
   exact ⟨_,rfl,Nat.le_refl _,HM.out,hB.out⟩
end Go.Proofs.YtpeafgddbbojaaaGreatDoor
namespace Go.Proofs.YtpeafgddbbojaaaGreatDoor
open Go Cal
open Classical in
noncomputable def dtx(n:Int):List UInt8:=if h: ∃ t:List UInt8,∃ y m d:Int,vld y m d∧num y m d=n∧t=txt y m d then h.choose else []
theorem jG{n:Int}(h0:0≤n)(h1:n≤73048): ∃ y m d:Int,vld y m d∧num y m d=n∧dtx n=txt y m d:=by
 obtain ⟨y,m,d,hv,hn⟩:=zbm n h0 h1
 have h: ∃ t:List UInt8,∃ y m d:Int,vld y m d∧num y m d=n∧t=txt y m d:=⟨_,y,m,d,hv,hn,rfl⟩
 have hs:=h.choose_spec
 unfold dtx
 rw [dif_pos h]
 exact hs
theorem zcX(n:Int):dtx n=[]∨ ∃ y m d:Int,vld y m d∧num y m d=n∧dtx n=txt y m d:=by
 by_cases h: ∃ t:List UInt8,∃ y m d:Int,vld y m d∧num y m d=n∧t=txt y m d
 ·have hs:=h.choose_spec
  right
  unfold dtx
  rw [dif_pos h]
  exact hs
 ·left;unfold dtx;rw [dif_neg h]
theorem yP(n:Int):(dtx n).length≤10:=by
 rcases zcX n with h|⟨y,m,d,_,_,h⟩
 ·rw [h];simp
 ·rw [h,xx];exact Nat.le_refl _
theorem zeW{y m d:Int}(h:vld y m d): ∀ c∈txt y m d,c.toNat≤57:=by
 obtain ⟨h1,h2,h3,h4,h5,h6⟩:=h
 have:=(yy y m).2
 intro c hc
 unfold txt four two at hc
 simp only [List.mem_append,List.mem_cons,List.not_mem_nil,or_false] at hc
 rcases hc with ((((rfl|rfl|rfl|rfl)|rfl)|rfl|rfl)|rfl)|rfl|rfl
 all_goals first
  |(rw [zeP _ (by omega) (by omega)];omega)
  |decide
  |skip
theorem zgI(n:Int): ∀ c∈dtx n,45≤c.toNat∧c.toNat≤57:=by
 intro c hc
 rcases zcX n with h|⟨y,m,d,hv,_,h⟩
 ·rw [h] at hc;simp at hc
 ·rw [h] at hc;exact ⟨zdP hv c hc,zeW hv c hc⟩
theorem xK(n:Int)(c:UInt8)(hc:c.toNat<45∨57<c.toNat):c∉dtx n:=fun h=>by have:=zgI n c h;omega
noncomputable def mtx(m:Int×Int):List UInt8:=dtx m.1++62::dtx m.2
theorem jJ(m:Int×Int):(mtx m).length≤21:=by
 have:=yP m.1
 have:=yP m.2
 unfold mtx
 simp
 omega
theorem zcY(m:Int×Int)(c:UInt8)(hc:c.toNat<45∨62<c.toNat):c∉mtx m:=by
 unfold mtx
 intro h
 rcases List.mem_append.1 h with h|h
 ·exact xK _ c (by omega) h
 ·rcases List.mem_cons.1 h with rfl|h
  ·simp at hc
  ·exact xK _ c (by omega) h
theorem zbP(m:Int×Int):zZ 62 (mtx m)=[dtx m.1,dtx m.2]:=by
 unfold mtx
 rw [zaf 62 _ _ (xK _ _ (by decide)),xU 62 _ (xK _ _ (by decide))]
theorem zgJ(m:Int×Int):(mtx m).count 62=1:=by
 unfold mtx
 rw [List.count_append,List.count_eq_zero.2 (xK _ _ (by decide)),List.count_cons_self,List.count_eq_zero.2 (xK _ _ (by decide))]
theorem zeX(c:UInt8)(t:List UInt8): ∀ (a:List UInt8),c∉a→Lib.indexByte (a++c::t) c=a.length
 |[],_=>by unfold Lib.indexByte;simp
 |x::a,h=>by
  have hx:(x==c)=false:=by rw [beq_eq_false_iff_ne];exact fun q=>h (by simp [q])
  have ih:=zeX c t a (fun q=>h (List.mem_cons_of_mem _ q))
  rw [List.cons_append,Lib.indexByte,hx,ih]
  have:(((a.length:Nat):Int)== -1)=false:=by rw [beq_eq_false_iff_ne];omega
  rw [this]
  simp
theorem zgK(m:Int×Int):Lib.indexByte (mtx m) 62=(dtx m.1).length:=zeX 62 _ _ (xK _ _ (by decide))
theorem xy{l:List (List UInt8)}(h:l≠[])(hn: ∀ x∈l,(44:UInt8)∉x):zZ 44 (Lib.join l [44])=l:=yg 44 l h hn
theorem join_nil(sep:List UInt8):Lib.join [] sep=[]:=rfl
theorem zcg{l:List (List UInt8)}(h:l≠[])(hn: ∀ x∈l,x≠[]):Lib.join l [44]≠[]:=by
 match l,h with
 |[x],_=>
  have:=hn x (by simp)
  simpa [Lib.join] using this
 |x::y::r,_=>rw [xw];have:=hn x (by simp);simp
theorem zfK(c:UInt8): ∀ (k:Nat) (s:ByteArray),Lib.countB s ⟨#[c]⟩=k→(Lib.splitB ⟨#[c]⟩ 0 k s).map (·.data.toList)=zZ c s.data.toList:=by
 intro k
 induction k with
 |zero=>
  intro s h
  have h':s.data.toList.count c=0:=by rw [←Lib.count_one];exact h
  rw [Lib.splitB_zero,xU c _ (List.count_eq_zero.1 h')];rfl
 |succ k ih=>
  intro s h
  have h':s.data.toList.count c=k+1:=by rw [←Lib.count_one];exact h
  have hm:c∈s.data.toList:=List.count_pos_iff.1 (by omega)
  have hi:Lib.indexB s ⟨#[c]⟩=Lib.indexByte s.data.toList c:=Lib.index_one _ _
  obtain ⟨i,hi'⟩: ∃ i:Nat,Lib.indexByte s.data.toList c=i:=by
   have:=Lib.indexByte_ge s.data.toList c
   by_cases q:Lib.indexByte s.data.toList c= -1
   ·obtain ⟨j,hj,he⟩:=List.mem_iff_getElem.1 hm
    exact absurd (by rw [List.getElem?_eq_some_iff];exact ⟨hj,he⟩) (Lib.indexByte_none q j)
   ·exact ⟨(Lib.indexByte s.data.toList c).toNat,by omega⟩
  rw [Lib.splitB_hit _ _ _ _ i (hi.trans hi'),zaL hi',List.map_cons,Lib.extract_from_zero]
  have e2:(s.extract (i+ByteArray.size ⟨#[c]⟩) s.size).data.toList=s.data.toList.drop (i+1):=Lib.extract_to_end _ _
  refine List.cons_eq_cons.2 ⟨rfl,?_⟩
  rw [ih _ ?_,e2]
  show Lib.count _ _=k
  rw [show (ByteArray.data ⟨#[c]⟩).toList=[c] from rfl,Lib.count_one,e2]
  obtain ⟨h1,h2⟩:=Lib.indexByte_some hi'
  obtain ⟨hl,he⟩:=List.getElem?_eq_some_iff.1 h1
  have hz:(s.data.toList.take i).count c=0:=List.count_eq_zero.2 (fun q=>by
   obtain ⟨j,hj,he⟩:=List.mem_iff_getElem.1 q
   rw [List.length_take] at hj
   rw [List.getElem_take] at he
   exact h2 j (by omega) (by rw [List.getElem?_eq_some_iff];exact ⟨by omega,he⟩))
  have hsum:s.data.toList.count c=(s.data.toList.take i).count c+((s.data.toList.drop (i+1)).count c+1):=by
   conv=>lhs;rw [←List.take_append_drop i s.data.toList,List.drop_eq_getElem_cons hl,he]
   rw [List.count_append,List.count_cons_self]
  omega
end Go.Proofs.YtpeafgddbbojaaaGreatDoor
namespace Go.Proofs.YtpeafgddbbojaaaGreatDoor
open Go.RowKit Cal
theorem nm7(m:Nat)(h:m≤6){w:World}(g:GlobR w):w.cell? ⟨7,m,none⟩=some (.string (bs (nm m))):=g.days m (by omega)
set_option maxHeartbeats 1600000 in
set_option maxRecDepth 100000 in
theorem zdU(sl:Value)(ds:List Int)(w:World)(g:GlobR w)(hd:Days w sl ds)(h0:ds≠[])(hD:bD ds):
  Calls Tryz.prog 154 #[sl] w fun e w'=>e= .returned (.string (bs (Lib.join (ds.map nm) [44])))∧Below w.heap.size w w':=by
 obtain ⟨a,cap,rfl,h20,hcap,hc⟩:=hd
 obtain ⟨i0,hi,hz0,hz1,hz2⟩:=info_parts ye
 have HC:Hid (_):=hc
 have HD:=hid hD
 have G:=hid g
 have H0:=hid h0
 clear hc hD g h0
 go_enter Tryz.func154,Tryz.ntmps154
 go_wp2
 go_loopw [3,5,8] (fun v d i wr=> ∃ k:Nat,k≤ds.length∧i= .int .i64 k∧wr.ownsRow w.heap.size 9 1 v k (((ds.take k).map nm).map sv)∧Below w.heap.size w wr) (fun _ _ i _=>ds.length - (intOf i).toNat)
 case atStart=>exact ⟨0,Nat.zero_le _,rfl,World.ownsRow_nil _ _ _ _,Below.refl _ _⟩
 case round=>
  obtain ⟨k,hk,rfl,hown,hB⟩:=hrel
  by_cases hlt:k<ds.length
  ·obtain ⟨blk,rfl,hblk,hcell⟩:=HC.out k hlt
   have hdk:=HD.out ds[k] (List.getElem_mem hlt)
   have HT:=hid (List.take_succ_eq_append_getElem hlt)
   have hcell2:=zD hcell hB
   clear hcell HC HD H0
   generalize ds[k]=d at hcell2 hdk HT
   obtain ⟨m,rfl⟩: ∃ m:Nat,d=m:=⟨d.toNat,by omega⟩
   have hm6:m≤6:=by omega
   have hn2:=nm7 m hm6 (G.out.step hB)
   clear hdk
   generalize hbm:bs (nm m)=bm at hn2
   have HBM:=hid hbm
   clear hbm
   generalize hL:((ds.take k).map nm).map sv=xs at hown
   have HL:=hid hL
   clear hL
   go_wp2_with (first
    |(at_builtin;refine wpList_append_own _ rfl _ _ 51 rfl w.heap.size 9 i0 (.string ⟨#[]⟩) 1 16 Tryz.underlying51 hi hz0 hz1 hz2 rfl (by decide) _ _ _ rfl (hown.alloc _) ⟨wr.heap.size,0,none⟩ 1 1 [.string bm] rfl rfl ?c1 ?c2 ?c3 ?c4 ?c5 ?_)
    |go_in)
   case c1=>
    intro j u hj
    match j,hj with
    |0,hj=>simp at hj;subst hj;simp [Addr.add]
   case c2=>intro u hu;simp at hu;subst hu;rfl
   case c3=>unfold maxLen;omega
   case c4=>omega
   case c5=>have:=hB.size;simp;omega
   ·intro v' w1 hown' hgrow _
    have hb1:Below w.heap.size w w1:=(hB.alloc hB.size _).grown hgrow (by have:=hB.size;simp;omega) (fun j ej=>(hown.lt j ej).1)
    have HOW:Hid (_):=hown'
    clear hown'
    go_wp2
    go_roundw
    case rel=>
     refine ⟨k+1,by omega,by go_num,?_,hb1⟩
     rw [HT.out,List.map_append,List.map_append]
     show w1.ownsRow _ _ _ _ _ (_++[Value.string (bs (nm m))])
     rw [HBM.out,HL.out];exact HOW.out
    case measure=>simp [intOf];omega
  ·have ek:k=ds.length:=by omega
   subst ek
   have hown2:wr.ownsRow w.heap.size 9 1 u3 (ds.map nm).length ((ds.map nm).map sv):=by
    rw [List.length_map];rw [List.take_length] at hown;exact hown
   have J:=zaY u3 w.heap.size (ds.map nm) [44] wr (by simpa using H0.out) hown2 (by simp;omega) (by have:=za6 ds;omega)
   have JJ:Hid (_):=J
   clear J hown hown2 HC HD
   go_wp2_with (go_at_call 77;refine Calls.mono JJ.out ?_;rintro e w1 ⟨rfl,hb1⟩)
   go_ret
   exact ⟨rfl,hB.trans (hb1.mono hB.size)⟩
end Go.Proofs.YtpeafgddbbojaaaGreatDoor
