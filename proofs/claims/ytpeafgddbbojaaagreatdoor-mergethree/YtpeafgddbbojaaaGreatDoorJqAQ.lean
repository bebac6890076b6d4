import Derived.Shelf.Strings.Builder1
import Derived.Shelf.Strings.Builder2
import Derived.Shelf.Strings.OnBuilder
import Derived.Shelf.Small.Bits
import Derived.Shelf.Small.Wraps
import Derived.Shelf.Strings.BuilderF
import Derived.Shelf.Strings.BuilderK
import Derived.Shelf.Strconv.Atoi
import Derived.Shelf.Strconv.Itoa0
import Derived.Shelf.Strconv.Itoa1
import Derived.Shelf.LaysM
import Derived.Shelf.Strconv.Itoa2
import Derived.Shelf.Strconv.Itoa3
import Derived.Shelf.Strconv.AtoiErrFast
import Derived.Shelf.Strconv.ParseIntEmpty
import Derived.Shelf.Strconv.AtoiFail
import Derived.Shelf.Strconv.Clone
import Derived.Shelf.Strconv.SyntaxError
import Derived.Shelf.LaysC
import Derived.Shelf.Strconv.ToError
import Derived.Shelf.Strconv.AtoiErr
import Derived.Shelf.Strconv.Lower
import Derived.Shelf.Strconv.ParseUint10
import Derived.Shelf.Strconv.ParseUint10Empty
import Derived.Shelf.Strconv.ParseUint10Any
import Derived.Shelf.Strconv.ParseInt10
import Derived.Shelf.Strconv.AtoiLong
import Derived.Shelf.Strconv.AtoiInnerAll
import Derived.Shelf.Strconv.RangeError
import Derived.Shelf.Strconv.ToErrorRange
import Derived.Shelf.Strconv.AtoiAll
import Derived.Shelf.Strings.Search1
import Derived.Shelf.Strings.Search2
import Derived.Shelf.Strings.Search3
import Derived.Shelf.Strings.Cut
import Derived.Shelf.Strings.Count
import Derived.Shelf.Strings.Shaped
import Derived.Shelf.Strings.Split
import Derived.Shelf.Unicode.DecodeSlow
import Derived.Ground.Names2Prog
import Derived.Shelf.Slices.CompactI
import Derived.Shelf.Slices.CompactS
import Derived.Shelf.Slices.Cells
import Derived.Ground.SlgmProg
import Derived.Shelf.SortM.Plain
import Derived.Shelf.SortM.SortNone
import Derived.Test.YtpeafgddbbojaaaGreatDoorProg
import Derived.Test.YtpeafgddbbojaaaGreatDoorJqAP
import Derived.Sort.OwnSorted
import Derived.Lib.SlicesCompact
import Derived.Lib.AppendZerosOnto
import Derived.Test.YtpeafgddbbojaaaGreatDoorJqAA
import Derived.Test.YtpeafgddbbojaaaGreatDoorJqAM
import Derived.Test.YtpeafgddbbojaaaGreatDoorJqAK
namespace Go.Proofs
open Go.Shelf
def Tryz.laysSlM6_f41_ren:Go.Shelf.Ren:=⟨fun|6=>41|8=>74|9=>73|19=>116|20=>117|21=>107|22=>108|23=>109|24=>110|25=>111|26=>112|27=>113|28=>114|29=>115|36=>145|31=>146|32=>147|37=>148|38=>149|39=>150|41=>177|n=>n,fun|27=>51|29=>9|3=>3|32=>120|26=>51|0=>0|44=>155|46=>157|4=>4|36=>148|35=>147|41=>152|5=>5|9=>9|53=>181|57=>185|63=>212|64=>127|n=>n,fun|n=>n⟩
theorem Tryz.laysSlM6_f41:Go.Proofs.SlLaysM.n6 Tryz.prog Tryz.laysSlM6_f41_ren:={
 mixed:=by kernel_rfl
 f6:=⟨Tryz.f41.name,by decide,Tryz.func41.trans (congrArg some (by kernel_rfl))⟩
 f8:=Tryz.func74.trans (congrArg some (by kernel_rfl))
 f9:=⟨Tryz.f73.name,by decide,Tryz.func73.trans (congrArg some (by kernel_rfl))⟩
 f19:=Tryz.func116.trans (congrArg some (by kernel_rfl))
 f20:=Tryz.func117.trans (congrArg some (by kernel_rfl))
 f21:=⟨Tryz.f107.name,by decide,Tryz.func107.trans (congrArg some (by kernel_rfl))⟩
 f22:=⟨Tryz.f108.name,by decide,Tryz.func108.trans (congrArg some (by kernel_rfl))⟩
 f23:=⟨Tryz.f109.name,by decide,Tryz.func109.trans (congrArg some (by kernel_rfl))⟩
 f24:=⟨Tryz.f110.name,by decide,Tryz.func110.trans (congrArg some (by kernel_rfl))⟩
 f25:=⟨Tryz.f111.name,by decide,Tryz.func111.trans (congrArg some (by kernel_rfl))⟩
 f26:=⟨Tryz.f112.name,by decide,Tryz.func112.trans (congrArg some (by kernel_rfl))⟩
 f27:=⟨Tryz.f113.name,by decide,Tryz.func113.trans (congrArg some (by kernel_rfl))⟩
 f28:=⟨Tryz.f114.name,by decide,Tryz.func114.trans (congrArg some (by kernel_rfl))⟩
 f29:=⟨Tryz.f115.name,by decide,Tryz.func115.trans (congrArg some (by kernel_rfl))⟩
 f31:=Tryz.func146.trans (congrArg some (by kernel_rfl))
 f32:=Tryz.func147.trans (congrArg some (by kernel_rfl))
 f36:=⟨Tryz.f145.name,by decide,Tryz.func145.trans (congrArg some (by kernel_rfl))⟩
 f37:=⟨Tryz.f148.name,by decide,Tryz.func148.trans (congrArg some (by kernel_rfl))⟩
 f38:=⟨Tryz.f149.name,by decide,Tryz.func149.trans (congrArg some (by kernel_rfl))⟩
 f39:=⟨Tryz.f150.name,by decide,Tryz.func150.trans (congrArg some (by kernel_rfl))⟩
 f41:=⟨Tryz.f177.name,by decide,Tryz.func177.trans (congrArg some (by kernel_rfl))⟩
 t0:=Tryz.underlying0
 a0:=Tryz.isAgg0
 z0:=Tryz.sizeOf0
 v0:=Tryz.zeroValue0
 t3:=Tryz.underlying3
 a3:=Tryz.isAgg3
 z3:=Tryz.sizeOf3
 v3:=Tryz.zeroValue3
 t4:=Tryz.underlying4
 a4:=Tryz.isAgg4
 z4:=Tryz.sizeOf4
 v4:=Tryz.zeroValue4
 t5:=Tryz.underlying5
 a5:=Tryz.isAgg5
 z5:=Tryz.sizeOf5
 v5:=Tryz.zeroValue5
 t9:=Tryz.underlying9
 a9:=Tryz.isAgg9
 z9:=Tryz.sizeOf9
 v9:=Tryz.zeroValue9
 t26:=Tryz.underlying51
 a26:=Tryz.isAgg51
 z26:=Tryz.sizeOf51
 v26:=Tryz.zeroValue51
 t27:=Tryz.underlying51
 a27:=Tryz.isAgg51
 z27:=Tryz.sizeOf51
 v27:=Tryz.zeroValue51
 t29:=Tryz.underlying9
 a29:=Tryz.isAgg9
 z29:=Tryz.sizeOf9
 v29:=Tryz.zeroValue9
 t32:=Tryz.underlying120
 a32:=Tryz.isAgg120
 z32:=Tryz.sizeOf120
 v32:=Tryz.zeroValue120
 t35:=Tryz.underlying147
 a35:=Tryz.isAgg147
 z35:=Tryz.sizeOf147
 v35:=Tryz.zeroValue147
 t36:=Tryz.underlying148
 a36:=Tryz.isAgg148
 z36:=Tryz.sizeOf148
 v36:=Tryz.zeroValue148
 t41:=Tryz.underlying152
 a41:=Tryz.isAgg152
 z41:=Tryz.sizeOf152
 v41:=Tryz.zeroValue152
 t44:=Tryz.underlying155
 a44:=Tryz.isAgg155
 z44:=Tryz.sizeOf155
 v44:=Tryz.zeroValue155
 t46:=Tryz.underlying157
 a46:=Tryz.isAgg157
 z46:=Tryz.sizeOf157
 v46:=Tryz.zeroValue157
 t53:=Tryz.underlying181
 a53:=Tryz.isAgg181
 z53:=Tryz.sizeOf181
 v53:=Tryz.zeroValue181
 t57:=Tryz.underlying185
 a57:=Tryz.isAgg185
 z57:=Tryz.sizeOf185
 v57:=Tryz.zeroValue185
 t63:=Tryz.underlying212
 a63:=Tryz.isAgg212
 z63:=Tryz.sizeOf212
 v63:=Tryz.zeroValue212
 t64:=Tryz.underlying127
 a64:=Tryz.isAgg127
 z64:=Tryz.sizeOf127
 v64:=Tryz.zeroValue127 }
open Go.Sort Go.RowKit in
theorem Tryz.slices_Sort_string(blk off cap:Nat)(ss:List (List UInt8))(w:World)(hH:Holds encStr w blk off ss.toArray)(hblk:blk<w.heap.size)(hsz:ss.length<4611686018427387904):
  Calls Tryz.prog 41 #[.slice (some ⟨blk,off,none⟩) ss.length cap] w fun e w'=>
   e= .returned (.tuple #[])∧ ∃ n os,w'=grow (putRow encStr (Sort.ahead w n) blk off (ss.mergeSort fun x y=>decide (x≤y)).toArray) os:=AnyM.slices_Sort_string Tryz.laysSlM6_f41 blk off cap ss w hH hblk hsz
open Go.RowKit Go.Sort in
theorem Tryz.slices_Sort_string_none(p:Option Addr)(cap:Nat)(w:World):
  Calls Tryz.prog 41 #[.slice p 0 cap] w fun e w'=>e= .returned (.tuple #[])∧w'=w:=AnyM.slices_Sort_string_none Tryz.laysSlM6_f41 p cap w
def Tryz.lays194_ren:Go.Shelf.Ren:=⟨fun|194=>42|n=>n,fun|31=>51|9=>9|3=>3|4=>4|0=>0|n=>n,fun|n=>n⟩
theorem Tryz.lays194:Go.Proofs.Lays.n194 Tryz.prog Tryz.lays194_ren:={
 mixed:=by kernel_rfl
 f194:=Tryz.func42.trans (congrArg some (by kernel_rfl))
 t0:=Tryz.underlying0
 a0:=Tryz.isAgg0
 z0:=Tryz.sizeOf0
 v0:=Tryz.zeroValue0
 t3:=Tryz.underlying3
 a3:=Tryz.isAgg3
 z3:=Tryz.sizeOf3
 v3:=Tryz.zeroValue3
 t4:=Tryz.underlying4
 a4:=Tryz.isAgg4
 z4:=Tryz.sizeOf4
 v4:=Tryz.zeroValue4
 t9:=Tryz.underlying9
 a9:=Tryz.isAgg9
 z9:=Tryz.sizeOf9
 v9:=Tryz.zeroValue9
 t31:=Tryz.underlying51
 a31:=Tryz.isAgg51
 z31:=Tryz.sizeOf51
 v31:=Tryz.zeroValue51 }
open Go.RowKit Go.Lib Go.Sort in
theorem Tryz.slices_Compact_string(blk off cap:Nat)(zs:List (List UInt8))(w:World)(hH:Holds encStr w blk off zs.toArray)(hsz:zs.length≤9223372036854775807)(hcap:zs.length≤cap):
  Calls Tryz.prog 42 #[.slice (some ⟨blk,off,none⟩) zs.length cap] w fun e w'=>e= .returned (.slice (some ⟨blk,off,none⟩) (Lib.compact zs).length cap)∧ ∃ q,w'=putRow encStr (Sort.ahead w q) blk off (Lib.compact zs++List.replicate (zs.length - (Lib.compact zs).length) []).toArray:=Any.slices_Compact_string Tryz.lays194 blk off cap zs w hH hsz hcap
open Go.RowKit Go.Lib Go.Sort in
theorem Tryz.slices_Compact_string_empty(a:Option Addr)(cap:Nat)(w:World):
  Calls Tryz.prog 42 #[.slice a 0 cap] w fun e w'=>e= .returned (.slice a 0 cap)∧w'=w:=Any.slices_Compact_string_empty Tryz.lays194 a cap w
end Go.Proofs
namespace Go.Proofs.YtpeafgddbbojaaaGreatDoor
open Go Go.RowKit Go.Sort Cal
attribute [local go_sem] Oper.semAt_some
def OwS(base:Nat)(W:World)(v:Value)(ss:List (List UInt8)):Prop:=W.ownsRow base 9 1 v ss.length (ss.map encStr)
theorem OwS.nil(base:Nat)(W:World):OwS base W (.slice none 0 0) []:=World.ownsRow_nil _ _ _ _
theorem OwS.far{base:Nat}{W W':World}{v:Value}{ss:List (List UInt8)}(h:OwS base W v ss)(hk: ∀ k,base≤k→k<W.heap.size→W'.heap[k]? =W.heap[k]?):OwS base W' v ss:=by
 refine ⟨h.1,?_⟩
 rcases h.2 with h2|⟨g,cap,cur,hv,hb,hg,r⟩
 ·exact .inl h2
 ·exact .inr ⟨g,cap,cur,hv,hb,(hk g hb (Array.getElem?_eq_some_iff.1 hg).1).trans hg,r⟩
theorem ziX(base:Nat)(v:Value)(zs:List (List UInt8))(w:World)(h:OwS base w v zs)(hl:zs.length≤80000):
  Calls Tryz.prog 41 #[v] w fun r w'=>r= .returned (.tuple #[])∧OwS base w' v (zs.mergeSort fun x y=>decide (x≤y))∧w.grownBy w' v.ownBlock:=by
 rcases h.2 with ⟨rfl,h0⟩|⟨g,cap,cur,rfl,hb,hg,hcap,hmax,hsz,htake⟩
 ·have hz:zs=[]:=List.length_eq_zero_iff.1 h0
  subst hz
  refine (Tryz.slices_Sort_string_none none 0 w).mono ?_
  rintro r w' ⟨rfl,rfl⟩
  exact ⟨rfl,(by rw [show ([]:List (List UInt8)).mergeSort (fun x y=>decide (x≤y))=[] from List.mergeSort_nil];exact OwS.nil _ _),zO (Below.refl _ _) _⟩
 ·have hH:Go.Sort.Holds encStr w g 0 zs.toArray:=holds_of_block hg (by simpa using htake)
  refine (Tryz.slices_Sort_string g 0 cap zs w hH (Array.getElem?_eq_some_iff.1 hg).1 (by omega)).mono ?_
  rintro r w' ⟨rfl,n,os,rfl⟩
  refine ⟨rfl,?_,grownBy_sorted _⟩
  show World.ownsRow _ _ _ _ _ _ _
  rw [List.length_mergeSort]
  exact ownsRow_sorted (List.length_mergeSort _) hb hg hcap hmax hsz
theorem vT(zs:List (List UInt8)):(Lib.compact zs).length≤zs.length:=by
 unfold Lib.compact Lib.compactUpTo
 rw [List.length_map]
 exact Nat.le_trans (List.length_filter_le _ _) (by simp)
theorem zd6(base:Nat)(v:Value)(zs:List (List UInt8))(w:World)(h:OwS base w v zs)(hl:zs.length≤80000):
  Calls Tryz.prog 42 #[v] w fun r w'=> ∃ v',r= .returned v'∧OwS base w' v' (Lib.compact zs)∧w.grownBy w' v.ownBlock:=by
 rcases h.2 with ⟨rfl,h0⟩|⟨g,cap,cur,rfl,hb,hg,hcap,hmax,hsz,htake⟩
 ·have hz:zs=[]:=List.length_eq_zero_iff.1 h0
  subst hz
  refine (Tryz.slices_Compact_string_empty none 0 w).mono ?_
  rintro r w' ⟨rfl,rfl⟩
  exact ⟨_,rfl,OwS.nil _ _,zO (Below.refl _ _) _⟩
 ·have hH:Go.Sort.Holds encStr w g 0 zs.toArray:=holds_of_block hg (by simpa using htake)
  refine (Tryz.slices_Compact_string g 0 cap zs w hH (by omega) hcap).mono ?_
  rintro r w' ⟨rfl,q,rfl⟩
  have hle:=vT zs
  have e0:putRow encStr (Sort.ahead w q) g 0 (Lib.compact zs++List.replicate (zs.length - (Lib.compact zs).length) []).toArray=grow (putRow encStr (Sort.ahead w q) g 0 (Lib.compact zs++List.replicate (zs.length - (Lib.compact zs).length) []).toArray) #[]:=(grow_empty _).symm
  rw [e0]
  refine ⟨_,rfl,?_,grownBy_sorted _⟩
  have hlen:(Lib.compact zs++List.replicate (zs.length - (Lib.compact zs).length) ([]:List UInt8)).length=zs.length:=by simp;omega
  refine ⟨by simp,.inr ⟨g,cap,_,rfl,hb,heap_sorted _ hg,by omega,hmax,by simp [putCells,hsz],?_⟩⟩
  have ht:=take_putCells cur (Lib.compact zs++List.replicate (zs.length - (Lib.compact zs).length) []) (by rw [hlen];omega)
  rw [hlen] at ht
  have h2:=congrArg (List.take (Lib.compact zs).length) ht
  rw [List.take_take,Nat.min_eq_left hle,List.map_append,List.take_append_of_le_length (by simp),List.take_of_length_le (l:=List.map encStr (Lib.compact zs)) (by simp)] at h2
  rw [Nat.mul_one]
  exact h2
open Go.Lib in
theorem xX(zs:List (List UInt8))(hs:zs.Pairwise (· ≤ ·)): ∀ m,m≤zs.length→(compactUpTo zs.toArray m).Pairwise (· < ·)∧(∀ x,x∈compactUpTo zs.toArray m↔ ∃ (j:Nat) (h:j<zs.length),j<m∧zs[j]=x)
 |0,_=>⟨List.Pairwise.nil,fun x=>⟨fun h=>absurd h (by simp [compactUpTo]),fun ⟨_,_,h,_⟩=>by omega⟩⟩
 |m+1,hm=>by
  obtain ⟨ih1,ih2⟩:=xX zs hs m (by omega)
  have hlt:m<zs.length:=by omega
  have em:zs.toArray[m]! =zs[m]:=by simp [hlt]
  rw [compactUpTo_succ]
  by_cases hk:keeps zs.toArray m=true
  ·rw [if_pos hk,em]
   refine ⟨List.pairwise_append.2 ⟨ih1,List.pairwise_singleton _ _,fun x hx y hy=> ?_⟩,fun x=> ?_⟩
   ·rw [List.mem_singleton] at hy
    subst hy
    obtain ⟨j,hj,hjm,rfl⟩:=(ih2 x).1 hx
    unfold keeps at hk
    rw [decide_eq_true_iff] at hk
    have hm0:m≠0:=by omega
    have e1:zs.toArray[m - 1]! =zs[m - 1]:=by simp [show m - 1<zs.length by omega]
    have hne:zs[m]≠zs[m - 1]:=by
     rcases hk with q|q
     ·exact absurd q hm0
     ·rwa [em,e1] at q
    have p1:zs[m - 1]≤zs[m]:=List.pairwise_iff_getElem.1 hs (m - 1) m (by omega) hlt (by omega)
    have p2:zs[j]≤zs[m - 1]:=by
     rcases Nat.lt_or_ge j (m - 1) with q|q
     ·exact List.pairwise_iff_getElem.1 hs j (m - 1) hj (by omega) q
     ·have:j=m - 1:=by omega
      subst this;exact List.le_refl _
    exact List.lt_of_le_of_lt p2 (Std.lt_of_le_of_ne p1 (fun z=>hne z.symm))
   ·rw [List.mem_append,List.mem_singleton,ih2]
    constructor
    ·rintro (⟨j,hj,h1,h2⟩|rfl)
     ·exact ⟨j,hj,by omega,h2⟩
     ·exact ⟨m,hlt,by omega,rfl⟩
    ·rintro ⟨j,hj,h1,h2⟩
     rcases Nat.lt_or_ge j m with q|q
     ·exact .inl ⟨j,hj,q,h2⟩
     ·have:j=m:=by omega
      subst this;exact .inr h2.symm
  ·rw [if_neg hk,List.append_nil]
   refine ⟨ih1,fun x=> ?_⟩
   rw [ih2]
   constructor
   ·rintro ⟨j,hj,h1,h2⟩;exact ⟨j,hj,by omega,h2⟩
   ·rintro ⟨j,hj,h1,h2⟩
    rcases Nat.lt_or_ge j m with q|q
    ·exact ⟨j,hj,q,h2⟩
    ·have:j=m:=by omega
     subst this
     unfold keeps at hk
     rw [decide_eq_true_iff] at hk
     have hm0:j≠0:=fun q=>hk (.inl q)
     have e1:zs.toArray[j - 1]! =zs[j - 1]:=by simp [show j - 1<zs.length by omega]
     have he:zs[j]=zs[j - 1]:=Classical.byContradiction (fun q=>hk (.inr (by rw [em,e1];exact q)))
     exact ⟨j - 1,by omega,by omega,by rw [←he];exact h2⟩
theorem vA(l:List (List UInt8)):(Go.Lib.compact (l.mergeSort fun x y=>decide (x≤y))).Pairwise (· < ·)∧ ∀ x,x∈Go.Lib.compact (l.mergeSort fun x y=>decide (x≤y))↔x∈l:=by
 have hs:(l.mergeSort fun x y=>decide (x≤y)).Pairwise (· ≤ ·):=by
  have:=List.pairwise_mergeSort (le:=fun (x y:List UInt8)=>decide (x≤y)) (fun a b c h1 h2=>decide_eq_true (List.le_trans (of_decide_eq_true h1) (of_decide_eq_true h2))) (fun a b=>by
   rcases List.le_total a b with q|q
   ·rw [decide_eq_true q];rfl
   ·rw [decide_eq_true q,Bool.or_true]) l
  exact this.imp (fun h=>of_decide_eq_true h)
 obtain ⟨h1,h2⟩:=xX _ hs _ (Nat.le_refl _)
 refine ⟨h1,fun x=> ?_⟩
 refine (h2 x).trans ?_
 rw [←List.mem_mergeSort (l:=l) (le:=fun x y=>decide (x≤y)),List.mem_iff_getElem]
 constructor
 ·rintro ⟨j,hj,_,e⟩;exact ⟨j,hj,e⟩
 ·rintro ⟨j,hj,e⟩;exact ⟨j,hj,hj,e⟩
theorem zfU(w:World):Calls Tryz.prog 72 #[.slice none 0 0,.int .i64 0] w fun r w'=>r= .returned (.slice none 0 0)∧w'=w:=by
 go_enter Tryz.func72,Tryz.ntmps72
 go_wp2
 go_ret
 exact ⟨rfl,rfl⟩
set_option maxHeartbeats 1000000 in
theorem zg6(n:Nat)(w:World)(h1:1≤n)(h2:n≤100000):Calls Tryz.prog 72 #[.slice none 0 0,.int .i64 n] w fun r w'=> ∃ g cap,r= .returned (.slice (some ⟨g,0,none⟩) 0 cap)∧OwS w.heap.size w' (.slice (some ⟨g,0,none⟩) 0 cap) []∧Below w.heap.size w w':=by
 obtain ⟨i0,hi,hz0,hz1,hz2⟩:=info_parts ye
 have hold:(Builtin.firstCells i0.size 0 (.slice none 0 0)).run Tryz.prog w.drew= .ok ([]:List Value).toArray w.drew:=run_firstCells_none w.drew i0.size 0 0 0
 have hrz: ∀ ty,(Builtin.append_ #[51,3] ty #[.slice none 0 0,.int .i64 (n:Int)]).run Tryz.prog w=
   .ok (.slice (some ⟨w.heap.size,0,none⟩) n (grownCap w n 0 9)) (w.drew.alloc (.cells (([]:List Value).toArray++Builtin.zeroCells (Value.string ⟨#[]⟩).cells n++Builtin.zeroCells (Value.string ⟨#[]⟩).cells (grownCap w n 0 9 - n)) 9)):=fun ty=>by
  have h:=Lib.run_append_grow_zeros w 51 3 ty 9 i0 (.string ⟨#[]⟩) .i64 .i64 Tryz.underlying51 Tryz.underlying3 hi hz0 none 0 0 [] hold n (by omega) (by rw [hz1];decide) (by omega) (by omega) (by rw [hz2];omega) (by rw [Nat.zero_add];exact growslice_fits (by omega) (by rw [hz2];omega))
  rw [Nat.zero_add] at h
  exact h
 have hG:=grownCap_ge w n 0 9
 have hGm:=grownCap_le_maxLen w n 0 9 (by unfold maxLen;omega)
 have hGi:(grownCap w n 0 9:Int)≤9223372036854775807:=by unfold maxLen at hGm;omega
 generalize grownCap w n 0 9=G at hrz hG hGm hGi
 have HW:Hid (OwS w.heap.size (w.drew.alloc (.cells (([]:List Value).toArray++Builtin.zeroCells (Value.string ⟨#[]⟩).cells n++Builtin.zeroCells (Value.string ⟨#[]⟩).cells (G - n)) 9)) (.slice (some ⟨w.heap.size,0,none⟩) 0 G) []∧Below w.heap.size w (w.drew.alloc (.cells (([]:List Value).toArray++Builtin.zeroCells (Value.string ⟨#[]⟩).cells n++Builtin.zeroCells (Value.string ⟨#[]⟩).cells (G - n)) 9))):=by
  refine ⟨⟨rfl,.inr ⟨w.heap.size,G,_,rfl,Nat.le_refl _,zJ (W:=w.drew) _ rfl,by simp,hGm,?_,by simp⟩⟩,zB (zI _) (zC _ _)⟩
  simp [size_zeroCells,Value.cells]
  omega
 clear hold hi hz0 hz1 hz2 hGm
 generalize w.drew.alloc (.cells (([]:List Value).toArray++Builtin.zeroCells (Value.string ⟨#[]⟩).cells n++Builtin.zeroCells (Value.string ⟨#[]⟩).cells (G - n)) 9)=W' at hrz HW
 go_enter Tryz.func72,Tryz.ntmps72
 go_wp2_with (at_builtin;refine Lib.wpList_append_run _ rfl _ _ _ _ rfl _ _ rfl rfl _ _ (hrz _) ?_)
 all_goals
  go_ret
  exact ⟨_,_,rfl,HW.out.1,HW.out.2⟩
theorem zg7{ops:Array Oper}{rest:List Oper}{o:Oper}{a:Act}{Q:Exit→Act→World→Prop}{w:World}(hgd:o.guard=none)(s x:Operand)
  (ho:o.op= .call { callee:= .builtin .append,args:= #[s,x],argTypes:= #[51,51] })
  (base b2:Nat) (xs:List (List UInt8)) (ys:List ByteArray) (v u:Value) (hs:a.eval s=v) (hown:OwS base w v xs) (hx:a.eval x=u) (hg:RowV b2 w u ys) (hl:xs.length+ys.length≤100000) (hbase:base≤w.heap.size)
  (h: ∀ v' w',OwS base w' v' (xs++ys.map fun y=>y.data.toList)→Below base w w'→wpList Tryz.prog ops Q rest (a.put o.dst v') w'):wpList Tryz.prog ops Q (o::rest) a w:=by
 obtain ⟨i0,hi,hz0,hz1,hz2⟩:=info_parts ye
 rcases hg with ⟨rfl,rfl⟩|⟨B,cap,rfl,_,hr⟩
 ·refine wpList_append_own_none hgd s x 51 ho base 9 i0 1 Tryz.underlying51 hi v xs.length (xs.map encStr) hs hown hx ?_
  exact h v w (by rw [List.map_nil,List.append_nil];exact hown) (Below.refl _ _)
 ·refine wpList_append_own w hgd s x 51 ho base 9 i0 (.string ⟨#[]⟩) 1 16 Tryz.underlying51 hi hz0 hz1 hz2 rfl (by decide) v xs.length (xs.map encStr) hs hown ⟨B,0,none⟩ ys.length cap (ys.map Value.string) hx (by simp) ?_ (fun v hv=>by obtain ⟨x,_,rfl⟩:=List.mem_map.1 hv;rfl) (by unfold maxLen;omega) (by omega) hbase ?_
  ·intro j v hv
   rw [List.getElem?_map] at hv
   obtain ⟨d,hd,rfl⟩:=Option.map_eq_some_iff.1 hv
   obtain ⟨hj,rfl⟩:=List.getElem?_eq_some_iff.1 hd
   have:=hr.cell j hj
   cases j with
   |zero=>exact this
   |succ j=>simpa [Addr.add] using this
  ·intro v' w' h1 h2 _
   refine h v' w' ?_ ?_
   ·unfold OwS
    rw [List.length_append,List.length_map,List.map_append,List.map_map]
    exact h1
   ·exact ⟨h2.os,h2.tape,h2.output,h2.size,fun k hk=>h2.block k (by omega) (fun q=>by have:=(World.ownsRow.lt hown k q.symm).1;omega)⟩
theorem xL{b:Nat}{W:World}{v:Value}{l:List ByteArray}(h:RowV b W v l): ∃ a c,v= .slice a l.length c:=by
 rcases h with ⟨rfl,rfl⟩|⟨B,cap,rfl,_⟩
 ·exact ⟨_,_,rfl⟩
 ·exact ⟨_,_,rfl⟩
theorem vU{b:Nat}{W W':World}{v:Value}{l:List ByteArray}(h:RowV b W v l)(hb:Below W.heap.size W W'):RowV b W' v l:=by
 rcases h with h|⟨B,cap,h1,h2,h3⟩
 ·exact .inl h
 ·obtain ⟨⟨cur,q1,q2,q3⟩,q4⟩:=h3
  exact .inr ⟨B,cap,h1,h2,⟨cur,(hb.block _ (Array.getElem?_eq_some_iff.1 q1).1).trans q1,q2,q3⟩,q4⟩
theorem OwS.form{base:Nat}{W:World}{v:Value}{ss:List (List UInt8)}(h:OwS base W v ss): ∃ a c,v= .slice a ss.length c:=by
 rcases h.2 with ⟨rfl,h0⟩|⟨g,cap,cur,rfl,_⟩
 ·exact ⟨_,_,by rw [h0]⟩
 ·exact ⟨_,_,rfl⟩
set_option maxHeartbeats 2000000 in
set_option maxRecDepth 100000 in
theorem zd7(B b1:Nat)(v1 v2:Value)(l1 l2:List ByteArray)(w:World)(h1:RowV b1 w v1 l1)(h2:RowV b1 w v2 l2)(hc:w.heap[B]? =some (.cells #[v1,v2] 51 (0,0)))(hl1:l1.length≤1000)(hl2:l2.length≤1000):
  Calls Tryz.prog 40 #[.slice (some ⟨B,0,none⟩) 2 2] w fun r w'=> ∃ v',r= .returned v'∧OwS w.heap.size w' v' ((l1++l2).map fun y=>y.data.toList)∧Below w.heap.size w w':=by
 have H1:Hid (RowV b1 w v1 l1):=h1
 have H2:Hid (RowV b1 w v2 l2):=h2
 obtain ⟨a1,k1,rfl⟩:=xL h1
 obtain ⟨a2,k2,rfl⟩:=xL h2
 have x0:w.cell? ⟨B,0,none⟩=some (.slice a1 l1.length k1):=by simp [World.cell?,hc]
 have x1:w.cell? ⟨B,1,none⟩=some (.slice a2 l2.length k2):=by simp [World.cell?,hc]
 have HL1:Hid (_):=hl1
 have HL2:Hid (_):=hl2
 generalize hn1:l1.length=n1 at hl1 x0 H1 hc
 generalize hn2:l2.length=n2 at hl2 x1 H2 hc
 have HN1:Hid (l1.length=n1):=hn1
 have HN2:Hid (l2.length=n2):=hn2
 have X0:Hid (∀ W,Below w.heap.size w W→W.cell? ⟨B,0,none⟩=some (.slice a1 n1 k1)):=fun W hW=>zD x0 hW
 have X1:Hid (∀ W,Below w.heap.size w W→W.cell? ⟨B,1,none⟩=some (.slice a2 n2 k2)):=fun W hW=>zD x1 hW
 have GR:Hid (Calls Tryz.prog 72 #[.slice none 0 0,.int .i64 ((n1+n2:Nat):Int)] w fun r w'=> ∃ a c,r= .returned (.slice a 0 c)∧OwS w.heap.size w' (.slice a 0 c) []∧Below w.heap.size w w'):=by
  by_cases hz:n1+n2=0
  ·rw [hz]
   refine Calls.mono (zfU w) ?_
   rintro r w' ⟨rfl,rfl⟩
   exact ⟨none,0,rfl,OwS.nil _ _,Below.refl _ _⟩
  ·refine Calls.mono (zg6 (n1+n2) w (by omega) (by omega)) ?_
   rintro r w' ⟨g,cap,rfl,ho,hb⟩
   exact ⟨_,_,rfl,ho,hb⟩
 clear h1 h2 hn1 hn2 hc
 go_enter Tryz.func40,Tryz.ntmps40
 go_wp2
 go_loop [3,5,11] (fun n _ i=>((i= .int .i64 0∧n= .int .i64 0)∨(i= .int .i64 1∧n= .int .i64 n1))∨(i= .int .i64 2∧n= .int .i64 ((n1+n2:Nat):Int))) (fun _ _ i=>2 - (intOf i).toNat)
 case atStart=>exact .inl (.inl ⟨rfl,rfl⟩)
 case round=>
  rcases hrel with (⟨rfl,rfl⟩|⟨rfl,rfl⟩)|⟨rfl,rfl⟩
  ·go_wp2
   go_round
   case rel=>exact .inl (.inr ⟨rfl,by go_num⟩)
   case measure=>simp [intOf]
  ·go_wp2
   go_round
   case rel=>exact .inr ⟨rfl,by go_num⟩
   case measure=>simp [intOf]
  ·clear x0 x1
   go_wp2_with (go_at_call 72;refine Calls.mono GR.out ?_;rintro r w1 ⟨ga,gc,rfl,ho1,hb1⟩)
   have HO1:Hid (OwS w.heap.size w1 (.slice ga 0 gc) []):=ho1
   have HB1:Hid (Below w.heap.size w w1):=hb1
   clear ho1 hb1 GR
   go_loopw [6,8,27] (fun v _ i wr=>Hid (Below w.heap.size w wr)∧(((i= .int .i64 0∧Hid (OwS w.heap.size wr v []))∨(i= .int .i64 1∧Hid (OwS w.heap.size wr v (l1.map fun y=>y.data.toList))))∨(i= .int .i64 2∧Hid (OwS w.heap.size wr v ((l1++l2).map fun y=>y.data.toList))))) (fun _ _ i _=>2 - (intOf i).toNat)
   case atStart=>exact ⟨HB1.out,.inl (.inl ⟨rfl,HO1.out⟩)⟩
   case round=>
    obtain ⟨HB,hr⟩:=hrel
    have hzw:w.heap.size≤wr.heap.size:=HB.out.size
    rcases hr with (⟨rfl,HO⟩|⟨rfl,HO⟩)|⟨rfl,HO⟩
    ·have x0:=X0.out wr HB.out
     obtain ⟨oa,oc,rfl⟩:=HO.out.form
     have HR1:Hid (RowV b1 wr (.slice a1 n1 k1) l1):=vU H1.out HB.out
     have hl:([]:List (List UInt8)).length+l1.length≤100000:=by have:=HL1.out;simp;omega
     have HLL:Hid (_):=hl
     clear hl
     go_wp2_with (first
      |(at_builtin;refine zg7 rfl _ _ rfl w.heap.size b1 [] l1 _ _ rfl HO.out rfl HR1.out HLL.out hzw ?_;intro v' w3 ho3 hb3;have HO3:Hid (OwS w.heap.size w3 v' (l1.map fun y=>y.data.toList)):=ho3;have HB3:Hid (Below w.heap.size w w3):=⟨hb3.os.trans HB.out.os,hb3.tape.trans HB.out.tape,hb3.output.trans HB.out.output,Nat.le_trans HB.out.size hb3.size,fun k hk=>(hb3.block k hk).trans (HB.out.block k hk)⟩;obtain ⟨na,nc,rfl⟩:=HO3.out.form;clear ho3 hb3)
      |go_in)
     go_roundw
     case rel=>exact ⟨HB3.out,.inl (.inr ⟨rfl,by have:=HO3.out;rw [List.length_map] at this;exact this⟩)⟩
     case measure=>simp [intOf]
    ·have x1:=X1.out wr HB.out
     obtain ⟨oa,oc,rfl⟩:=HO.out.form
     have HR2:Hid (RowV b1 wr (.slice a2 n2 k2) l2):=vU H2.out HB.out
     have hl:(l1.map fun y=>y.data.toList).length+l2.length≤100000:=by have:=HL1.out;have:=HL2.out;rw [List.length_map];omega
     have HLL:Hid (_):=hl
     have hml:(l1.map fun y=>y.data.toList).length=n1:=by rw [List.length_map];exact HN1.out
     have HML:Hid (_):=hml
     clear hl
     generalize hLL:(l1.map fun y=>y.data.toList)=L1 at HO HLL hml ⊢
     have HL:Hid (∀ (x:List (List UInt8)),x=L1++l2.map (fun y=>y.data.toList)→x=(l1++l2).map fun y=>y.data.toList):=fun x e=>by rw [e,←hLL,List.map_append]
     generalize L1.length=ll at HO hml ⊢
     clear hLL hml HML
     go_wp2_with (first
      |(at_builtin;refine zg7 rfl _ _ rfl w.heap.size b1 L1 l2 _ _ rfl HO.out rfl HR2.out HLL.out hzw ?_;intro v' w3 ho3 hb3;have HO3:Hid (OwS w.heap.size w3 v' ((l1++l2).map fun y=>y.data.toList)):=(by rw [←HL.out _ rfl];exact ho3);have HB3:Hid (Below w.heap.size w w3):=⟨hb3.os.trans HB.out.os,hb3.tape.trans HB.out.tape,hb3.output.trans HB.out.output,Nat.le_trans HB.out.size hb3.size,fun k hk=>(hb3.block k hk).trans (HB.out.block k hk)⟩;obtain ⟨na,nc,rfl⟩:=HO3.out.form;clear ho3 hb3)
      |go_in)
     go_roundw
     case rel=>exact ⟨HB3.out,.inr ⟨rfl,by have:=HO3.out;rw [List.length_map,List.length_append] at this;exact this⟩⟩
     case measure=>simp [intOf]
    ·go_wp2
     go_ret
     exact ⟨_,rfl,HO.out,HB.out⟩
def zai(X Y:List EV):List ByteArray:=(Go.Lib.compact ((((X.map EV.id)++(Y.map EV.id)).map fun y=>y.data.toList).mergeSort fun x y=>decide (x≤y))).map bs
theorem zbT(X Y:List EV):(zai X Y).Nodup:=by
 have h:=(vA (((X.map EV.id)++(Y.map EV.id)).map fun y=>y.data.toList)).1
 unfold zai
 refine List.pairwise_map.2 (h.imp (fun {a b} q e=> ?_))
 rw [ze5 e] at q
 exact List.lt_irrefl _ q
theorem jn(X Y:List EV)(id:ByteArray):id∈zai X Y↔(∃ E∈X,E.id=id)∨ ∃ E∈Y,E.id=id:=by
 have h:=(vA (((X.map EV.id)++(Y.map EV.id)).map fun y=>y.data.toList)).2
 unfold zai
 rw [List.mem_map]
 constructor
 ·rintro ⟨x,hx,rfl⟩
  obtain ⟨y,hy,rfl⟩:=List.mem_map.1 ((h x).1 hx)
  rcases List.mem_append.1 hy with q|q
  ·obtain ⟨E,hE,rfl⟩:=List.mem_map.1 q
   exact .inl ⟨E,hE,rfl⟩
  ·obtain ⟨E,hE,rfl⟩:=List.mem_map.1 q
   exact .inr ⟨E,hE,rfl⟩
 ·intro q
  have hid:id∈X.map EV.id++Y.map EV.id:=by
   rcases q with ⟨E,hE,rfl⟩|⟨E,hE,rfl⟩
   ·exact List.mem_append.2 (.inl (List.mem_map_of_mem hE))
   ·exact List.mem_append.2 (.inr (List.mem_map_of_mem hE))
  exact ⟨id.data.toList,(h _).2 (List.mem_map_of_mem hid),rfl⟩
theorem ze8(X Y:List EV)(hX:X.length≤60)(hY:Y.length≤60):(zai X Y).length≤120:=by
 unfold zai
 rw [List.length_map]
 refine Nat.le_trans (vT _) ?_
 rw [List.length_mergeSort,List.length_map,List.length_append,List.length_map,List.length_map]
 omega
def zlv(a b:List ByteArray):List ByteArray:=(Go.Lib.compact (((a++b).map fun y=>y.data.toList).mergeSort fun x y=>decide (x≤y))).map bs
theorem zjb(a b:List ByteArray):(zlv a b).length≤a.length+b.length:=by
 unfold zlv
 rw [List.length_map]
 refine Nat.le_trans (vT _) ?_
 rw [List.length_mergeSort,List.length_map,List.length_append]
 exact Nat.le_refl _
set_option maxHeartbeats 1000000 in
theorem zes(b:Nat)(v1 v2:Value)(l1 l2:List ByteArray)(w:World)(h1:RowV b w v1 l1)(h2:RowV b w v2 l2)(hl1:l1.length≤1000)(hl2:l2.length≤1000):
  Calls Tryz.prog 19 #[v1,v2] w fun r w'=> ∃ v',r= .returned v'∧Txs w' v' (zlv l1 l2)∧Below w.heap.size w w':=by
 have CC:Hid (Calls _ _ _ _ _):=zd7 w.heap.size b v1 v2 l1 l2 (w.alloc (.cells #[v1,v2] 51)) (vU h1 (zC _ _)) (vU h2 (zC _ _)) (zJ _ rfl) hl1 hl2
 have HA:Hid (Below w.heap.size w (w.alloc (.cells #[v1,v2] 51))):=zC _ _
 have HL:Hid (((l1++l2).map fun y=>y.data.toList).length≤80000):=by show _≤_;rw [List.length_map,List.length_append];omega
 have HR:Hid ((Go.Lib.compact (((l1++l2).map fun y=>y.data.toList).mergeSort fun x y=>decide (x≤y))).map bs=zlv l1 l2):=rfl
 have HRL:Hid ((zlv l1 l2).length≤80000):=by show _≤_;have:=zjb l1 l2;omega
 obtain ⟨a1,k1,rfl⟩:=xL h1
 obtain ⟨a2,k2,rfl⟩:=xL h2
 generalize zlv l1 l2=R at HR HRL ⊢
 generalize (l1++l2).map (fun y=>y.data.toList)=L at CC HL HR
 clear h1 h2
 go_enter Tryz.func19,Tryz.ntmps19
 go_wp2_with fail
 go_at_call 40
 refine Calls.mono CC.out ?_
 rintro r w3 ⟨v3,rfl,ho3,hb3⟩
 have HB3:=hid (zB HA.out hb3)
 have hz2:w.heap.size≤(w.alloc (.cells #[.slice a1 l1.length k1,.slice a2 l2.length k2] 51)).heap.size:=HA.out.size
 have SO:Hid (Calls _ _ _ _ _):=ziX _ v3 _ w3 ho3 HL.out
 have HOW:Hid (∀ g,v3.ownBlock=some g→w.heap.size≤g):=fun g hg=>Nat.le_trans hz2 (World.ownsRow.lt ho3 g hg).1
 have HSL:Hid ((L.mergeSort fun x y=>decide (x≤y)).length≤80000):=by show _≤_;rw [List.length_mergeSort];exact HL.out
 obtain ⟨a3,k3,rfl⟩:=ho3.form
 clear ho3 hb3 CC
 generalize L.length=n3 at SO HOW ⊢
 go_wp2_with fail
 go_at_call 41
 refine Calls.mono SO.out ?_
 rintro r w4 ⟨rfl,ho4,hg4⟩
 have HB4:Hid (Below w.heap.size w w4):=HB3.out.grown hg4 HB3.out.size (fun k q=>HOW.out k q)
 have CO:Hid (Calls _ _ _ _ _):=zd6 _ _ _ w4 ho4 HSL.out
 clear SO ho4 hg4
 go_wp2_with (go_at_call 42;refine Calls.mono CO.out ?_;rintro r w5 ⟨v5,rfl,ho5,hg5⟩)
 have HB5:Hid (Below w.heap.size w w5):=HB4.out.grown hg5 HB4.out.size (fun k q=>HOW.out k q)
 have HT:Hid (Txs w5 v5 R):=by
  have h:=zcl ho5
  rw [HR.out] at h
  exact h.txs (by have:=HRL.out;omega)
 clear ho5 hg5
 go_ret
 exact ⟨v5,rfl,HT.out,HB5.out⟩
end Go.Proofs.YtpeafgddbbojaaaGreatDoor
namespace Go.Proofs.YtpeafgddbbojaaaGreatDoor
open Go Go.RowKit Go.Maps Go.Sort Cal
attribute [local go_sem] Oper.semAt_some
theorem zhH(bb:Nat)(w:World):Calls Tryz.prog 21 #[.pointer (some ⟨bb,0,none⟩),.string ⟨#[]⟩] w fun r w'=>r= .returned .nilIface∧w'=w:=by
 go_enter Tryz.func21,Tryz.ntmps21
 go_wp2
 go_ret
 exact ⟨rfl,rfl⟩
theorem zhI{l:List UInt8}(h:l≠[]):((bs l).toList==[])=false:=by
 rw [ByteArray.toList_eq]
 cases l with
 |nil=>exact absurd rfl h
 |cons a r=>rfl
set_option maxHeartbeats 2000000 in
set_option maxRecDepth 100000 in
theorem zgf(lo bb n:Nat)(mo:Option Nat)(C:List EV)(E:EV)(s:Nat→Addr)(w:World)(gk:GlobK s w)(g:GlobR w)(h:BookAt lo w bb mo n C)(hn:n≤90000)(hE:EW E)(h20:E.ds.length≤20)(hne:eT E≠[]):
  Calls Tryz.prog 21 #[.pointer (some ⟨bb,0,none⟩),.string (bs (eT E))] w fun r w'=>
   (((¬ ∃ F∈C,F.id=E.id)∧60≤C.length)∧r= .returned (.iface 269 (.pointer (some (s 6))))∧Below w.heap.size w w')∨(¬ ((¬ ∃ F∈C,F.id=E.id)∧60≤C.length)∧r= .returned .nilIface∧ ∃ w1,Below w.heap.size w w1∧PutTo lo w1 w' bb mo n (jL E C)):=by
 have RE:=hid (zgH E s w gk g hE h20)
 have PC:Hid (∀ (sl skv mvv:Value) (W:World),Below w.heap.size w W→Ls W E sl skv mvv→Calls Tryz.prog 12 #[.pointer (some ⟨bb,0,none⟩),ev E sl skv mvv] W fun r w'=>(((¬ ∃ F∈C,F.id=E.id)∧60≤C.length)∧r= .returned (.iface 269 (.pointer (some (s 6))))∧Below W.heap.size W w')∨(¬ ((¬ ∃ F∈C,F.id=E.id)∧60≤C.length)∧r= .returned .nilIface∧PutTo lo W w' bb mo n (jL E C))):=fun sl skv mvv W hW hL=>by
  refine (zkg lo bb n mo C E sl skv mvv 0 s W (gk.step hW) (h.step hW) hn (by have:=hE.id.2.2;omega) (by have:=hE.ti.2;omega) hL (by obtain ⟨k,hk⟩:=vV E;have:=(jM hk).2 hE;subst this;exact hk)).mono ?_
  rintro r w' (⟨q,_⟩|⟨_,q1,q2,q3⟩|⟨_,q1,q2,q3⟩)
  ·exact absurd rfl q
  ·exact .inl ⟨q1,q2,q3⟩
  ·exact .inr ⟨q1,q2,q3⟩
 have e0:((bs (eT E)).toList==[])=false:=zhI hne
 generalize bs (eT E)=tx at RE e0 ⊢
 clear h gk g hne
 go_enter Tryz.func21,Tryz.ntmps21
 go_wp2_with fail
 go_at_call 47
 refine Calls.mono RE.out ?_
 rintro r w1 ⟨sl,skv,mvv,rfl,hL,hb1⟩
 have hLc:=hL
 obtain ⟨ld,ls,lm⟩:=hLc
 obtain ⟨r1,rc1,rfl,_⟩:=ld
 obtain ⟨s1,sc1,rfl,_⟩:=ls
 obtain ⟨m1,mc1,rfl,_⟩:=lm
 have HB1:Hid (Below w.heap.size w (w1.alloc (.cells (eW E.id E.ti E.st E.lg E.f E.e r1 E.ds.length rc1 E.c E.u s1 E.sk.length sc1 m1 E.mv.length mc1) 48))):=zB hb1 (zC _ _)
 have PP:=PC.out _ _ _ _ HB1.out (hL.step (zC _ _))
 have KB:Hid ((w1.alloc (.cells (eW E.id E.ti E.st E.lg E.f E.e r1 E.ds.length rc1 E.c E.u s1 E.sk.length sc1 m1 E.mv.length mc1) 48)).heap[w1.heap.size]? =some (.cells (eW E.id E.ti E.st E.lg E.f E.e r1 E.ds.length rc1 E.c E.u s1 E.sk.length sc1 m1 E.mv.length mc1) 48 (0,0))):=zJ _ rfl
 unfold ev at PP ⊢
 have HPP:=hid PP
 clear PP PC RE hL hb1 e0
 go_upto_region 4 with (fail)
 generalize w1.alloc (.cells (eW E.id E.ti E.st E.lg E.f E.e r1 E.ds.length rc1 E.c E.u s1 E.sk.length sc1 m1 E.mv.length mc1) 48)=w2 at*
 generalize w1.heap.size=c1 at*
 obtain ⟨x0,x1,x2,x3,x4,x5,x6,x7,x8,x9,x10⟩:=zK KB.out
 go_wp2_with (go_at_call 12;refine Calls.mono HPP.out ?_;rintro r w3 (⟨q1,rfl,q3⟩|⟨q1,rfl,q3⟩))
 ·go_ret
  exact .inl ⟨q1,rfl,zB HB1.out q3⟩
 ·go_ret
  exact .inr ⟨q1,rfl,_,HB1.out,q3⟩
end Go.Proofs.YtpeafgddbbojaaaGreatDoor
namespace Go.Proofs.YtpeafgddbbojaaaGreatDoor
open Go Go.RowKit Go.Maps Go.Sort Cal
end Go.Proofs.YtpeafgddbbojaaaGreatDoor
namespace Go.Proofs.YtpeafgddbbojaaaGreatDoor
open Go Go.RowKit Go.Maps Go.Sort Cal
attribute [local go_sem] Oper.semAt_some
structure SW(E:EV):Prop where
 id:zdX E.id
 ti:zfe E.ti
 bd:bE E.st E.lg
 rl:Well (rd E.f E.e E.ds E.c E.u)
 k40:E.sk.length≤40
 m40:E.mv.length≤40
 kd: ∀ x∈E.sk,0≤x∧x≤73048
 md: ∀ m∈E.mv,(0≤m.1∧m.1≤73048)∧0≤m.2∧m.2≤73048
theorem zjc{E:EV}(h:SW E):E.sk.length≤40∧E.mv.length≤40∧True∧True∧(∀ x∈E.sk,0≤x∧x≤73048)∧(∀ m∈E.mv,(0≤m.1∧m.1≤73048)∧0≤m.2∧m.2≤73048)∧True:=⟨h.k40,h.m40,trivial,trivial,h.kd,h.md,trivial⟩
theorem zkM{E:EV}(h:SW E)(k:Nat):(124:UInt8)∉fT E k:=by
 match k with
 |0=>
  intro hm
  change (124:UInt8)∈E.ti.data.toList at hm
  obtain ⟨j,hj,he⟩:=List.mem_iff_getElem.1 hm
  have:=h.ti.1 j (by simpa using hj)
  unfold okt at this
  have e2:E.ti[j]'(by simpa using hj)=124:=by
   show E.ti.data[j]=124
   simpa using he
  rw [e2] at this
  simp at this
 |1=>exact xK _ _ (by decide)
 |2=>intro hm;have:=xA _ (show 0≤E.lg by have:=h.bd.2.1;omega) _ hm;revert this;decide
 |3=>exact zgO h.rl
 |4=>exact vi 124 44 (by decide) _ (fun y hy=>by obtain ⟨d,_,rfl⟩:=List.mem_map.1 hy;exact xK _ _ (by decide))
 |k+5=>exact vi 124 44 (by decide) _ (fun y hy=>by obtain ⟨d,_,rfl⟩:=List.mem_map.1 hy;exact zcY _ _ (by decide))
theorem zkN{E:EV}(h:SW E):(124:UInt8)∉E.id.data.toList:=by
 intro hm
 obtain ⟨j,hj,he⟩:=List.mem_iff_getElem.1 hm
 have:=h.id.1 j (by simpa using hj)
 unfold okc at this
 have e2:E.id[j]'(by simpa using hj)=124:=by
  show E.id.data[j]=124
  simpa using he
 rw [e2] at this
 simp at this
theorem zkO{E:EV}(h:SW E)(h20:E.ds.length≤20)(k:Nat):(fT E k).length≤1000:=by
 obtain ⟨k20,m20,_⟩:=zjc h
 match k with
 |0=>have:=h.ti.2;show E.ti.data.toList.length≤_;rw [Array.length_toList];have e:E.ti.data.size=E.ti.size:=rfl;omega
 |1=>have:=yP E.st;show (dtx _).length≤_;omega
 |2=>have:=yw E.lg (by have:=h.bd.2.1;omega) (by have:=h.bd.2.2;omega);show (Lib.itoa _).length≤_;omega
 |3=>obtain ⟨t,ht,e⟩:=jH h.rl;show (ruT _).length≤_;rw [e];exact vj h.rl ht h20
 |4=>
  have:=yT (E.sk.map dtx) [44] 10 (fun y hy=>by obtain ⟨x,_,rfl⟩:=List.mem_map.1 hy;exact yP x)
  rw [List.length_map] at this
  have h31:E.sk.length*(10+[(44:UInt8)].length)≤40*11:=Nat.mul_le_mul k20 (by simp)
  show (Lib.join _ _).length≤_
  omega
 |k+5=>
  have:=yT (E.mv.map mtx) [44] 21 (fun y hy=>by obtain ⟨x,_,rfl⟩:=List.mem_map.1 hy;exact jJ x)
  rw [List.length_map] at this
  have h31:E.mv.length*(21+[(44:UInt8)].length)≤40*22:=Nat.mul_le_mul m20 (by simp)
  show (Lib.join _ _).length≤_
  omega
theorem zas{E:EV}(h:SW E):zZ 124 (eT E)=E.id.data.toList::pT E:=by
 refine yg 124 _ (by simp) (fun x hx=> ?_)
 rcases List.mem_cons.1 hx with rfl|hx
 ·exact zkN h
 ·obtain ⟨k,_,rfl⟩:=zdb hx
  exact zkM h k
theorem zkP{E:EV}(h:SW E)(h20:E.ds.length≤20):(eT E).length≤10000:=by
 have:=yT (E.id.data.toList::pT E) [124] 1000 (fun y hy=>by
  rcases List.mem_cons.1 hy with rfl|hy
  ·have:=h.id.2.2;rw [Array.length_toList];have e:E.id.data.size=E.id.size:=rfl;omega
  ·obtain ⟨k,_,rfl⟩:=zdb hy;exact zkO h h20 k)
 exact Nat.le_trans this (by simp [pT])
theorem zet(E:EV)(k:Nat)(hk:k<6)(w:World)(hw:SW E)(ht:Tab w):
  Calls Tryz.prog 80 #[.string (zt k),.string (bs (fT E k))] w fun r w'=>r= .returned (.bool true)∧Below w.heap.size w w':=by
 obtain ⟨k20,m20,_⟩:=zjc hw
 match k,hk with
 |0,_=>
  generalize bs (fT E 0)=sb
  unfold zt
  go_enter Tryz.func80,Tryz.ntmps80
  go_wp2
  go_ret
  exact ⟨rfl,Below.refl _ _⟩
 |1,_=>
  generalize bs (fT E 1)=sb
  unfold zt
  go_enter Tryz.func80,Tryz.ntmps80
  go_wp2
  go_ret
  exact ⟨rfl,Below.refl _ _⟩
 |2,_=>
  have R:=hid (yo E.lg w (by have:=hw.bd.2.1;omega) (by have:=hw.bd.2.2;omega) ht)
  show Calls _ _ #[.string (zt 2),.string (bs (Lib.itoa E.lg))] _ _
  generalize bs (Lib.itoa E.lg)=sb at R ⊢
  unfold zt
  go_enter Tryz.func80,Tryz.ntmps80
  go_wp2_with (go_at_call 128;refine Calls.mono R.out ?_;rintro r w1 ⟨rfl,hb1⟩)
  go_ret
  exact ⟨rfl,hb1⟩
 |3,_=>
  generalize bs (fT E 3)=sb
  unfold zt
  go_enter Tryz.func80,Tryz.ntmps80
  go_wp2
  go_ret
  exact ⟨rfl,Below.refl _ _⟩
 |4,_=>
  generalize bs (fT E 4)=sb
  unfold zt
  go_enter Tryz.func80,Tryz.ntmps80
  go_wp2
  go_ret
  exact ⟨rfl,Below.refl _ _⟩
 |5,_=>
  have R:=hid (zaA E.mv w (by omega))
  show Calls _ _ #[.string (zt 5),.string (bs (Lib.join (E.mv.map mtx) [44]))] _ _
  generalize bs (Lib.join (E.mv.map mtx) [44])=sb at R ⊢
  unfold zt
  go_enter Tryz.func80,Tryz.ntmps80
  go_wp2_with (go_at_call 129;refine Calls.mono R.out ?_;rintro r w1 ⟨rfl,hb1⟩)
  go_ret
  exact ⟨rfl,hb1⟩
set_option maxHeartbeats 4000000 in
set_option maxRecDepth 100000 in
theorem zhJ(E F:EV)(sl skv mvv:Value)(k:Nat)(hk:k<6)(B:Nat)(N:Nat→Prop)(hN:N B)(w:World)(hN2: ∀ n,N n→n<w.heap.size)(g:GlobR w)(hB:EB w B E sl skv mvv)(hO:Off N w E sl skv mvv)(hw:SW F)(h20:F.ds.length≤20):
  Calls Tryz.prog 81 #[.pointer (some ⟨B,0,none⟩),.string (zt k),.string (bs (fT F k))] w fun r w'=>r= .returned .nilIface∧w.grownBy w' (some B)∧ ∃ sl' skv' mvv',EB w' B (upd E F k) sl' skv' mvv'∧Off N w' (upd E F k) sl' skv' mvv':=by
 obtain ⟨k20,m20,_,_,kd,md,_⟩:=zjc hw
 match k,hk with
 |0,_=>
  show Calls _ _ #[_,.string (zt 0),.string (bs F.ti.data.toList)] _ _
  rw [zgF]
  have HBX:=hid hB
  have HOX:=hid hO
  obtain ⟨x0,x1,x2,x3,x4,x5,x6,x7,x8,x9,x10⟩:=zK (show w.heap[B]? =_ from hB)
  have z:=zF (show w.heap[B]? =_ from hB) 1
  unfold zt
  go_enter Tryz.func81,Tryz.ntmps81
  go_wp2
  go_ret
  exact ⟨rfl,zG _ ⟨B,1,none⟩ _,sl,skv,mvv,zd9 (.string F.ti) HBX.out,(HOX.out.grown hN (zG _ ⟨B,1,none⟩ _):Off N _ E sl skv mvv).d,(HOX.out.grown hN (zG _ ⟨B,1,none⟩ _):Off N _ E sl skv mvv).s,(HOX.out.grown hN (zG _ ⟨B,1,none⟩ _):Off N _ E sl skv mvv).m⟩
 |1,_=>
  have R:=hid (xJ F.st w hw.bd.1.1 hw.bd.1.2)
  show Calls _ _ #[_,.string (zt 1),.string (bs (dtx F.st))] _ _
  generalize bs (dtx F.st)=sb at R ⊢
  have HBX:=hid hB
  have HOX:=hid hO
  unfold zt
  clear hB hO
  go_enter Tryz.func81,Tryz.ntmps81
  go_wp2_with (go_at_call 130;refine Calls.mono R.out ?_;rintro r w1 ⟨rfl,hb1⟩;obtain ⟨x0,x1,x2,x3,x4,x5,x6,x7,x8,x9,x10⟩:=zK (show w1.heap[B]? =_ from HBX.out.step hb1);have z:=zF (show w1.heap[B]? =_ from HBX.out.step hb1) 2)
  go_ret
  have gg:w.grownBy (w1.setCell ⟨B,2,none⟩ (.int .i64 F.st)) (some B):=zL (zO hb1 _) (zG _ ⟨B,2,none⟩ _)
  exact ⟨rfl,gg,sl,skv,mvv,zea (.int .i64 F.st) (HBX.out.step hb1),(HOX.out.grown hN gg).d,(HOX.out.grown hN gg).s,(HOX.out.grown hN gg).m⟩
 |2,_=>
  have R:=hid (yo F.lg w (by have:=hw.bd.2.1;omega) (by have:=hw.bd.2.2;omega) g.tab)
  show Calls _ _ #[_,.string (zt 2),.string (bs (Lib.itoa F.lg))] _ _
  generalize bs (Lib.itoa F.lg)=sb at R ⊢
  have HBX:=hid hB
  have HOX:=hid hO
  unfold zt
  clear hB hO
  go_enter Tryz.func81,Tryz.ntmps81
  go_wp2_with (go_at_call 128;refine Calls.mono R.out ?_;rintro r w1 ⟨rfl,hb1⟩;obtain ⟨x0,x1,x2,x3,x4,x5,x6,x7,x8,x9,x10⟩:=zK (show w1.heap[B]? =_ from HBX.out.step hb1);have z:=zF (show w1.heap[B]? =_ from HBX.out.step hb1) 3)
  go_ret
  have gg:w.grownBy (w1.setCell ⟨B,3,none⟩ (.int .i64 F.lg)) (some B):=zL (zO hb1 _) (zG _ ⟨B,3,none⟩ _)
  exact ⟨rfl,gg,sl,skv,mvv,zeb (.int .i64 F.lg) (HBX.out.step hb1),(HOX.out.grown hN gg).d,(HOX.out.grown hN gg).s,(HOX.out.grown hN gg).m⟩
 |3,_=>
  obtain ⟨t,ht,et⟩:=jH hw.rl
  have R:=zfI F.f F.e F.ds F.c F.u t w g h20 hw.rl ht
  show Calls _ _ #[_,.string (zt 3),.string (bs (ruT (rd F.f F.e F.ds F.c F.u)))] _ _
  rw [et]
  generalize bs (yV (rd F.f F.e F.ds F.c F.u) t)=sb at R ⊢
  unfold rv at R
  have HR:=hid R
  have HBX:=hid hB
  have HOX:=hid hO
  unfold zt
  clear hB hO R
  go_enter Tryz.func81,Tryz.ntmps81
  go_wp2_with (go_at_call 131;refine Calls.mono HR.out ?_;rintro r w1 ⟨s1,rfl,ho1,hb1⟩;obtain ⟨ra,rc,rfl⟩:=zw ho1;obtain ⟨x0,x1,x2,x3,x4,x5,x6,x7,x8,x9,x10⟩:=zK (show w1.heap[B]? =_ from HBX.out.step hb1);have z4:=zF (show w1.heap[B]? =_ from HBX.out.step hb1) 4;have z5:=zF (show w1.heap[B]? =_ from HBX.out.step hb1) 5;have z6:=zF (show w1.heap[B]? =_ from HBX.out.step hb1) 6;have z7:=zF (show w1.heap[B]? =_ from HBX.out.step hb1) 7;have z8:=zF (show w1.heap[B]? =_ from HBX.out.step hb1) 8)
  rw [jd]
  have g5:=xj w1 B (.string F.f) (.int .i64 F.e) (.slice ra F.ds.length rc) (.int .i64 F.c) (.int .i64 F.u)
  have b5:=zaQ (.string F.f) (.int .i64 F.e) (.slice ra F.ds.length rc) (.int .i64 F.c) (.int .i64 F.u) (show w1.heap[B]? =_ from HBX.out.step hb1)
  generalize zjN w1 B (.string F.f) (.int .i64 F.e) (.slice ra F.ds.length rc) (.int .i64 F.c) (.int .i64 F.u)=w2 at g5 b5 ⊢
  go_ret
  have gg:w.grownBy w2 (some B):=zL (zO hb1 _) g5
  exact ⟨rfl,gg,.slice ra F.ds.length rc,skv,mvv,b5,(zaC ho1 hN2 (by omega)).grown hN g5,(HOX.out.grown hN gg).s,(HOX.out.grown hN gg).m⟩
 |4,_=>
  have R:=hid (ja F.sk w (by omega) kd)
  show Calls _ _ #[_,.string (zt 4),.string (bs (Lib.join (F.sk.map dtx) [44]))] _ _
  generalize bs (Lib.join (F.sk.map dtx) [44])=sb at R ⊢
  have HBX:=hid hB
  have HOX:=hid hO
  unfold zt
  clear hB hO
  go_enter Tryz.func81,Tryz.ntmps81
  go_wp2_with (go_at_call 132;refine Calls.mono R.out ?_;rintro r w1 ⟨s1,rfl,ho1,hb1⟩;obtain ⟨ra,rc,rfl⟩:=zw ho1;obtain ⟨x0,x1,x2,x3,x4,x5,x6,x7,x8,x9,x10⟩:=zK (show w1.heap[B]? =_ from HBX.out.step hb1);have z:=zF (show w1.heap[B]? =_ from HBX.out.step hb1) 9)
  go_ret
  have gg:w.grownBy (w1.setCell ⟨B,9,none⟩ (.slice ra F.sk.length rc)) (some B):=zL (zO hb1 _) (zG _ ⟨B,9,none⟩ _)
  exact ⟨rfl,gg,sl,(.slice ra F.sk.length rc),mvv,vX (.slice ra F.sk.length rc) (HBX.out.step hb1),(HOX.out.grown hN gg).d,(zaC ho1 hN2 (by omega)).grown hN (zG _ ⟨B,9,none⟩ _),(HOX.out.grown hN gg).m⟩
 |5,_=>
  have R:=hid (jc F.mv w (by omega) md)
  show Calls _ _ #[_,.string (zt 5),.string (bs (Lib.join (F.mv.map mtx) [44]))] _ _
  generalize bs (Lib.join (F.mv.map mtx) [44])=sb at R ⊢
  have HBX:=hid hB
  have HOX:=hid hO
  unfold zt
  clear hB hO
  go_enter Tryz.func81,Tryz.ntmps81
  go_wp2_with (go_at_call 133;refine Calls.mono R.out ?_;rintro r w1 ⟨s1,rfl,ho1,hb1⟩;obtain ⟨ra,rc,rfl⟩:=zo (zr ho1 (by omega)).2;obtain ⟨x0,x1,x2,x3,x4,x5,x6,x7,x8,x9,x10⟩:=zK (show w1.heap[B]? =_ from HBX.out.step hb1);have z:=zF (show w1.heap[B]? =_ from HBX.out.step hb1) 10)
  go_ret
  have gg:w.grownBy (w1.setCell ⟨B,10,none⟩ (.slice ra F.mv.length rc)) (some B):=zL (zO hb1 _) (zG _ ⟨B,10,none⟩ _)
  exact ⟨rfl,gg,sl,skv,(.slice ra F.mv.length rc),xY (.slice ra F.mv.length rc) (HBX.out.step hb1),(HOX.out.grown hN gg).d,(HOX.out.grown hN gg).s,(zch ho1 hN2 (by omega)).grown hN (zG _ ⟨B,10,none⟩ _)⟩
set_option maxHeartbeats 4000000 in
set_option maxRecDepth 100000 in
theorem zhK(E:EV)(s:Nat→Addr)(w:World)(gk:GlobK s w)(g:GlobR w)(hE:SW E)(kk:Int)(hkk:EvK E kk)(hk0:kk≠0)(h20:E.ds.length≤20):
  Calls Tryz.prog 47 #[.string (bs (eT E))] w fun r w'=>r= .returned (.tuple #[zV,jY s kk])∧Below w.heap.size w w':=by
 obtain ⟨k20,m20,_⟩:=zjc hE
 have GK:=hid gk
 have GR:=hid g
 have HW:=hid hE
 have SP:Hid (∀ W,Calls Tryz.prog 79 #[.string (bs (eT E)),.string ⟨#[124]⟩] W fun r w'=>r= .returned (.slice (some ⟨W.heap.size,0,none⟩) 7 7)∧w'=W.alloc (pcO (E.id.data.toList::pT E))):=fun W=>by
  have:=za7 (bs (eT E)) 124 W (by rw [Lib.size_eq,zh];have:=zkP hE h20;omega)
  rw [zh,zas hE] at this
  exact this
 have SH:Hid (∀ (m:Nat),m<6→ ∀ W,Tab W→Calls Tryz.prog 80 #[.string (zt m),.string (bs (fT E m))] W fun r w'=>r= .returned (.bool true)∧Below W.heap.size W w'):=fun m hm W h=>zet E m hm W hE h
 have FI:Hid (∀ (m:Nat),m<6→ ∀ (B:Nat) (N:Nat→Prop),N B→ ∀ (W:World),(∀ n,N n→n<W.heap.size)→GlobR W→ ∀ sl skv mvv,EB W B (zak E m) sl skv mvv→Off N W (zak E m) sl skv mvv→Calls Tryz.prog 81 #[.pointer (some ⟨B,0,none⟩),.string (zt m),.string (bs (fT E m))] W fun r w'=>r= .returned .nilIface∧W.grownBy w' (some B)∧ ∃ sl' skv' mvv',EB w' B (zak E (m+1)) sl' skv' mvv'∧Off N w' (zak E (m+1)) sl' skv' mvv'):=
  fun m hm B N hN W hN2 hg sl skv mvv hB hO=>by
   have:=zhJ (zak E m) E sl skv mvv m hm B N hN W hN2 hg hB hO hE h20
   rw [zeU E m hm] at this
   exact this
 obtain ⟨pk,hpk⟩:=zbb (s:=s) hk0
 have CK:Hid (∀ sl skv mvv W,GlobK s W→Ls W E sl skv mvv→Calls Tryz.prog 32 #[ev E sl skv mvv] W fun r w'=>r= .returned (.iface 269 (.pointer (some pk)))∧Below W.heap.size W w'):=fun sl skv mvv W hg hl=>by
  have:=vW E sl skv mvv kk s W hg hl.d hl.s hl.m (by have:=hE.id.2.2;omega) (by have:=hE.ti.2;omega) hkk
  rw [hpk] at this
  exact this
 rw [hpk]
 clear hkk hk0 hpk
 generalize bs (eT E)=sb at SP ⊢
 clear gk g hE
 have hA:=zC w (.cells zA 48)
 have kR:(w.alloc (.cells zA 48)).heap[w.heap.size]? =some (.cells zA 48 (0,0)):=zJ _ rfl
 have hz:(w.alloc (.cells zA 48)).heap.size=w.heap.size+1:=World.size_alloc _ _
 have HA:Hid (_):=hA
 have KR:Hid (_):=kR
 have HZ:Hid (_):=hz
 clear hA kR hz
 go_enter Tryz.func47,Tryz.ntmps47
 generalize hw0:w.alloc (.cells zA 48)=w0 at HA KR HZ
 go_upto_region 2 with (go_at_call 75;refine Calls.mono (vr _) ?_;rintro r w' ⟨rfl,rfl⟩)
 have FC1:Hid (∀ (i:Nat),i<6→(w0.alloc vD).cell? ⟨w0.heap.size,i,none⟩=some (.string (zt i))):=fun i hi=>vE w0 i hi
 have HB1:Hid (Below w0.heap.size w0 (w0.alloc vD)):=zC _ _
 have hz1:(w0.alloc vD).heap.size=w0.heap.size+1:=World.size_alloc _ _
 generalize w0.alloc vD=w1 at FC1 HB1 hz1 ⊢
 have HZ1:Hid (_):=hz1
 clear hz1
 go_upto_region 3 with (go_at_call 79;refine Calls.mono (SP.out _) ?_;rintro r w' ⟨rfl,rfl⟩)
 have PC:Hid (∀ (m:Nat),m<6→(w1.alloc (pcO (E.id.data.toList::pT E))).cell? ⟨w1.heap.size,1+m,none⟩=some (.string (bs (fT E m)))):=fun m hm=>zgG E w1 m hm
 have pc0:=zlx E w1
 have HB2:Hid (Below w1.heap.size w1 (w1.alloc (pcO (E.id.data.toList::pT E)))):=zC _ _
 have HZ2:Hid ((w1.alloc (pcO (E.id.data.toList::pT E))).heap.size=w1.heap.size+1):=World.size_alloc _ _
 generalize w1.alloc (pcO (E.id.data.toList::pT E))=w2 at PC pc0 HB2 HZ2 ⊢
 have HDEF:Hid (zak E 0=⟨E.id,⟨#[]⟩,0,0,⟨#[]⟩,0,[],0,0,[],[]⟩):=rfl
 generalize hid:E.id=idn at pc0 HDEF
 clear SP hw0 hid
 go_upto_region 8 with (fail)
 have KE:Hid (EB (w2.alloc (.cells #[.string idn,.string ⟨#[]⟩,.int .i64 0,.int .i64 0,.string ⟨#[]⟩,.int .i64 0,.slice none 0 0,.int .i64 0,.int .i64 0,.slice none 0 0,.slice none 0 0] 48)) w2.heap.size (zak E 0) (.slice none 0 0) (.slice none 0 0) (.slice none 0 0)):=by
  show EB _ _ _ _ _ _
  rw [HDEF.out]
  exact zJ _ rfl
 have HB3:Hid (Below w2.heap.size w2 (w2.alloc (.cells #[.string idn,.string ⟨#[]⟩,.int .i64 0,.int .i64 0,.string ⟨#[]⟩,.int .i64 0,.slice none 0 0,.int .i64 0,.int .i64 0,.slice none 0 0,.slice none 0 0] 48))):=zC _ _
 have HZ3:Hid ((w2.alloc (.cells #[.string idn,.string ⟨#[]⟩,.int .i64 0,.int .i64 0,.string ⟨#[]⟩,.int .i64 0,.slice none 0 0,.int .i64 0,.int .i64 0,.slice none 0 0,.slice none 0 0] 48)).heap.size=w2.heap.size+1):=World.size_alloc _ _
 have OF0:Hid (∀ N,Off N (w2.alloc (.cells #[.string idn,.string ⟨#[]⟩,.int .i64 0,.int .i64 0,.string ⟨#[]⟩,.int .i64 0,.slice none 0 0,.int .i64 0,.int .i64 0,.slice none 0 0,.slice none 0 0] 48)) (zak E 0) (.slice none 0 0) (.slice none 0 0) (.slice none 0 0)):=fun N=>by
  rw [HDEF.out]
  exact ⟨OffI.nil _ _ _,OffI.nil _ _ _,OffM.nil _ _ _⟩
 clear pc0
 generalize w2.alloc (.cells #[.string idn,.string ⟨#[]⟩,.int .i64 0,.int .i64 0,.string ⟨#[]⟩,.int .i64 0,.slice none 0 0,.int .i64 0,.int .i64 0,.slice none 0 0,.slice none 0 0] 48)=w3 at KE HB3 HZ3 OF0 ⊢
 obtain ⟨nf,hnf⟩: ∃ n,n=w0.heap.size:=⟨_,rfl⟩
 obtain ⟨np,hnp⟩: ∃ n,n=w1.heap.size:=⟨_,rfl⟩
 obtain ⟨be,hbe⟩: ∃ n,n=w2.heap.size:=⟨_,rfl⟩
 have e1:=HZ.out
 have e2:=HZ1.out
 have e3:=HZ2.out
 have e4:=HZ3.out
 have B23:=hid (zB HB2.out HB3.out)
 have B13:=hid (zB HB1.out B23.out)
 have BW3:=hid (zB HA.out B13.out)
 have FC3:Hid (∀ (i:Nat),i<6→w3.cell? ⟨nf,i,none⟩=some (.string (zt i))):=fun i hi=>by rw [hnf];exact zD (FC1.out i hi) B23.out
 have PC3:Hid (∀ (m:Nat),m<6→w3.cell? ⟨np,1+m,none⟩=some (.string (bs (fT E m)))):=fun i hi=>by rw [hnp];exact zD (PC.out i hi) HB3.out
 have KR3:Hid (w3.heap[w.heap.size]? =some (.cells zA 48 (0,0))):=(B13.out.block _ (by omega)).trans KR.out
 have KE3:Hid (EB w3 be (zak E 0) (.slice none 0 0) (.slice none 0 0) (.slice none 0 0)):=by show EB _ _ _ _ _ _;rw [hbe];exact KE.out
 have hs1:w.heap.size+1=nf:=by omega
 have hs2:nf+1=np:=by omega
 have hs3:np+1=be:=by omega
 have hs4:be+1=w3.heap.size:=by omega
 rw [←hnf,←hnp,←hbe]
 have HS1:Hid (w.heap.size<nf∧nf<np∧np<be∧be<w3.heap.size):=by show _∧_;omega
 clear HZ HZ1 HZ2 HZ3 e1 e2 e3 e4 HA KR HB1 HB2 HB3 B23 B13 FC1 PC KE hnf hnp hbe hs1 hs2 hs3 hs4 HDEF
 go_loopw [8,9,33] (fun _ _ i wr=> ∃ m:Nat,m≤6∧i= .int .i64 m∧Hid (Below w3.heap.size w3 wr)) (fun _ _ i _=>6 - (intOf i).toNat)
 case atStart=>exact ⟨0,Nat.zero_le _,rfl,Below.refl _ _⟩
 case round=>
  obtain ⟨m,hm,rfl,HB⟩:=hrel
  by_cases hlt:m<6
  ·have hc1:=zD (FC3.out m hlt) HB.out
   have hc2:=zD (PC3.out m hlt) HB.out
   have SM:=hid (SH.out m hlt wr (GR.out.tab.step (zB BW3.out HB.out)))
   generalize zt m=fb at hc1 SM
   generalize bs (fT E m)=tb at hc2 SM
   have hm6:(m:Int)<6:=by omega
   clear FC3 PC3 SH FI CK GK GR BW3 KR3 KE3 OF0
   go_wp2_with (go_at_call 80;refine Calls.mono SM.out ?_;rintro r w4 ⟨rfl,hb4⟩)
   go_roundw
   case rel=>exact ⟨m+1,by omega,by go_num,zB HB.out hb4⟩
   case measure=>simp [intOf];omega
  ·obtain ⟨m0,hm0⟩: ∃ x,x=m:=⟨m,rfl⟩
   subst hm0
   have hm6:(6:Int)≤(m0:Int):=by omega
   obtain ⟨w4,hw4⟩: ∃ x,x=wr:=⟨wr,rfl⟩
   subst hw4
   have FC4:Hid (∀ (i:Nat),i<6→w4.cell? ⟨nf,i,none⟩=some (.string (zt i))):=fun i hi=>zD (FC3.out i hi) HB.out
   have PC4:Hid (∀ (m:Nat),m<6→w4.cell? ⟨np,1+m,none⟩=some (.string (bs (fT E m)))):=fun i hi=>zD (PC3.out i hi) HB.out
   have KR4:Hid (w4.heap[w.heap.size]? =some (.cells zA 48 (0,0))):=(HB.out.block _ (by have:=HS1.out;omega)).trans KR3.out
   have KE4:=hid (KE3.out.step HB.out)
   have BW4:=hid (zB BW3.out HB.out)
   have HS4:Hid (w.heap.size<nf∧nf<np∧np<be∧be<w4.heap.size):=by
    obtain ⟨q1,q2,q3,q4⟩:=HS1.out
    exact ⟨q1,q2,q3,Nat.lt_of_lt_of_le q4 HB.out.size⟩
   have OF4:Hid (Off (fun n=>n=w.heap.size∨n=be) w4 (zak E 0) (.slice none 0 0) (.slice none 0 0) (.slice none 0 0)):=(OF0.out _).grown (B:=be) (.inr rfl) (zO HB.out _)
   clear FC3 PC3 KR3 KE3 BW3 HS1 OF0 SH HB hlt hm
   go_upto_region 14 with (fail)
   clear hm6
   go_loopw [10,11,12,50] (fun _ _ _ i wx=> ∃ m:Nat,m≤6∧i= .int .i64 m∧Hid (w4.grownBy wx (some be))∧Hid (∃ sl skv mvv,EB wx be (zak E m) sl skv mvv∧Off (fun n=>n=w.heap.size∨n=be) wx (zak E m) sl skv mvv)) (fun _ _ _ i _=>6 - (intOf i).toNat)
   case atStart=>exact ⟨0,Nat.zero_le _,rfl,zO (Below.refl _ _) _,_,_,_,KE4.out,OF4.out⟩
   case round=>
    obtain ⟨m,hm,rfl,HG,HEO⟩:=hrel
    obtain ⟨sl,skv,mvv,he,ho⟩:=HEO.out
    have HE:=hid he
    have HO:=hid ho
    clear HEO he ho
    have hs:=HS4.out
    have BWX:Hid (Below w.heap.size w wr):=BW4.out.grown HG.out BW4.out.size (fun k q=>by cases q;omega)
    by_cases hlt:m<6
    ·have hc1:wr.cell? ⟨nf,m,none⟩=_:=yG HG.out (FC4.out m hlt) (by omega)
     have hc2:wr.cell? ⟨np,1+m,none⟩=_:=yG HG.out (PC4.out m hlt) (by omega)
     have FM:Hid (Calls _ _ _ _ _):=FI.out m hlt be (fun n=>n=w.heap.size∨n=be) (.inr rfl) wr (fun n h=>by have:=HG.out.size;rcases h with h|h<;>omega) (GR.out.step BWX.out) sl skv mvv HE.out HO.out
     generalize zt m=fb at hc1 FM
     generalize bs (fT E m)=tb at hc2 FM
     have hm6:(m:Int)<6:=by omega
     clear FC4 PC4 FI CK GK GR BW4 KR4 KE4 OF4 BWX hs HS4
     go_wp2_with (go_at_call 81;refine Calls.mono FM.out ?_;rintro r w5 ⟨rfl,hg5,sl',skv',mvv',hE5,hO5⟩)
     go_roundw
     case rel=>exact ⟨m+1,by omega,by go_num,zL HG.out hg5,sl',skv',mvv',hE5,hO5⟩
     case measure=>simp [intOf];omega
    ·have hm6:m=6:=by omega
     subst hm6
     rw [zeV] at HE HO
     have LS:Ls wr E sl skv mvv:=⟨xk HO.out.d.ints h20,HO.out.s.ints,HO.out.m.movs⟩
     have C0:=CK.out sl skv mvv wr (GK.out.step BWX.out) LS
     have KR5:Hid (wr.heap[w.heap.size]? =some (.cells zA 48 (0,0))):=(HG.out.block _ (by omega) (fun q=>by have q':w.heap.size=be:=Option.some.inj q;omega)).trans KR4.out
     have hsz:=HG.out.size
     have hb1:w.heap.size<be:=by omega
     have hb2:be<wr.heap.size:=by omega
     clear FC4 PC4 FI CK GK GR BW4 KR4 KE4 OF4 HS4 hs hlt HG hsz
     obtain ⟨ra,rc,rfl,_⟩:=LS.d
     obtain ⟨sa,sc,rfl,_⟩:=LS.s
     obtain ⟨ma,mc,rfl,_⟩:=LS.m
     obtain ⟨idn',ti',st',lg',f',e',ds',c',u',sk',mv'⟩:=E
     unfold ev at C0
     dsimp only at*
     obtain ⟨x0,x1,x2,x3,x4,x5,x6,x7,x8,x9,x10⟩:=zK (show wr.heap[be]? =_ from HE.out)
     have HC0:=hid C0
     clear C0 LS
     go_upto_region 22 with (go_at_call 32;refine Calls.mono HC0.out ?_;rintro r w6 ⟨rfl,hb6⟩)
     have KE6:=HE.out.step hb6
     have KR6:Hid (w6.heap[w.heap.size]? =some (.cells zA 48 (0,0))):=(hb6.block _ (by omega)).trans KR5.out
     have BW6:=hid (zB BWX.out hb6)
     have OF6:Hid (Off (fun n=>n=w.heap.size∨n=be) w6 _ _ _ _):=HO.out.grown (B:=be) (.inr rfl) (zO hb6 _)
     clear x0 x1 x2 x3 x4 x5 x6 x7 x8 x9 x10 HC0 HE HO KR5 BWX
     obtain ⟨x0,x1,x2,x3,x4,x5,x6,x7,x8,x9,x10⟩:=zK (show w6.heap[be]? =_ from KE6)
     obtain ⟨t0,t1,t2,t3,t4,t5,t6,t7,t8,t9,t10⟩:=zK KR6.out
     obtain ⟨f0,f1,f2,f3,f4,f5,f6,f7,f8,f9,f10⟩:=frz KR6.out
     clear KE6 x0 x1 x2 x3 x4 x5 x6 x7 x8 x9 x10
     go_wp2
     rw [zX]
     have n10:=zk (.string ⟨#[]⟩) (.string ⟨#[]⟩) (.int .i64 0) (.int .i64 0) (.string ⟨#[]⟩) (.int .i64 0) (.slice none 0 0) (.int .i64 0) (.int .i64 0) (.slice none 0 0) (.slice none 0 0) KR6.out
     have g7:=zT w6 w.heap.size (.string ⟨#[]⟩) (.string ⟨#[]⟩) (.int .i64 0) (.int .i64 0) (.string ⟨#[]⟩) (.int .i64 0) (.slice none 0 0) (.int .i64 0) (.int .i64 0) (.slice none 0 0) (.slice none 0 0)
     clear t0 t1 t2 t3 t4 t5 t6 t7 t8 t9 t10 f0 f1 f2 f3 f4 f5 f6 f7 f8 f9 f10
     generalize yI w6 w.heap.size (.string ⟨#[]⟩) (.string ⟨#[]⟩) (.int .i64 0) (.int .i64 0) (.string ⟨#[]⟩) (.int .i64 0) (.slice none 0 0) (.int .i64 0) (.int .i64 0) (.slice none 0 0) (.slice none 0 0)=w7 at n10 g7 ⊢
     obtain ⟨c0,c1,c2,c3,c4,c5,c6,c7,c8,c9,c10⟩:=zK n10
     refine bodyPost_ret (v:= .tuple #[zV,.iface 269 (.pointer (some pk))]) (by simp [results,zV,Tryz.f47,go_sem,c0,c1,c2,c3,c4,c5,c6,c7,c8,c9,c10]) rfl ⟨rfl,BW6.out.grown g7 BW6.out.size (fun k q=>by cases q;omega)⟩
end Go.Proofs.YtpeafgddbbojaaaGreatDoor
