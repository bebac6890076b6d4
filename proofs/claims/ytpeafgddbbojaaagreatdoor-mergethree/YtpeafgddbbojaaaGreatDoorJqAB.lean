import Derived.Test.YtpeafgddbbojaaaGreatDoorJqAA
import Derived.Shelf.Abstract
import Derived.Shelf.RegionOpen
import Derived.WalkKit
import Derived.OwnWalkIn
import Derived.TacticsInMore
import Derived.LoopNIn
import Derived.LoopIn
import Derived.RangeFuncBox
import Derived.Deep.DeepCutAuto
import Derived.Deep.RegionWith
import Derived.Test.YtpeafgddbbojaaaGreatDoorMathJqs
import Derived.Lib.ItoaNum
import Derived.Lib.ItoaMem
import Derived.Shelf.LaysM
import Derived.Shelf.Strconv.Itoa3
import Derived.Test.YtpeafgddbbojaaaGreatDoorProg
namespace Go.Proofs.YtpeafgddbbojaaaGreatDoor
open Go Go.RowKit Cal
attribute [local go_sem] Oper.semAt_some
set_option maxHeartbeats 1000000 in
theorem zbC(g:Nat)(lb:Array Value)(p:Int→Bool)(xs:List Int)(sl:Value)(w:World)(hd:Ints w sl xs)(eg: ∀ args W,(callFunc g args).run Tryz.prog W= .ok (.enter g args) W)
  (hp: ∀ (x:Int) (W:World),Below w.heap.size w W→Calls Tryz.prog g (#[.int .i64 x]++lb) W fun r w'=>r= .returned (.bool (p x))∧Below W.heap.size W w'):
  Calls Tryz.prog 142 #[sl,.func (.func g) #[] lb] w fun r w'=> ∃ k:Int,r= .returned (.int .i64 k)∧(0≤k↔ ∃ x∈xs,p x=true)∧Below w.heap.size w w':=by
 obtain ⟨a,cap,rfl,h20,hcap,hc⟩:=hd
 have HC:Hid (_):=hc
 have HP:Hid (_):=hp
 clear hc hp
 go_enter Tryz.func142,Tryz.ntmps142
 go_wp2
 go_loopw [5,8] (fun _ i wr=> ∃ m:Nat,m≤xs.length∧i= .int .i64 m∧Hid (Below w.heap.size w wr)∧Hid (∀ (j:Nat) (h:j<xs.length),j<m→p xs[j]=false)) (fun _ i _=>xs.length - (intOf i).toNat)
 case atStart=>exact ⟨0,Nat.zero_le _,rfl,Below.refl _ _,fun j _ h=>absurd h (Nat.not_lt_zero _)⟩
 case round=>
  obtain ⟨m,hm,rfl,hB,HA⟩:=hrel
  by_cases hlt:m<xs.length
  ·obtain ⟨blk,rfl,hblk,hcell⟩:=HC.out m hlt
   have hcell2:=zD hcell hB.out
   have hx:=HP.out xs[m] wr hB.out
   have HN:Hid (p xs[m]=false→ ∀ (j:Nat) (h:j<xs.length),j<m+1→p xs[j]=false):=fun q j hj hjk=>by
    by_cases ej:j=m
    ·subst ej;exact q
    ·exact HA.out j hj (by omega)
   have HT:Hid (p xs[m]=true→ ∃ x∈xs,p x=true):=fun q=>⟨_,List.getElem_mem hlt,q⟩
   clear HA HC HP hcell
   generalize xs[m]=x at hcell2 hx HN HT
   have HX:Hid (_):=hx
   clear hx
   cases hpx:p x with
   |true=>
    have HT':Hid (_):=HT.out hpx
    have HX':=HX.out
    rw [hpx] at HX'
    have HX2:Hid (_):=HX'
    clear HT HN HX HX'
    go_wp2_with (go_at_fn g;refine Calls.mono HX2.out ?_;rintro r w1 ⟨rfl,hb1⟩)
    go_ret
    exact ⟨_,rfl,⟨fun _=>HT'.out,fun _=>by omega⟩,zB hB.out hb1⟩
   |false=>
    have HN':Hid (_):=HN.out hpx
    have HX':=HX.out
    rw [hpx] at HX'
    have HX2:Hid (_):=HX'
    clear HT HN HX HX'
    go_wp2_with (go_at_fn g;refine Calls.mono HX2.out ?_;rintro r w1 ⟨rfl,hb1⟩)
    go_roundw
    case rel=>exact ⟨m+1,by omega,by go_num,zB hB.out hb1,HN'.out⟩
    case measure=>simp [intOf];omega
  ·have HR:Hid (¬ ∃ x∈xs,p x=true):=fun ⟨x,hx,q⟩=>by
    obtain ⟨j,hj,rfl⟩:=List.mem_iff_getElem.1 hx
    have:=HA.out j hj (by omega)
    rw [this] at q;exact absurd q (by decide)
   clear HA HC HP
   go_wp2
   go_ret
   exact ⟨_,rfl,⟨fun q=>by omega,fun q=>absurd q HR.out⟩,hB.out⟩
def mo(x:Int×Int):Value:= .agg #[.int .i64 x.1,.int .i64 x.2]
set_option maxHeartbeats 1000000 in
theorem zbD(g:Nat)(lb:Array Value)(p:Int×Int→Bool)(xs:List (Int×Int))(sl:Value)(w:World)(hd:Movs w sl xs)(eg: ∀ args W,(callFunc g args).run Tryz.prog W= .ok (.enter g args) W)
  (hp: ∀ (x:Int×Int) (W:World),Below w.heap.size w W→Calls Tryz.prog g (#[mo x]++lb) W fun r w'=>r= .returned (.bool (p x))∧Below W.heap.size W w'):
  Calls Tryz.prog 143 #[sl,.func (.func g) #[] lb] w fun r w'=> ∃ k:Int,r= .returned (.int .i64 k)∧(0≤k↔ ∃ x∈xs,p x=true)∧Below w.heap.size w w':=by
 obtain ⟨a,cap,rfl,h20,hcap,hc⟩:=hd
 have HC:Hid (_):=hc
 have HP:Hid (_):=hp
 clear hc hp
 go_enter Tryz.func143,Tryz.ntmps143
 go_wp2
 go_loopw [5,8] (fun _ i wr=> ∃ m:Nat,m≤xs.length∧i= .int .i64 m∧Hid (Below w.heap.size w wr)∧Hid (∀ (j:Nat) (h:j<xs.length),j<m→p xs[j]=false)) (fun _ i _=>xs.length - (intOf i).toNat)
 case atStart=>exact ⟨0,Nat.zero_le _,rfl,Below.refl _ _,fun j _ h=>absurd h (Nat.not_lt_zero _)⟩
 case round=>
  obtain ⟨m,hm,rfl,hB,HA⟩:=hrel
  by_cases hlt:m<xs.length
  ·obtain ⟨blk,rfl,hblk,hcell,hcell'⟩:=HC.out m hlt
   have hc1:=zD hcell hB.out
   have hc2:=zD hcell' hB.out
   have hx:=HP.out xs[m] wr hB.out
   have HN:Hid (p xs[m]=false→ ∀ (j:Nat) (h:j<xs.length),j<m+1→p xs[j]=false):=fun q j hj hjk=>by
    by_cases ej:j=m
    ·subst ej;exact q
    ·exact HA.out j hj (by omega)
   have HT:Hid (p xs[m]=true→ ∃ x∈xs,p x=true):=fun q=>⟨_,List.getElem_mem hlt,q⟩
   clear HA HC HP hcell hcell'
   generalize xs[m]=x at hc1 hc2 hx HN HT
   obtain ⟨x1,x2⟩:=x
   unfold mo at hx
   dsimp only at hc1 hc2 hx
   have HX:Hid (_):=hx
   clear hx
   cases hpx:p (x1,x2) with
   |true=>
    have HT':Hid (_):=HT.out hpx
    have HX':=HX.out
    rw [hpx] at HX'
    have HX2:Hid (_):=HX'
    clear HT HN HX HX'
    go_wp2_with (go_at_fn g;refine Calls.mono HX2.out ?_;rintro r w1 ⟨rfl,hb1⟩)
    go_ret
    exact ⟨_,rfl,⟨fun _=>HT'.out,fun _=>by omega⟩,zB hB.out hb1⟩
   |false=>
    have HN':Hid (_):=HN.out hpx
    have HX':=HX.out
    rw [hpx] at HX'
    have HX2:Hid (_):=HX'
    clear HT HN HX HX'
    go_wp2_with (go_at_fn g;refine Calls.mono HX2.out ?_;rintro r w1 ⟨rfl,hb1⟩)
    go_roundw
    case rel=>exact ⟨m+1,by omega,by go_num,zB hB.out hb1,HN'.out⟩
    case measure=>simp [intOf];omega
  ·have HR:Hid (¬ ∃ x∈xs,p x=true):=fun ⟨x,hx,q⟩=>by
    obtain ⟨j,hj,rfl⟩:=List.mem_iff_getElem.1 hx
    have:=HA.out j hj (by omega)
    rw [this] at q;exact absurd q (by decide)
   clear HA HC HP
   go_wp2
   go_ret
   exact ⟨_,rfl,⟨fun q=>by omega,fun q=>absurd q HR.out⟩,hB.out⟩
theorem zan(g:Nat)(lb:Array Value)(p:Int→Bool)(xs:List Int)(sl:Value)(w:World)(hd:Ints w sl xs)(eg: ∀ args W,(callFunc g args).run Tryz.prog W= .ok (.enter g args) W)
  (hp: ∀ (x:Int) (W:World),Below w.heap.size w W→Calls Tryz.prog g (#[.int .i64 x]++lb) W fun r w'=>r= .returned (.bool (p x))∧Below W.heap.size W w') (b:Bool) (hb:b=true↔ ∃ x∈xs,p x=true):
  Calls Tryz.prog 97 #[sl,.func (.func g) #[] lb] w fun r w'=>r= .returned (.bool b)∧Below w.heap.size w w':=by
 have C:Hid (_):=zbC g lb p xs sl w hd eg hp
 have HB:Hid (_):=hb
 obtain ⟨a,cap,rfl,_⟩:=hd
 clear hp eg hb
 go_enter Tryz.func97,Tryz.ntmps97
 go_wp2_with (go_at_call 142;refine Calls.mono C.out ?_;rintro r w1 ⟨k,rfl,hk,hb1⟩;have HK:Hid (_):=hk;clear hk)
 all_goals
  go_ret
  refine ⟨zg ?_,hb1⟩
  rw [Bool.eq_iff_iff,HB.out,←HK.out]
  simp
  try omega
theorem xp(g:Nat)(lb:Array Value)(p:Int×Int→Bool)(xs:List (Int×Int))(sl:Value)(w:World)(hd:Movs w sl xs)(eg: ∀ args W,(callFunc g args).run Tryz.prog W= .ok (.enter g args) W)
  (hp: ∀ (x:Int×Int) (W:World),Below w.heap.size w W→Calls Tryz.prog g (#[mo x]++lb) W fun r w'=>r= .returned (.bool (p x))∧Below W.heap.size W w') (b:Bool) (hb:b=true↔ ∃ x∈xs,p x=true):
  Calls Tryz.prog 99 #[sl,.func (.func g) #[] lb] w fun r w'=>r= .returned (.bool b)∧Below w.heap.size w w':=by
 have C:Hid (_):=zbD g lb p xs sl w hd eg hp
 have HB:Hid (_):=hb
 obtain ⟨a,cap,rfl,_⟩:=hd
 clear hp eg hb
 go_enter Tryz.func99,Tryz.ntmps99
 go_wp2_with (go_at_call 143;refine Calls.mono C.out ?_;rintro r w1 ⟨k,rfl,hk,hb1⟩;have HK:Hid (_):=hk;clear hk)
 all_goals
  go_ret
  refine ⟨zg ?_,hb1⟩
  rw [Bool.eq_iff_iff,HB.out,←HK.out]
  simp
  try omega
set_option maxHeartbeats 1000000 in
theorem zfV(x:Int)(xs:List Int)(sl:Value)(w:World)(hd:Ints w sl xs):
  Calls Tryz.prog 144 #[sl,.int .i64 x] w fun r w'=> ∃ k:Int,r= .returned (.int .i64 k)∧(0≤k↔x∈xs)∧Below w.heap.size w w':=by
 obtain ⟨a,cap,rfl,h20,hcap,hc⟩:=hd
 have HC:Hid (_):=hc
 clear hc
 go_enter Tryz.func144,Tryz.ntmps144
 go_wp2
 go_loop [5,8] (fun _ i=> ∃ m:Nat,m≤xs.length∧i= .int .i64 m∧Hid (∀ (j:Nat) (h:j<xs.length),j<m→xs[j]≠x)) (fun _ i=>xs.length - (intOf i).toNat)
 case atStart=>exact ⟨0,Nat.zero_le _,rfl,fun j _ h=>absurd h (Nat.not_lt_zero _)⟩
 case round=>
  obtain ⟨m,hm,rfl,HA⟩:=hrel
  by_cases hlt:m<xs.length
  ·obtain ⟨blk,rfl,hblk,hcell⟩:=HC.out m hlt
   have HN:Hid (xs[m]≠x→ ∀ (j:Nat) (h:j<xs.length),j<m+1→xs[j]≠x):=fun q j hj hjk=>by
    by_cases ej:j=m
    ·subst ej;exact q
    ·exact HA.out j hj (by omega)
   have HT:Hid (xs[m]=x→x∈xs):=fun q=>by rw [←q];exact List.getElem_mem hlt
   clear HA HC
   generalize xs[m]=y at hcell HN HT
   by_cases hpx:y=x
   ·have HT':Hid (_):=HT.out hpx
    have e1:(x==y)=true:=by rw [beq_iff_eq];exact hpx.symm
    clear HT HN hpx
    go_wp2
    go_ret
    exact ⟨_,rfl,⟨fun _=>HT'.out,fun _=>by omega⟩,Below.refl _ _⟩
   ·have HN':Hid (_):=HN.out hpx
    have e1:(x==y)=false:=by rw [beq_eq_false_iff_ne];exact fun q=>hpx q.symm
    clear HT HN hpx
    go_wp2
    go_round
    case rel=>exact ⟨m+1,by omega,by go_num,HN'.out⟩
    case measure=>simp [intOf];omega
  ·have HR:Hid (x∉xs):=fun hx=>by
    obtain ⟨j,hj,e⟩:=List.mem_iff_getElem.1 hx
    exact HA.out j hj (by omega) e
   clear HA HC
   go_wp2
   go_ret
   exact ⟨_,rfl,⟨fun q=>by omega,fun q=>absurd q HR.out⟩,Below.refl _ _⟩
theorem xD(x:Int)(xs:List Int)(sl:Value)(w:World)(hd:Ints w sl xs)(b:Bool)(hb:b=true↔x∈xs):
  Calls Tryz.prog 102 #[sl,.int .i64 x] w fun r w'=>r= .returned (.bool b)∧Below w.heap.size w w':=by
 have C:Hid (_):=zfV x xs sl w hd
 have HB:Hid (_):=hb
 obtain ⟨a,cap,rfl,_⟩:=hd
 clear hb
 go_enter Tryz.func102,Tryz.ntmps102
 go_wp2_with (go_at_call 144;refine Calls.mono C.out ?_;rintro r w1 ⟨k,rfl,hk,hb1⟩;have HK:Hid (_):=hk;clear hk)
 all_goals
  go_ret
  refine ⟨zg ?_,hb1⟩
  rw [Bool.eq_iff_iff,HB.out,←HK.out]
  simp
  try omega
def yQ(x:Int):Bool:=decide (¬ (0≤x∧x≤73048))
theorem zko(x:Int)(w:World):Calls Tryz.prog 98 #[.int .i64 x] w fun r w'=>r= .returned (.bool (yQ x))∧Below w.heap.size w w':=by
 have D:Hid (∀ W,_):=fun W=>zao x W (!(yQ x)) (by unfold yQ;simp)
 cases h:yQ x
 all_goals
  rw [h] at D
  go_enter Tryz.func98,Tryz.ntmps98
  go_wp2_with (go_at_call 60;refine (D.out _).mono ?_;rintro r w1 ⟨rfl,rfl⟩)
  go_ret
  exact ⟨rfl,Below.refl _ _⟩
theorem zkp(x:Int×Int)(w:World):Calls Tryz.prog 100 #[mo x] w fun r w'=>r= .returned (.bool (yQ x.1||yQ x.2))∧Below w.heap.size w w':=by
 obtain ⟨x1,x2⟩:=x
 unfold mo
 dsimp only
 have D:Hid (∀ n W,Calls Tryz.prog 60 #[.int .i64 n] W fun r w'=>r= .returned (.bool (!(yQ n)))∧w'=W):=fun n W=>zao n W (!(yQ n)) (by unfold yQ;simp)
 cases h:yQ x1
 case true=>
  go_enter Tryz.func100,Tryz.ntmps100
  go_wp2_with (go_at_call 60;refine (D.out _ _).mono ?_;rintro r w1 ⟨rfl,rfl⟩)
  go_ret
  exact ⟨rfl,zC _ _⟩
 case false=>
  cases h2:yQ x2
  all_goals
   go_enter Tryz.func100,Tryz.ntmps100
   go_wp2_with (go_at_call 60;refine (D.out _ _).mono ?_;rintro r w1 ⟨rfl,rfl⟩)
   go_ret
   exact ⟨rfl,zC _ _⟩
theorem zkq(x:Int×Int)(B:Nat)(sk:List Int)(sl:Value)(w:World)(hB:Boxed w B 43 sl)(hd:Ints w sl sk):Calls Tryz.prog 101 #[mo x,.pointer (some ⟨B,0,none⟩)] w fun r w'=>r= .returned (.bool (decide (x.1∈sk)))∧Below w.heap.size w w':=by
 obtain ⟨x1,x2⟩:=x
 unfold mo
 dsimp only
 have hA:=zC w (.cells #[.int .i64 x1,.int .i64 x2] 114)
 have C:Hid (_):=xD x1 sk sl _ (hd.step hA) (decide (x1∈sk)) (by simp)
 obtain ⟨a,cap,rfl,_⟩:=hd
 have c1:=(Boxed.alloc hB (.cells #[.int .i64 x1,.int .i64 x2] 114)).cell
 have HA:Hid (_):=hA
 clear hA hB
 generalize decide (x1∈sk)=b at C ⊢
 go_enter Tryz.func101,Tryz.ntmps101
 go_wp2_with (go_at_call 102;refine Calls.mono C.out ?_;rintro r w1 ⟨rfl,hb1⟩)
 go_ret
 exact ⟨rfl,zB HA.out hb1⟩
end Go.Proofs.YtpeafgddbbojaaaGreatDoor
namespace Go.Proofs.YtpeafgddbbojaaaGreatDoor
open Go Go.RowKit Go.Shelf Cal
attribute [local go_sem] Oper.semAt_some
structure Steps(keep:Nat→Prop)(W W':World):Prop where
 os:W'.os=W.os
 tape:W'.tape=W.tape
 output:W'.output=W.output
 size:W.heap.size≤W'.heap.size
 block: ∀ k,keep k→k<W.heap.size→W'.heap[k]? =W.heap[k]?
theorem Steps.refl(p:Nat→Prop)(W:World):Steps p W W:=⟨rfl,rfl,rfl,Nat.le_refl _,fun _ _ _=>rfl⟩
theorem Steps.trans{p:Nat→Prop}{A B C:World}(h:Steps p A B)(k:Steps p B C):Steps p A C:=
 ⟨k.os.trans h.os,k.tape.trans h.tape,k.output.trans h.output,Nat.le_trans h.size k.size,fun i hp hi=>(k.block i hp (Nat.lt_of_lt_of_le hi h.size)).trans (h.block i hp hi)⟩
theorem Steps.mono{p q:Nat→Prop}{A B:World}(h:Steps p A B)(hq: ∀ k,q k→p k):Steps q A B:=⟨h.os,h.tape,h.output,h.size,fun k hk hl=>h.block k (hq k hk) hl⟩
theorem Steps.below{n:Nat}{A B:World}(h:Below n A B):Steps (fun k=>k<n) A B:=⟨h.os,h.tape,h.output,h.size,fun k hk _=>h.block k hk⟩
theorem Steps.of_below{p:Nat→Prop}{A B:World}(h:Below A.heap.size A B):Steps p A B:=⟨h.os,h.tape,h.output,h.size,fun k _ hl=>h.block k hl⟩
theorem Steps.alloc(p:Nat→Prop)(W:World)(o:Obj):Steps p W (W.alloc o):=Steps.of_below (zC W o)
theorem Steps.set{p:Nat→Prop}(W:World)(a:Addr)(v:Value)(h: ¬ p a.block):Steps p W (W.setCell a v):=
 ⟨rfl,rfl,rfl,by rw [vt];exact Nat.le_refl _,fun k hk _=>Below.heap_setCell _ _ _ k (fun e=>h (e▸hk))⟩
theorem Steps.put{p:Nat→Prop}(W:World)(l:Nat)(o:Obj)(h: ¬ p l):Steps p W (W.putObj l o):=
 ⟨rfl,rfl,rfl,by rw [World.putObj_size];exact Nat.le_refl _,fun k hk _=>World.putObj_heap_other (fun e=>h (e▸hk))⟩
theorem Steps.box{p:Nat→Prop}{A B:World}(h:Steps p A B){b:Nat}{t:TypeId}{v:Value}(hb:Boxed A b t v)(hp:p b):Boxed B b t v:=
 (h.block b hp (Array.getElem?_eq_some_iff.1 hb).1).trans hb
end Go.Proofs.YtpeafgddbbojaaaGreatDoor
namespace Go.Proofs.YtpeafgddbbojaaaGreatDoor.Cal
theorem zhj{ds:List Int}{q:Nat}(h:q<ds.length):ds.getD q 0=ds[q]:=by simp [List.getD,List.getElem?_eq_getElem h]
end Go.Proofs.YtpeafgddbbojaaaGreatDoor.Cal
namespace Go.Proofs.YtpeafgddbbojaaaGreatDoor
open Go Go.RowKit Go.Shelf Cal
attribute [local go_sem] Oper.semAt_some
def Cls(w:World)(a:Option Addr)(ds:List Int):Prop:= ∀ (j:Nat) (h:j<ds.length),∃ b:Nat,a=some ⟨b,0,none⟩∧b<w.heap.size∧w.cell? ⟨b,j,none⟩=some (.int .i64 ds[j])
theorem Cls.step{w w':World}{a:Option Addr}{ds:List Int}(h:Cls w a ds)(hb:Below w.heap.size w w'):Cls w' a ds:=fun j hj=>by
 obtain ⟨b,e,hl,hc⟩:=h j hj
 exact ⟨b,e,Nat.lt_of_lt_of_le hl hb.size,zD hc hb⟩
end Go.Proofs.YtpeafgddbbojaaaGreatDoor
namespace Go.Proofs.YtpeafgddbbojaaaGreatDoor
open Go Go.RowKit Cal
end Go.Proofs.YtpeafgddbbojaaaGreatDoor
namespace Go.Proofs.YtpeafgddbbojaaaGreatDoor
open Go Go.RowKit Go.Shelf Cal
end Go.Proofs.YtpeafgddbbojaaaGreatDoor
namespace Go.Proofs.YtpeafgddbbojaaaGreatDoor
open Go.RowKit Cal
structure GlobK(s:Nat→Addr)(w:World):Prop where
 c0:w.cell? ⟨3,0,none⟩=some (.iface 269 (.pointer (some (s 0))))
 c1:w.cell? ⟨4,0,none⟩=some (.iface 269 (.pointer (some (s 1))))
 c2:w.cell? ⟨0,0,none⟩=some (.iface 269 (.pointer (some (s 2))))
 c3:w.cell? ⟨2,0,none⟩=some (.iface 269 (.pointer (some (s 3))))
 c5:w.cell? ⟨6,0,none⟩=some (.iface 269 (.pointer (some (s 5))))
 c6:w.cell? ⟨1,0,none⟩=some (.iface 269 (.pointer (some (s 6))))
 c7:w.cell? ⟨5,0,none⟩=some (.iface 269 (.pointer (some (s 7))))
theorem GlobK.step{s:Nat→Addr}{w w':World}(g:GlobK s w)(hb:Below w.heap.size w w'):GlobK s w':=
 ⟨zD g.c0 hb,zD g.c1 hb,zD g.c2 hb,zD g.c3 hb,zD g.c5 hb,zD g.c6 hb,zD g.c7 hb⟩
def zbX(f:ByteArray)(e:Int)(ds:List Int)(c u k:Int):Prop:=
 (isF f=false∧k=4)∨(isF f=true∧ ¬ (bN e c u=true∧bD ds)∧k=2)∨(isF f=true∧(bN e c u=true∧bD ds)∧ ¬ shp (f.toList==[111,110,99,101]) (f.toList==[119,101,101,107,108,121]) e c u ds.length∧k=3)∨
  (isF f=true∧(bN e c u=true∧bD ds)∧shp (f.toList==[111,110,99,101]) (f.toList==[119,101,101,107,108,121]) e c u ds.length∧ ¬ zgC ds∧k=8)∨(Well (rd f e ds c u)∧k=0)
theorem jP(f:ByteArray)(e:Int)(ds:List Int)(c u:Int): ∃ k,zbX f e ds c u k:=by
 cases h1:isF f with
 |false=>exact ⟨4,.inl ⟨h1,rfl⟩⟩
 |true=>
  by_cases h2:bN e c u=true∧bD ds
  ·by_cases h3:shp (f.toList==[111,110,99,101]) (f.toList==[119,101,101,107,108,121]) e c u ds.length
   ·by_cases h4:zgC ds
    ·exact ⟨0,.inr (.inr (.inr (.inr ⟨zbg h1 h2.1 h2.2 h3 h4,rfl⟩)))⟩
    ·exact ⟨8,.inr (.inr (.inr (.inl ⟨h1,h2,h3,h4,rfl⟩)))⟩
   ·exact ⟨3,.inr (.inr (.inl ⟨h1,h2,h3,rfl⟩))⟩
  ·exact ⟨2,.inr (.inl ⟨h1,h2,rfl⟩)⟩
theorem zfg{f:ByteArray}{e:Int}{ds:List Int}{c u k:Int}(h:zbX f e ds c u k)(h1:isF f=false):k=4:=by
 rcases h with h|h|h|h|h
 ·exact h.2
 ·rw [h1] at h;exact absurd h.1 (by decide)
 ·rw [h1] at h;exact absurd h.1 (by decide)
 ·rw [h1] at h;exact absurd h.1 (by decide)
 ·have:=(jO h.1).1;rw [h1] at this;exact absurd this (by decide)
theorem zds{f:ByteArray}{e:Int}{ds:List Int}{c u k:Int}(h:zbX f e ds c u k)(h1:isF f=true)(h2: ¬ (bN e c u=true∧bD ds)):k=2:=by
 rcases h with h|h|h|h|h
 ·rw [h1] at h;exact absurd h.1 (by decide)
 ·exact h.2.2
 ·exact absurd h.2.1 h2
 ·exact absurd h.2.1 h2
 ·have:=jO h.1;exact absurd ⟨this.2.1,this.2.2.1⟩ h2
theorem zfh{f:ByteArray}{e:Int}{ds:List Int}{c u k:Int}(h:zbX f e ds c u k)(h1:isF f=true)(h2:bN e c u=true∧bD ds)(h3: ¬ shp (f.toList==[111,110,99,101]) (f.toList==[119,101,101,107,108,121]) e c u ds.length):k=3:=by
 rcases h with h|h|h|h|h
 ·rw [h1] at h;exact absurd h.1 (by decide)
 ·exact absurd h2 h.2.1
 ·exact h.2.2.2
 ·exact absurd h.2.2.1 h3
 ·have:=jO h.1;exact absurd this.2.2.2.1 h3
theorem zfi{f:ByteArray}{e:Int}{ds:List Int}{c u k:Int}(h:zbX f e ds c u k)(h1:isF f=true)(h2:bN e c u=true∧bD ds)(h3:shp (f.toList==[111,110,99,101]) (f.toList==[119,101,101,107,108,121]) e c u ds.length)(h4: ¬ zgC ds):k=8:=by
 rcases h with h|h|h|h|h
 ·rw [h1] at h;exact absurd h.1 (by decide)
 ·exact absurd h2 h.2.1
 ·exact absurd h3 h.2.2.1
 ·exact h.2.2.2.2
 ·have:=jO h.1;exact absurd this.2.2.2.2 h4
theorem jq{f:ByteArray}{e:Int}{ds:List Int}{c u k:Int}(h:zbX f e ds c u k):k=0↔Well (rd f e ds c u):=by
 constructor
 ·intro hk
  rcases h with h|h|h|h|h
  ·omega
  ·omega
  ·omega
  ·omega
  ·exact h.1
 ·intro hw
  obtain ⟨w1,w2,w3,w4,w5⟩:=jO hw
  rcases h with h|h|h|h|h
  ·rw [w1] at h;exact absurd h.1 (by decide)
  ·exact absurd ⟨w2,w3⟩ h.2.1
  ·exact absurd w4 h.2.2.1
  ·exact absurd w5 h.2.2.2.1
  ·exact h.2
theorem zhf{f:ByteArray}{e:Int}{ds:List Int}{c u k:Int}(h:zbX f e ds c u k):k=0∨k=2∨k=3∨k=4∨k=8:=by
 rcases h with h|h|h|h|h
 ·exact .inr (.inr (.inr (.inl h.2)))
 ·exact .inr (.inl h.2.2)
 ·exact .inr (.inr (.inl h.2.2.2))
 ·exact .inr (.inr (.inr (.inr h.2.2.2.2)))
 ·exact .inl h.2
def jY(s:Nat→Addr)(k:Int):Value:=if k=0 then .nilIface else .iface 269 (.pointer (some (s (k - 1).toNat)))
theorem xB{s:Nat→Addr}{k m:Int}{n:Nat}(h:k=m)(hm:m≠0∧(m - 1).toNat=n):jY s k= .iface 269 (.pointer (some (s n))):=by
 unfold jY
 rw [h,if_neg hm.1,hm.2]
set_option maxHeartbeats 400000 in
theorem zkz(f:ByteArray)(e:Int)(sl:Value)(c u:Int)(ds:List Int)(k:Int)(s:Nat→Addr)(w:World)(g:GlobK s w)(hd:Days w sl ds)(hk:zbX f e ds c u k)(hw: ¬ Well (rd f e ds c u)):
  Calls Tryz.prog 61 #[rv f e sl c u] w fun r w'=>r= .returned (jY s k)∧Below w.heap.size w w':=by
 have hd':=hd
 obtain ⟨a,cap,rfl,h20,hcap,hc⟩:=hd'
 have D:=hid hd
 have c1:=fun w=>zap f w
 have HW:=hid hw
 have q1:=g.c3
 have q2:=g.c1
 have q3:=g.c2
 have q4:=g.c7
 have HK:=hid hk
 clear hc hd hw hk g
 unfold rv
 cases h1:isF f with
 |false=>
  rw [h1] at c1
  have C1:Hid (_):=c1
  have EV:Hid (jY s k= .iface 269 (.pointer (some (s 3)))):=xB (zfg HK.out h1) (by decide)
  have r1:=yL (.cells #[.string f,.int .i64 e,.slice a ds.length cap,.int .i64 c,.int .i64 u] 45) q1
  clear c1 q2 q3 q4 HK
  go_enter Tryz.func61,Tryz.ntmps61
  go_wp2_with (go_at_call 91;refine (C1.out _).mono ?_;rintro r w' ⟨rfl,rfl⟩)
  go_ret
  exact ⟨(by rw [EV.out];rfl),zC _ _⟩
 |true=>
 rw [h1] at c1
 have C1:Hid (_):=c1
 clear c1
 by_cases h2:bN e c u=true∧bD ds
 ·by_cases h4:shp (f.toList==[111,110,99,101]) (f.toList==[119,101,101,107,108,121]) e c u ds.length
  ·have h5: ¬ zgC ds:=fun h5=>HW.out (zbg h1 h2.1 h2.2 h4 h5)
   have C2:=hid h2
   have C3:=hid h4
   have C4:=hid h5
   have EV:Hid (jY s k= .iface 269 (.pointer (some (s 7)))):=xB (zfi HK.out h1 h2 h4 h5) (by decide)
   have r4:=yL (.cells #[.string f,.int .i64 e,.slice a ds.length cap,.int .i64 c,.int .i64 u] 45) q4
   clear h1 h2 h4 h5 HW HK q1 q2 q3
   go_enter Tryz.func61,Tryz.ntmps61
   go_wp2_with (first
    |(go_at_call 91;refine (C1.out _).mono ?_;rintro r w' ⟨rfl,rfl⟩)
    |(go_at_call 92;refine (xZ f e _ c u ds _ (D.out.step (zC _ _)) true ⟨fun _=>C2.out,fun _=>rfl⟩).mono ?_;rintro r w1 ⟨rfl,hb1⟩;obtain ⟨x0,x1,x2,x3,x4⟩:=zjU hb1)
    |(go_at_call 93;refine (vZ f e a ds.length cap c u _ h20 _ _ rfl rfl true ⟨fun _=>C3.out,fun _=>rfl⟩).mono ?_;rintro r w2 ⟨rfl,hb2⟩;have y2:=zD x2 hb2)
    |(go_at_call 94;refine (zdz ds _ _ (D.out.step (zB (zC _ _) (zB hb1 hb2))) false ⟨fun h=>absurd h (by decide),fun h=>absurd h C4.out⟩).mono ?_;rintro r w3 ⟨rfl,hb3⟩;have z4:=zD (zD (zD r4 hb1) hb2) hb3))
   go_ret
   exact ⟨(by rw [EV.out];rfl),zB (zC _ _) (zB hb1 (zB hb2 hb3))⟩
  ·have C2:=hid h2
   have C3:=hid h4
   have EV:Hid (jY s k= .iface 269 (.pointer (some (s 2)))):=xB (zfh HK.out h1 h2 h4) (by decide)
   have r3:=yL (.cells #[.string f,.int .i64 e,.slice a ds.length cap,.int .i64 c,.int .i64 u] 45) q3
   clear h1 h2 h4 HW HK q1 q2 q4
   go_enter Tryz.func61,Tryz.ntmps61
   go_wp2_with (first
    |(go_at_call 91;refine (C1.out _).mono ?_;rintro r w' ⟨rfl,rfl⟩)
    |(go_at_call 92;refine (xZ f e _ c u ds _ (D.out.step (zC _ _)) true ⟨fun _=>C2.out,fun _=>rfl⟩).mono ?_;rintro r w1 ⟨rfl,hb1⟩;obtain ⟨x0,x1,x2,x3,x4⟩:=zjU hb1)
    |(go_at_call 93;refine (vZ f e a ds.length cap c u _ h20 _ _ rfl rfl false ⟨fun h=>absurd h (by decide),fun h=>absurd h C3.out⟩).mono ?_;rintro r w2 ⟨rfl,hb2⟩;have z3:=zD (zD r3 hb1) hb2))
   go_ret
   exact ⟨(by rw [EV.out];rfl),zB (zC _ _) (zB hb1 hb2)⟩
 ·have C2:=hid h2
  have EV:Hid (jY s k= .iface 269 (.pointer (some (s 1)))):=xB (zds HK.out h1 h2) (by decide)
  have r2:=yL (.cells #[.string f,.int .i64 e,.slice a ds.length cap,.int .i64 c,.int .i64 u] 45) q2
  clear h1 h2 HW HK q1 q3 q4
  go_enter Tryz.func61,Tryz.ntmps61
  go_wp2_with (first
   |(go_at_call 91;refine (C1.out _).mono ?_;rintro r w' ⟨rfl,rfl⟩)
   |(go_at_call 92;refine (xZ f e _ c u ds _ (D.out.step (zC _ _)) false ⟨fun h=>absurd h (by decide),fun h=>absurd h C2.out⟩).mono ?_;rintro r w1 ⟨rfl,hb1⟩;have z2:=zD r2 hb1))
  go_ret
  exact ⟨(by rw [EV.out];rfl),zB (zC _ _) hb1⟩
theorem zdt(s:Nat→Addr):jY s 0= .nilIface:=by unfold jY;rw [if_pos rfl]
theorem zi3(f:ByteArray)(e:Int)(sl:Value)(c u:Int)(ds:List Int)(k:Int)(s:Nat→Addr)(w:World)(g:GlobK s w)(hd:Days w sl ds)(hk:zbX f e ds c u k):
  Calls Tryz.prog 61 #[rv f e sl c u] w fun r w'=>r= .returned (jY s k)∧Below w.heap.size w w':=by
 by_cases hw:Well (rd f e ds c u)
 ·rw [(jq hk).2 hw,zdt]
  exact zaX f e sl c u ds w hd hw
 ·exact zkz f e sl c u ds k s w g hd hk hw
end Go.Proofs.YtpeafgddbbojaaaGreatDoor
namespace Go.Proofs.YtpeafgddbbojaaaGreatDoor
open Go Go.RowKit Cal
attribute [local go_sem] Oper.semAt_some
theorem xh{base:Nat}{W:World}{sl:Value}{ds:List Int}(h:Ow base W sl ds)(hl:ds.length≤80000):Ints W sl ds:=by
 rcases h.2 with ⟨rfl,h0⟩|⟨g,cap,cur,rfl,hb,hg,hcap,hmax,hsz,htake⟩
 ·rw [List.length_eq_zero_iff.1 h0];exact Ints.nil W 0
 ·refine ⟨_,cap,rfl,hl,hcap,fun j hj=>⟨g,rfl,(Array.getElem?_eq_some_iff.1 hg).1,?_⟩⟩
  have:=World.ownsRow.cellAt h j (by omega)
  rw [this,List.getElem?_map,List.getElem?_eq_getElem hj];rfl
theorem zaU(w:World)(d:Int): ∀ (j:Nat) (v:Value),[Value.int .i64 d][j]? =some v→(w.alloc (.cells #[.int .i64 d] 3)).cell? ((⟨w.heap.size,0,none⟩:Addr).add j)=some v:=fun j v hv=>by
 obtain ⟨hj,he⟩:=List.getElem?_eq_some_iff.1 hv
 have hj0:j=0:=by simpa using hj
 subst hj0
 have he':Value.int .i64 d=v:=by simpa using he
 rw [←he']
 exact (Boxed.new w 3 (.int .i64 d)).cell
set_option maxHeartbeats 1000000 in
set_option maxRecDepth 100000 in
theorem zd8(ms:List (Int×Int))(sl:Value)(w:World)(hd:Movs w sl ms):
  Calls Tryz.prog 96 #[sl] w fun r w'=> ∃ v,r= .returned v∧Ints w' v (ms.map Prod.fst)∧Below w.heap.size w w':=by
 obtain ⟨a,cap,rfl,h20,hcap,hc⟩:=hd
 obtain ⟨i0,hi,hz0,hz1,hz2⟩:=info_parts yZ
 have HC:Hid (_):=hc
 clear hc
 go_enter Tryz.func96,Tryz.ntmps96
 go_wp2
 go_loopw [3,5,8] (fun ov _ i wr=> ∃ m:Nat,m≤ms.length∧i= .int .i64 m∧Hid (Below w.heap.size w wr)∧Hid (Ow w.heap.size wr ov ((ms.map Prod.fst).take m))) (fun _ _ i _=>ms.length - (intOf i).toNat)
 case atStart=>exact ⟨0,Nat.zero_le _,rfl,Below.refl _ _,Ow.nil _ _⟩
 case round=>
  obtain ⟨m,hm,rfl,hB,HO⟩:=hrel
  by_cases hlt:m<ms.length
  ·obtain ⟨blk,rfl,hblk,hcell,hcell'⟩:=HC.out m hlt
   have hc1:=zD hcell hB.out
   have hc2:=zD hcell' hB.out
   have HT:Hid ((ms.map Prod.fst).take (m+1)=(ms.map Prod.fst).take m++[ms[m].1]):=by
    show _=_
    rw [List.take_succ_eq_append_getElem (by simpa using hlt)];simp
   have hlen:((ms.map Prod.fst).take m).length=m:=by simp;omega
   clear HC hcell hcell'
   generalize ms[m]=x at hc1 hc2 HT
   obtain ⟨x1,x2⟩:=x
   dsimp only at hc1 hc2 HT
   generalize (ms.map Prod.fst).take m=o at HO HT hlen
   obtain ⟨oa,oc,rfl⟩:=zw HO.out
   have hA:=zC wr (.cells #[.int .i64 x1,.int .i64 x2] 114)
   have hc0:(wr.alloc (.cells #[.int .i64 x1,.int .i64 x2] 114)).cell? ⟨wr.heap.size,0,none⟩=some (.int .i64 x1):=by rw [World.cell?_alloc_new];rfl
   have hsz:(wr.alloc (.cells #[.int .i64 x1,.int .i64 x2] 114)).heap.size=wr.heap.size+1:=World.size_alloc _ _
   have hzr:w.heap.size≤wr.heap.size:=hB.out.size
   go_upto_region 5 with (fail)
   generalize wr.alloc (.cells #[.int .i64 x1,.int .i64 x2] 114)=wq at hA hc0 hsz
   have HA:=hid hA
   have OW1:Hid (Ow w.heap.size (wq.alloc (.cells #[.int .i64 x1] 3)) (.slice oa o.length oc) o):=Ow.step HO.out (zB hA (zC _ _))
   have NC:Hid (_):=zaU wq x1
   have hzq:w.heap.size≤wq.heap.size:=by omega
   clear hA hc1 hc2 hsz
   go_upto_region 6 with (first
    |(at_builtin;refine wpList_append_own _ rfl _ _ 43 rfl w.heap.size 3 i0 (.int .i64 0) 1 8 Tryz.underlying43 hi hz0 hz1 hz2 rfl (by decide) _ _ _ rfl OW1.out ⟨wq.heap.size,0,none⟩ 1 1 [.int .i64 x1] rfl rfl NC.out (fun v hv=>by rw [List.mem_singleton.1 hv];rfl) (by unfold maxLen;omega) (by omega) (by simp;omega) ?_;intro v' w1 hown' hgrow _;obtain ⟨g',cap',rfl⟩:=ownsRow_succ hown')
    |go_in)
   have OW2:Hid (Ow w.heap.size w1 (.slice (some ⟨g',0,none⟩) (o.length+1) cap') (o++[x1])):=by
    show World.ownsRow _ _ _ _ _ _ _
    rw [List.length_append,List.map_append]
    exact hown'
   have HB1:Hid (Below w.heap.size w w1):=(zB hB.out (zB HA.out (zC wq (.cells #[.int .i64 x1] 3)))).grown (show (wq.alloc (.cells #[.int .i64 x1] 3)).grownBy w1 (Value.slice oa o.length oc).ownBlock from hgrow) (by rw [World.size_alloc];omega) (fun k q=>(World.ownsRow.lt OW1.out k q).1)
   clear hown' hgrow OW1 NC HO hB HA
   go_wp2
   go_roundw
   case rel=>exact ⟨m+1,by omega,by go_num,HB1.out,by rw [HT.out,←hlen];exact OW2.out⟩
   case measure=>simp [intOf];omega
  ·have HE:Hid ((ms.map Prod.fst).take m=ms.map Prod.fst):=List.take_of_length_le (by simp;omega)
   rw [HE.out] at HO
   obtain ⟨oa,oc,rfl⟩:=zw HO.out
   clear HC
   go_wp2
   go_ret
   exact ⟨_,rfl,xh HO.out (by simp;omega),hB.out⟩
def vB:List Int→Bool
 |[]=>true
 |[_]=>true
 |a::b::r=>decide (a<b)&&vB (b::r)
theorem xM: ∀ (l:List Int),vB l=true↔zgC l
 |[]=>⟨fun _ i h=>absurd h (by simp),fun _=>rfl⟩
 |[a]=>⟨fun _ i h=>absurd h (by simp),fun _=>rfl⟩
 |a::b::r=>by
  unfold vB
  rw [Bool.and_eq_true,decide_eq_true_iff,xM (b::r)]
  constructor
  ·rintro ⟨h1,h2⟩ i hi
   cases i with
   |zero=>exact h1
   |succ i=>exact h2 i (by simpa using hi)
  ·intro h
   exact ⟨h 0 (by simp),fun i hi=>h (i+1) (by simpa using hi)⟩
theorem zdk: ∀ {l:List Int},zgC l→l.Pairwise (· < ·)
 |[],_=>List.Pairwise.nil
 |a::r,h=>by
  have hr:zgC r:=fun i hi=>h (i+1) (by simpa using hi)
  have ih:=zdk hr
  rw [List.pairwise_cons]
  refine ⟨fun x hx=> ?_,ih⟩
  cases r with
  |nil=>cases hx
  |cons b r'=>
   have h0:a<b:=h 0 (by simp)
   rcases List.mem_cons.1 hx with rfl|q
   ·exact h0
   ·have:=(List.pairwise_cons.1 ih).1 x q;omega
def lk(sk:List Int)(mv:List (Int×Int)):Int:=
 if 20<sk.length∨20<mv.length then 7 else if (vB sk&&vB (mv.map Prod.fst))=false then 8 else if sk.any yQ=true then 2 else
  if mv.any (fun m=>yQ m.1||yQ m.2)=true then 2 else if mv.any (fun m=>decide (m.1∈sk))=true then 6 else 0
theorem zmO(sk:List Int)(mv:List (Int×Int)):lk sk mv=0∨lk sk mv=2∨lk sk mv=6∨lk sk mv=7∨lk sk mv=8:=by
 unfold lk
 split
 ·simp
 ·split
  ·simp
  ·split
   ·simp
   ·split
    ·simp
    ·split<;>simp
set_option maxHeartbeats 2000000 in
theorem zdl(sk:List Int)(mv:List (Int×Int))(skv mvv:Value)(s:Nat→Addr)(w:World)(g:GlobK s w)(hs:Ints w skv sk)(hm:Movs w mvv mv):
  Calls Tryz.prog 62 #[skv,mvv] w fun r w'=>r= .returned (jY s (lk sk mv))∧Below w.heap.size w w':=by
 have hA:=zC w (.cells #[skv] 43)
 have hB:Boxed (w.alloc (.cells #[skv] 43)) w.heap.size 43 skv:=vu _ _ rfl
 have HS:Hid (Ints (w.alloc (.cells #[skv] 43)) skv sk):=hs.step hA
 have HM:Hid (Movs (w.alloc (.cells #[skv] 43)) mvv mv):=hm.step hA
 have HG:Hid (GlobK s (w.alloc (.cells #[skv] 43))):=g.step hA
 obtain ⟨sa,sc,rfl,hs1,hs2,hs3⟩:=hs
 obtain ⟨ma,mc,rfl,hm1,hm2,hm3⟩:=hm
 clear hs3 hm3
 have HA:Hid (_):=hA
 have HB:Hid (_):=hB
 clear hA hB g
 generalize hw0:w.alloc (.cells #[.slice sa sk.length sc] 43)=w0 at HS HM HG HA HB
 have C1:Hid (∀ W,Below w0.heap.size w0 W→Calls Tryz.prog 95 #[.slice sa sk.length sc] W fun r w'=>r= .returned (.bool (vB sk))∧Below W.heap.size W w'):=fun W h=>zbV sk _ W (HS.out.step h) _ (xM sk)
 have C2:Hid (∀ W,Below w0.heap.size w0 W→Calls Tryz.prog 96 #[.slice ma mv.length mc] W fun r w'=> ∃ a c,r= .returned (.slice a mv.length c)∧Ints w' (.slice a mv.length c) (mv.map Prod.fst)∧Below W.heap.size W w'):=fun W h=>by
  refine (zd8 mv _ W (HM.out.step h)).mono ?_
  rintro r w' ⟨v,rfl,h1,h2⟩
  obtain ⟨a,c,rfl,_⟩:=id h1
  rw [List.length_map] at h1 ⊢
  exact ⟨a,c,rfl,h1,h2⟩
 have C3:Hid (∀ W a c,Ints W (.slice a mv.length c) (mv.map Prod.fst)→Calls Tryz.prog 95 #[.slice a mv.length c] W fun r w'=>r= .returned (.bool (vB (mv.map Prod.fst)))∧Below W.heap.size W w'):=fun W a c h=>zbV _ _ W h _ (xM _)
 have C4:Hid (∀ W,Below w0.heap.size w0 W→Calls Tryz.prog 97 #[.slice sa sk.length sc,.func (.func 98) #[] #[]] W fun r w'=>r= .returned (.bool (sk.any yQ))∧Below W.heap.size W w'):=fun W h=>
  zan 98 #[] yQ sk _ W (HS.out.step h) (enters_of Tryz.func98 (by kernel_rfl) rfl) (fun x W' _=>zko x W') _ (by rw [List.any_eq_true])
 have C5:Hid (∀ W,Below w0.heap.size w0 W→Calls Tryz.prog 99 #[.slice ma mv.length mc,.func (.func 100) #[] #[]] W fun r w'=>r= .returned (.bool (mv.any (fun m=>yQ m.1||yQ m.2)))∧Below W.heap.size W w'):=fun W h=>
  xp 100 #[] (fun m=>yQ m.1||yQ m.2) mv _ W (HM.out.step h) (enters_of Tryz.func100 (by kernel_rfl) rfl) (fun x W' _=>zkp x W') _ (by rw [List.any_eq_true])
 have C6:Hid (∀ W,Below w0.heap.size w0 W→Calls Tryz.prog 99 #[.slice ma mv.length mc,.func (.func 101) #[] #[.pointer (some ⟨w.heap.size,0,none⟩)]] W fun r w'=>r= .returned (.bool (mv.any (fun m=>decide (m.1∈sk))))∧Below W.heap.size W w'):=fun W h=>
  xp 101 #[.pointer (some ⟨w.heap.size,0,none⟩)] (fun m=>decide (m.1∈sk)) mv _ W (HM.out.step h) (enters_of Tryz.func101 (by kernel_rfl) rfl) (fun x W' h'=>zkq x w.heap.size sk _ W' ((h'.block _ (Boxed.lt (show Boxed W w.heap.size 43 _ from (h.block _ (Boxed.lt HB.out)).trans HB.out))).trans ((h.block _ (Boxed.lt HB.out)).trans HB.out)) ((HS.out.step h).step h')) _ (by rw [List.any_eq_true])
 have LK:Hid (lk sk mv=if 20<sk.length∨20<mv.length then 7 else if (vB sk&&vB (mv.map Prod.fst))=false then 8 else if sk.any yQ=true then 2 else
  if mv.any (fun m=>yQ m.1||yQ m.2)=true then 2 else if mv.any (fun m=>decide (m.1∈sk))=true then 6 else 0):=rfl
 generalize lk sk mv=k at LK ⊢
 generalize vB sk=b1 at C1 LK
 generalize vB (mv.map Prod.fst)=b2 at C3 LK
 generalize sk.any yQ=b3 at C4 LK
 generalize mv.any (fun m=>yQ m.1||yQ m.2)=b4 at C5 LK
 generalize mv.any (fun m=>decide (m.1∈sk))=b5 at C6 LK
 have x1:=Boxed.cell HB.out
 have CE:Hid (∀ W,Below w0.heap.size w0 W→W.cell? ⟨w.heap.size,0,none⟩=some (.slice sa sk.length sc)):=fun W h=>zD x1 h
 have hsk:(sk.length:Int)≤80000:=by omega
 have hmv:(mv.length:Int)≤80000:=by omega
 clear HS HM HB hs2 hm2
 by_cases q1:20<sk.length∨20<mv.length
 ·rw [if_pos q1] at LK
  have EV:Hid (jY s k= .iface 269 (.pointer (some (s 6)))):=xB LK.out (by decide)
  have r6:=HG.out.c6
  clear C1 C2 C3 C4 C5 C6 LK HG CE
  have q2:20<sk.length∨(¬ 20<sk.length∧20<mv.length):=by omega
  clear q1
  rcases q2 with q1|⟨q1,q2⟩
  all_goals
   go_enter Tryz.func62,Tryz.ntmps62
   go_wp2
   go_ret
   exact ⟨(by rw [EV.out];rfl),HA.out⟩
 ·rw [if_neg q1] at LK
  obtain ⟨q2,q3⟩:(sk.length:Int)≤20∧(mv.length:Int)≤20:=by omega
  clear q1
  cases b1 with
  |false=>
   have EV:Hid (jY s k= .iface 269 (.pointer (some (s 7)))):=xB (show k=8 from LK.out) (by decide)
   clear C2 C3 C4 C5 C6 LK CE
   go_enter Tryz.func62,Tryz.ntmps62
   go_wp2_with (go_at_call 95;refine (C1.out _ (Below.refl _ _)).mono ?_;rintro r w1 ⟨rfl,hb1⟩;have r7:=(HG.out.step hb1).c7)
   go_ret
   exact ⟨(by rw [EV.out];rfl),zB HA.out hb1⟩
  |true=>
  cases b2 with
  |false=>
   have EV:Hid (jY s k= .iface 269 (.pointer (some (s 7)))):=xB (show k=8 from LK.out) (by decide)
   clear C4 C5 C6 LK CE
   go_enter Tryz.func62,Tryz.ntmps62
   go_wp2_with (first
    |(go_at_call_of 95 (Value.slice sa sk.length sc);refine (C1.out _ (Below.refl _ _)).mono ?_;rintro r w1 ⟨rfl,hb1⟩;clear C1)
    |(go_at_call 96;refine (C2.out _ hb1).mono ?_;rintro r w2 ⟨fa,fc,rfl,hf,hb2⟩)
    |(go_at_call 95;refine (C3.out _ _ _ hf).mono ?_;rintro r w3 ⟨rfl,hb3⟩;have r7:=(HG.out.step (zB hb1 (zB hb2 hb3))).c7))
   go_ret
   exact ⟨(by rw [EV.out];rfl),zB HA.out (zB hb1 (zB hb2 hb3))⟩
  |true=>
  have LK':Hid (k=if b3=true then 2 else if b4=true then 2 else if b5=true then 6 else 0):=LK.out
  clear LK
  cases b3 with
  |true=>
   have EV:Hid (jY s k= .iface 269 (.pointer (some (s 1)))):=xB (show k=2 from LK'.out) (by decide)
   clear C5 C6 LK'
   go_enter Tryz.func62,Tryz.ntmps62
   go_wp2_with (first
    |(go_at_call_of 95 (Value.slice sa sk.length sc);refine (C1.out _ (Below.refl _ _)).mono ?_;rintro r w1 ⟨rfl,hb1⟩;clear C1)
    |(go_at_call 96;refine (C2.out _ hb1).mono ?_;rintro r w2 ⟨fa,fc,rfl,hf,hb2⟩)
    |(go_at_call 95;refine (C3.out _ _ _ hf).mono ?_;rintro r w3 ⟨rfl,hb3⟩;have h3:=zB hb1 (zB hb2 hb3);have x3:=CE.out _ h3)
    |(go_at_call 97;refine (C4.out _ h3).mono ?_;rintro r w4 ⟨rfl,hb4⟩;have h4:=zB h3 hb4;have r1:=(HG.out.step h4).c1))
   go_ret
   exact ⟨(by rw [EV.out];rfl),zB HA.out h4⟩
  |false=>
  have LK2:Hid (k=if b4=true then 2 else if b5=true then 6 else 0):=LK'.out
  clear LK'
  cases b4 with
  |true=>
   have EV:Hid (jY s k= .iface 269 (.pointer (some (s 1)))):=xB (show k=2 from LK2.out) (by decide)
   clear C6 LK2
   go_enter Tryz.func62,Tryz.ntmps62
   go_wp2_with (first
    |(go_at_call_of 95 (Value.slice sa sk.length sc);refine (C1.out _ (Below.refl _ _)).mono ?_;rintro r w1 ⟨rfl,hb1⟩;clear C1)
    |(go_at_call 96;refine (C2.out _ hb1).mono ?_;rintro r w2 ⟨fa,fc,rfl,hf,hb2⟩)
    |(go_at_call 95;refine (C3.out _ _ _ hf).mono ?_;rintro r w3 ⟨rfl,hb3⟩;have h3:=zB hb1 (zB hb2 hb3);have x3:=CE.out _ h3)
    |(go_at_call 97;refine (C4.out _ h3).mono ?_;rintro r w4 ⟨rfl,hb4⟩;have h4:=zB h3 hb4)
    |(go_at_call 99;refine (C5.out _ h4).mono ?_;rintro r w5 ⟨rfl,hb5⟩;have h5:=zB h4 hb5;have r1:=(HG.out.step h5).c1))
   go_ret
   exact ⟨(by rw [EV.out];rfl),zB HA.out h5⟩
  |false=>
  have LK3:Hid (k=if b5=true then 6 else 0):=LK2.out
  clear LK2
  have EV:Hid (jY s k=if b5=true then .iface 269 (.pointer (some (s 5))) else .nilIface):=by
   show _=_
   rw [LK3.out]
   cases b5<;>rfl
  cases b5
  all_goals
   clear LK3
   go_enter Tryz.func62,Tryz.ntmps62
   go_wp2_with (first
    |(go_at_call_of 95 (Value.slice sa sk.length sc);refine (C1.out _ (Below.refl _ _)).mono ?_;rintro r w1 ⟨rfl,hb1⟩;clear C1)
    |(go_at_call 96;refine (C2.out _ hb1).mono ?_;rintro r w2 ⟨fa,fc,rfl,hf,hb2⟩)
    |(go_at_call 95;refine (C3.out _ _ _ hf).mono ?_;rintro r w3 ⟨rfl,hb3⟩;have h3:=zB hb1 (zB hb2 hb3);have x3:=CE.out _ h3)
    |(go_at_call 97;refine (C4.out _ h3).mono ?_;rintro r w4 ⟨rfl,hb4⟩;have h4:=zB h3 hb4)
    |(go_at_call 99;refine (C6.out _ h5).mono ?_;rintro r w6 ⟨rfl,hb6⟩;have h6:=zB h5 hb6;have r5:=(HG.out.step h6).c5)
    |(go_at_call 99;refine (C5.out _ h4).mono ?_;rintro r w5 ⟨rfl,hb5⟩;have h5:=zB h4 hb5))
   go_ret
   exact ⟨(by rw [EV.out];rfl),zB HA.out h6⟩
structure EV where
 id:ByteArray
 ti:ByteArray
 st:Int
 lg:Int
 f:ByteArray
 e:Int
 ds:List Int
 c:Int
 u:Int
 sk:List Int
 mv:List (Int×Int)
def ev(E:EV)(sl sk mv:Value):Value:= .agg #[.string E.id,.string E.ti,.int .i64 E.st,.int .i64 E.lg,.string E.f,.int .i64 E.e,sl,.int .i64 E.c,.int .i64 E.u,sk,mv]
def EB(W:World)(B:Nat)(E:EV)(sl sk mv:Value):Prop:=W.heap[B]? =some (.cells #[.string E.id,.string E.ti,.int .i64 E.st,.int .i64 E.lg,.string E.f,.int .i64 E.e,sl,.int .i64 E.c,.int .i64 E.u,sk,mv] 48 (0,0))
theorem EB.lt{W:World}{B:Nat}{E:EV}{sl sk mv:Value}(h:EB W B E sl sk mv):B<W.heap.size:=(Array.getElem?_eq_some_iff.1 h).1
theorem EB.step{W W':World}{B:Nat}{E:EV}{sl sk mv:Value}(h:EB W B E sl sk mv)(hb:Below W.heap.size W W'):EB W' B E sl sk mv:=(hb.block _ h.lt).trans h
theorem EB.new(w:World)(E:EV)(sl sk mv:Value):EB (w.alloc (.cells #[.string E.id,.string E.ti,.int .i64 E.st,.int .i64 E.lg,.string E.f,.int .i64 E.e,sl,.int .i64 E.c,.int .i64 E.u,sk,mv] 48)) w.heap.size E sl sk mv:=zJ _ rfl
theorem zK{W:World}{n:Nat}{v0 v1 v2 v3 v4 v5 v6 v7 v8 v9 v10:Value}{t:TypeId}(h:W.heap[n]? =some (.cells #[v0,v1,v2,v3,v4,v5,v6,v7,v8,v9,v10] t (0,0))):
  W.cell? ⟨n,0,none⟩=some v0∧W.cell? ⟨n,1,none⟩=some v1∧W.cell? ⟨n,2,none⟩=some v2∧W.cell? ⟨n,3,none⟩=some v3∧W.cell? ⟨n,4,none⟩=some v4∧W.cell? ⟨n,5,none⟩=some v5∧
   W.cell? ⟨n,6,none⟩=some v6∧W.cell? ⟨n,7,none⟩=some v7∧W.cell? ⟨n,8,none⟩=some v8∧W.cell? ⟨n,9,none⟩=some v9∧W.cell? ⟨n,10,none⟩=some v10:=by
 refine ⟨?_,?_,?_,?_,?_,?_,?_,?_,?_,?_,?_⟩<;>simp [World.cell?,h]
def bE(st lg:Int):Prop:=(0≤st∧st≤73048)∧1≤lg∧lg≤60
def EvK(E:EV)(k:Int):Prop:=
 (¬ zdX E.id∧k=4)∨(zdX E.id∧ ¬ zfe E.ti∧k=1)∨(zdX E.id∧zfe E.ti∧ ¬ bE E.st E.lg∧k=2)∨
  (zdX E.id∧zfe E.ti∧bE E.st E.lg∧ ∃ kr,zbX E.f E.e E.ds E.c E.u kr∧((kr≠0∧k=kr)∨(kr=0∧k=lk E.sk E.mv)))
structure EW(E:EV):Prop where
 id:zdX E.id
 ti:zfe E.ti
 bd:bE E.st E.lg
 rl:Well (rd E.f E.e E.ds E.c E.u)
 ls:lk E.sk E.mv=0
theorem vV(E:EV): ∃ k,EvK E k:=by
 by_cases h1:zdX E.id
 ·by_cases h2:zfe E.ti
  ·by_cases h3:bE E.st E.lg
   ·obtain ⟨kr,hk⟩:=jP E.f E.e E.ds E.c E.u
    by_cases h4:kr=0
    ·exact ⟨_,.inr (.inr (.inr ⟨h1,h2,h3,kr,hk,.inr ⟨h4,rfl⟩⟩))⟩
    ·exact ⟨_,.inr (.inr (.inr ⟨h1,h2,h3,kr,hk,.inl ⟨h4,rfl⟩⟩))⟩
   ·exact ⟨_,.inr (.inr (.inl ⟨h1,h2,h3,rfl⟩))⟩
  ·exact ⟨_,.inr (.inl ⟨h1,h2,rfl⟩)⟩
 ·exact ⟨_,.inl ⟨h1,rfl⟩⟩
theorem jM{E:EV}{k:Int}(h:EvK E k):k=0↔EW E:=by
 rcases h with ⟨h1,rfl⟩|⟨h1,h2,rfl⟩|⟨h1,h2,h3,rfl⟩|⟨h1,h2,h3,kr,hk,(⟨h4,rfl⟩|⟨rfl,rfl⟩)⟩
 ·exact ⟨fun q=>absurd q (by decide),fun q=>absurd q.id h1⟩
 ·exact ⟨fun q=>absurd q (by decide),fun q=>absurd q.ti h2⟩
 ·exact ⟨fun q=>absurd q (by decide),fun q=>absurd q.bd h3⟩
 ·exact ⟨fun q=>absurd q h4,fun q=>absurd ((jq hk).2 q.rl) h4⟩
 ·exact ⟨fun q=>⟨h1,h2,h3,(jq hk).1 rfl,q⟩,fun q=>q.ls⟩
theorem zjR{E:EV}{k:Int}(h:EvK E k):k=0∨(1≤k∧k≤8):=by
 rcases h with ⟨h1,rfl⟩|⟨h1,h2,rfl⟩|⟨h1,h2,h3,rfl⟩|⟨h1,h2,h3,kr,hk,(⟨h4,rfl⟩|⟨rfl,rfl⟩)⟩
 ·omega
 ·omega
 ·omega
 ·have:=zhf hk;omega
 ·have:=zmO E.sk E.mv;omega
theorem zbb{s:Nat→Addr}{k:Int}(h:k≠0): ∃ p,jY s k= .iface 269 (.pointer (some p)):=by
 unfold jY;rw [if_neg h];exact ⟨_,rfl⟩
set_option maxHeartbeats 2000000 in
theorem vW(E:EV)(sl skv mvv:Value)(k:Int)(s:Nat→Addr)(w:World)(g:GlobK s w)(hd:Days w sl E.ds)(hs:Ints w skv E.sk)(hm:Movs w mvv E.mv)(h30:E.id.size≤60)(h60:E.ti.size≤60)(hk:EvK E k):
  Calls Tryz.prog 32 #[ev E sl skv mvv] w fun r w'=>r= .returned (jY s k)∧Below w.heap.size w w':=by
 have hA:=zC w (.cells #[.string E.id,.string E.ti,.int .i64 E.st,.int .i64 E.lg,.string E.f,.int .i64 E.e,sl,.int .i64 E.c,.int .i64 E.u,skv,mvv] 48)
 have hB:=EB.new w E sl skv mvv
 obtain ⟨id,ti,st,lg,f,e,ds,c,u,sk,mv⟩:=E
 dsimp only at*
 unfold ev EB at*
 dsimp only at*
 have HG:=hid (g.step hA)
 have HD:=hid (hd.step hA)
 have HS:=hid (hs.step hA)
 have HM:=hid (hm.step hA)
 obtain ⟨ra,rc,rfl,_⟩:=hd
 obtain ⟨sa,sc,rfl,_⟩:=hs
 obtain ⟨ma,mc,rfl,_⟩:=hm
 have HA:Hid (_):=hA
 clear hA g
 generalize hw0:w.alloc (.cells (eW id ti st lg f e ra ds.length rc c u sa sk.length sc ma mv.length mc) 48)=w0 at HG HD HS HM HA hB
 obtain ⟨x0,x1,x2,x3,x4,x5,x6,x7,x8,x9,x10⟩:=zK hB
 have BX:Hid (∀ W,Below w0.heap.size w0 W→_):=fun W h=>zK ((h.block _ (Array.getElem?_eq_some_iff.1 hB).1).trans hB)
 have HK:=hid hk
 clear hk hB
 by_cases h1:zdX id
 case neg=>
  have EK:Hid (jY s k= .iface 269 (.pointer (some (s 3)))):=by
   refine xB (m:=4) ?_ (by decide)
   rcases HK.out with q|q|q|q
   ·exact q.2
   ·exact absurd q.1 h1
   ·exact absurd q.1 h1
   ·exact absurd q.1 h1
  have r3:=HG.out.c3
  have I:Hid (∀ W,_):=fun W=>zff id W h30 false ⟨fun q=>absurd q (by decide),fun q=>absurd q h1⟩
  clear HK HD HS HM BX h1 HG
  go_enter Tryz.func32,Tryz.ntmps32
  go_wp2_with (go_at_call 58;refine (I.out _).mono ?_;rintro r w1 ⟨rfl,rfl⟩)
  go_ret
  exact ⟨(by rw [EK.out];rfl),HA.out⟩
 case pos=>
 have I:Hid (∀ W,_):=fun W=>zff id W h30 true ⟨fun _=>h1,fun _=>rfl⟩
 by_cases h2:zfe ti
 case neg=>
  have EK:Hid (jY s k= .iface 269 (.pointer (some (s 0)))):=by
   refine xB (m:=1) ?_ (by decide)
   rcases HK.out with q|q|q|q
   ·exact absurd h1 q.1
   ·exact q.2.2
   ·exact absurd q.2.1 h2
   ·exact absurd q.2.1 h2
  have T:Hid (∀ W,_):=fun W=>zbf ti W h60 false ⟨fun q=>absurd q (by decide),fun q=>absurd q h2⟩
  clear HK HD HS HM BX h1 h2
  go_enter Tryz.func32,Tryz.ntmps32
  go_wp2_with (first
   |(go_at_call 58;refine (I.out _).mono ?_;rintro r w1 ⟨rfl,rfl⟩)
   |(go_at_call 59;refine (T.out _).mono ?_;rintro r w1 ⟨rfl,hb1⟩;have r0:=(HG.out.step hb1).c0))
  go_ret
  exact ⟨(by rw [EK.out];rfl),zB HA.out hb1⟩
 case pos=>
 have T:Hid (∀ W,_):=fun W=>zbf ti W h60 true ⟨fun _=>h2,fun _=>rfl⟩
 have D:Hid (∀ W,Calls Tryz.prog 60 #[.int .i64 st] W fun r w'=>r= .returned (.bool (decide (0≤st∧st≤73048)))∧w'=W):=fun W=>zao st W _ (by simp)
 by_cases h3:bE st lg
 case neg=>
  have EK:Hid (jY s k= .iface 269 (.pointer (some (s 1)))):=by
   refine xB (m:=2) ?_ (by decide)
   rcases HK.out with q|q|q|q
   ·exact absurd h1 q.1
   ·exact absurd h2 q.2.1
   ·exact q.2.2.2
   ·exact absurd q.2.2.1 h3
  have h4:decide (0≤st∧st≤73048)=false∨(decide (0≤st∧st≤73048)=true∧lg<1)∨(decide (0≤st∧st≤73048)=true∧1≤lg∧60<lg):=by
   unfold bE at h3
   rw [decide_eq_false_iff_not,decide_eq_true_iff]
   omega
  clear HK HD HS HM h1 h2 h3
  generalize decide (0≤st∧st≤73048)=b at D h4
  rcases h4 with rfl|⟨rfl,h4⟩|⟨rfl,h4,h5⟩
  all_goals
   go_enter Tryz.func32,Tryz.ntmps32
   go_wp2_with (first
    |(go_at_call 58;refine (I.out _).mono ?_;rintro r w1 ⟨rfl,rfl⟩)
    |(go_at_call 59;refine (T.out _).mono ?_;rintro r w1 ⟨rfl,hb1⟩;have r1:=(HG.out.step hb1).c1;obtain ⟨y0,y1,y2,y3,y4,y5,y6,y7,y8,y9,y10⟩:=BX.out _ hb1)
    |(go_at_call 60;refine (D.out _).mono ?_;rintro r w2 ⟨rfl,rfl⟩))
   go_ret
   exact ⟨(by rw [EK.out];rfl),zB HA.out hb1⟩
 case pos=>
 have hd1:decide (0≤st∧st≤73048)=true:=decide_eq_true h3.1
 rw [hd1] at D
 obtain ⟨hl1,hl2⟩:1≤lg∧lg≤60:=h3.2
 have EX:Hid (∃ kr,zbX f e ds c u kr∧((kr≠0∧k=kr)∨(kr=0∧k=lk sk mv))):=by
  rcases HK.out with q|q|q|q
  ·exact absurd h1 q.1
  ·exact absurd h2 q.2.1
  ·exact absurd h3 q.2.2.1
  ·exact q.2.2.2
 obtain ⟨kr,hkr,hcase⟩:=EX.out
 have RC:Hid (∀ W,Below w0.heap.size w0 W→Calls Tryz.prog 61 #[.agg #[.string f,.int .i64 e,.slice ra ds.length rc,.int .i64 c,.int .i64 u]] W fun r w'=>r= .returned (jY s kr)∧Below W.heap.size W w'):=fun W h=>zi3 f e _ c u ds kr s W (HG.out.step h) (HD.out.step h) hkr
 have LC:Hid (∀ W,Below w0.heap.size w0 W→Calls Tryz.prog 62 #[.slice sa sk.length sc,.slice ma mv.length mc] W fun r w'=>r= .returned (jY s (lk sk mv))∧Below W.heap.size W w'):=fun W h=>zdl sk mv _ _ s W (HG.out.step h) (HS.out.step h) (HM.out.step h)
 clear HK h1 h2 h3 hd1 hkr HD HS HM EX
 rcases hcase with ⟨q1,q2⟩|⟨q1,q2⟩
 ·obtain ⟨p,hp⟩:=zbb (s:=s) q1
  have EK:Hid (jY s k= .iface 269 (.pointer (some p))):=by show _=_;rw [q2];exact hp
  rw [hp] at RC
  clear q1 q2 LC hp
  go_enter Tryz.func32,Tryz.ntmps32
  go_wp2_with (first
   |(go_at_call 58;refine (I.out _).mono ?_;rintro r w1 ⟨rfl,rfl⟩)
   |(go_at_call 59;refine (T.out _).mono ?_;rintro r w1 ⟨rfl,hb1⟩;obtain ⟨y0,y1,y2,y3,y4,y5,y6,y7,y8,y9,y10⟩:=BX.out _ hb1)
   |(go_at_call 60;refine (D.out _).mono ?_;rintro r w2 ⟨rfl,rfl⟩)
   |(go_at_call 61;refine (RC.out _ hb1).mono ?_;rintro r w2 ⟨rfl,hb2⟩))
  go_ret
  exact ⟨(by rw [EK.out];rfl),zB HA.out (zB hb1 hb2)⟩
 ·rw [q1,zdt] at RC
  rw [←q2] at LC
  clear q1 q2
  generalize jY s k=er at LC ⊢
  go_enter Tryz.func32,Tryz.ntmps32
  go_wp2_with (first
   |(go_at_call 58;refine (I.out _).mono ?_;rintro r w1 ⟨rfl,rfl⟩)
   |(go_at_call 59;refine (T.out _).mono ?_;rintro r w1 ⟨rfl,hb1⟩;obtain ⟨y0,y1,y2,y3,y4,y5,y6,y7,y8,y9,y10⟩:=BX.out _ hb1)
   |(go_at_call 60;refine (D.out _).mono ?_;rintro r w2 ⟨rfl,rfl⟩)
   |(go_at_call 61;refine (RC.out _ hb1).mono ?_;rintro r w2 ⟨rfl,hb2⟩;have h2:=zB hb1 hb2;obtain ⟨z0,z1,z2,z3,z4,z5,z6,z7,z8,z9,z10⟩:=BX.out _ h2)
   |(go_at_call 62;refine (LC.out _ h2).mono ?_;rintro r w3 ⟨rfl,hb3⟩))
  go_ret
  exact ⟨rfl,zB HA.out (zB h2 hb3)⟩
theorem yX{sk:List Int}{mv:List (Int×Int)}(h:lk sk mv=0):sk.length≤20∧mv.length≤20∧zgC sk∧(mv.map Prod.fst).Pairwise (· < ·)∧(∀ x∈sk,0≤x∧x≤73048)∧(∀ m∈mv,(0≤m.1∧m.1≤73048)∧0≤m.2∧m.2≤73048)∧ ∀ m∈mv,m.1∉sk:=by
 unfold lk at h
 split at h
 ·omega
 ·split at h
  ·omega
  ·split at h
   ·omega
   ·split at h
    ·omega
    ·split at h
     ·omega
     ·rename_i q1 q2 q3 q4 q5
      rw [Bool.not_eq_false,Bool.and_eq_true,xM,xM] at q2
      refine ⟨by omega,by omega,q2.1,zdk q2.2,fun x hx=> ?_,fun m hm=> ?_,fun m hm q=>q5 ?_⟩
      ·have: ¬ yQ x=true:=fun q=>q3 (List.any_eq_true.2 ⟨x,hx,q⟩)
       unfold yQ at this
       simpa using this
      ·have: ¬ (yQ m.1||yQ m.2)=true:=fun q=>q4 (List.any_eq_true.2 ⟨m,hm,q⟩)
       unfold yQ at this
       simp at this
       omega
      ·exact List.any_eq_true.2 ⟨m,hm,by simpa using q⟩
end Go.Proofs.YtpeafgddbbojaaaGreatDoor
namespace Go.Proofs.YtpeafgddbbojaaaGreatDoor.Cal
open Go
def dgt(k:Int):UInt8:=UInt8.ofNat (48+k.toNat)
def two(k:Int):List UInt8:=[dgt (k / 10),dgt (k % 10)]
def four(k:Int):List UInt8:=[dgt (k / 1000),dgt (k / 100 % 10),dgt (k / 10 % 10),dgt (k % 10)]
def txt(y m d:Int):List UInt8:=four y++[45]++two m++[45]++two d
theorem zdW(y:Int)(h0:1000≤y)(h1:y≤9999):Lib.itoa y=four y:=by
 obtain ⟨u,rfl⟩: ∃ u:Nat,y=u:=⟨y.toNat,by omega⟩
 rw [Lib.itoa_nonneg,Lib.decDigits,dif_neg (by omega),Lib.decDigits,dif_neg (by omega),Lib.decDigits_two (by omega) (by omega)]
 unfold four dgt
 have e1:u / 10 / 10 / 10=((u:Int) / 1000).toNat:=by omega
 have e2:u / 10 / 10 % 10=((u:Int) / 100 % 10).toNat:=by omega
 have e3:u / 10 % 10=((u:Int) / 10 % 10).toNat:=by omega
 have e4:u % 10=((u:Int) % 10).toNat:=by omega
 rw [e1,e2,e3,e4];rfl
theorem ziH(k:Nat)(h:k<10):[48]++Lib.decDigits k=two k:=by
 rw [Lib.decDigits_one h];unfold two dgt
 have e1:((k:Int) / 10).toNat=0:=by omega
 have e2:((k:Int) % 10).toNat=k:=by omega
 rw [e1,e2];rfl
theorem ziI(k:Nat)(h0: ¬ k<10)(h1:k<100):Lib.decDigits k=two k:=by
 rw [Lib.decDigits_two h0 h1];unfold two dgt
 have e1:((k:Int) / 10).toNat=k / 10:=by omega
 have e2:((k:Int) % 10).toNat=k % 10:=by omega
 rw [e1,e2]
theorem jD(k:Int):(two k).length=2:=rfl
theorem four_length(k:Int):(four k).length=4:=rfl
theorem xx(y m d:Int):(txt y m d).length=10:=rfl
theorem zeP(k:Int)(h0:0≤k)(h1:k≤9):(dgt k).toNat=48+k.toNat:=by
 unfold dgt;rw [UInt8.toNat_ofNat'];omega
end Go.Proofs.YtpeafgddbbojaaaGreatDoor.Cal
namespace Go.Proofs
open Go.Shelf
def Tryz.laysM171_ren:Go.Shelf.Ren:=⟨fun|171=>119|243=>153|246=>181|283=>199|284=>200|285=>201|286=>202|129=>117|317=>219|318=>220|319=>221|320=>222|337=>240|338=>241|n=>n,fun|3=>3|9=>9|2=>2|4=>4|171=>227|0=>0|53=>157|37=>103|5=>5|173=>229|212=>243|51=>155|20=>20|213=>244|46=>120|232=>283|233=>284|n=>n,fun|17=>9|18=>14|19=>15|n=>n⟩
theorem Tryz.laysM171:Go.Proofs.LaysM.n171 Tryz.prog Tryz.laysM171_ren:={
 mixed:=by kernel_rfl
 f129:=Tryz.func117.trans (congrArg some (by kernel_rfl))
 f171:=Tryz.func119.trans (congrArg some (by kernel_rfl))
 f243:=Tryz.func153.trans (congrArg some (by kernel_rfl))
 f246:=Tryz.func181.trans (congrArg some (by kernel_rfl))
 f283:=Tryz.func199.trans (congrArg some (by kernel_rfl))
 f284:=Tryz.func200.trans (congrArg some (by kernel_rfl))
 f285:=Tryz.func201.trans (congrArg some (by kernel_rfl))
 f286:=Tryz.func202.trans (congrArg some (by kernel_rfl))
 f317:=Tryz.func219.trans (congrArg some (by kernel_rfl))
 f318:=Tryz.func220.trans (congrArg some (by kernel_rfl))
 f319:=Tryz.func221.trans (congrArg some (by kernel_rfl))
 f320:=Tryz.func222.trans (congrArg some (by kernel_rfl))
 f337:=Tryz.func240.trans (congrArg some (by kernel_rfl))
 f338:=Tryz.func241.trans (congrArg some (by kernel_rfl))
 t0:=Tryz.underlying0
 a0:=Tryz.isAgg0
 z0:=Tryz.sizeOf0
 v0:=Tryz.zeroValue0
 t2:=Tryz.underlying2
 a2:=Tryz.isAgg2
 z2:=Tryz.sizeOf2
 v2:=Tryz.zeroValue2
 t3:=Tryz.underlying3
 a3:=Tryz.isAgg3
 z3:=Tryz.sizeOf3
 v3:=Tryz.zeroValue3
 t4:=Tryz.underlying4
 a4:=Tryz.isAgg4
 z4:=Tryz.sizeOf4
 v4:=Tryz.zeroValue4
 t5:=Tryz.underlying5
 a5:=Tryz.isAgg5
 z5:=Tryz.sizeOf5
 v5:=Tryz.zeroValue5
 t9:=Tryz.underlying9
 a9:=Tryz.isAgg9
 z9:=Tryz.sizeOf9
 v9:=Tryz.zeroValue9
 t20:=Tryz.underlying20
 a20:=Tryz.isAgg20
 z20:=Tryz.sizeOf20
 v20:=Tryz.zeroValue20
 t37:=Tryz.underlying103
 a37:=Tryz.isAgg103
 z37:=Tryz.sizeOf103
 v37:=Tryz.zeroValue103
 t46:=Tryz.underlying120
 a46:=Tryz.isAgg120
 z46:=Tryz.sizeOf120
 v46:=Tryz.zeroValue120
 t51:=Tryz.underlying155
 a51:=Tryz.isAgg155
 z51:=Tryz.sizeOf155
 v51:=Tryz.zeroValue155
 t53:=Tryz.underlying157
 a53:=Tryz.isAgg157
 z53:=Tryz.sizeOf157
 v53:=Tryz.zeroValue157
 t171:=Tryz.underlying227
 a171:=Tryz.isAgg227
 z171:=Tryz.sizeOf227
 v171:=Tryz.zeroValue227
 t173:=Tryz.underlying229
 a173:=Tryz.isAgg229
 z173:=Tryz.sizeOf229
 v173:=Tryz.zeroValue229
 t212:=Tryz.underlying243
 a212:=Tryz.isAgg243
 z212:=Tryz.sizeOf243
 v212:=Tryz.zeroValue243
 t213:=Tryz.underlying244
 a213:=Tryz.isAgg244
 z213:=Tryz.sizeOf244
 t232:=Tryz.underlying283
 a232:=Tryz.isAgg283
 z232:=Tryz.sizeOf283
 v232:=Tryz.zeroValue283
 t233:=Tryz.underlying284
 a233:=Tryz.isAgg284
 z233:=Tryz.sizeOf284
 v233:=Tryz.zeroValue284
 g17:=by kernel_rfl
 g18:=by kernel_rfl
 g19:=by kernel_rfl
 i0:=by kernel_rfl
 i2:=by kernel_rfl
 i3:=by kernel_rfl
 i4:=by kernel_rfl
 i5:=by kernel_rfl
 i9:=by kernel_rfl
 i20:=by kernel_rfl
 i37:=by kernel_rfl
 i46:=by kernel_rfl
 i51:=by kernel_rfl
 i53:=by kernel_rfl
 i171:=by kernel_rfl
 i173:=by kernel_rfl
 i212:=by kernel_rfl
 i232:=by kernel_rfl
 i233:=by kernel_rfl
 m17:=by kernel_rfl
 m18:=by kernel_rfl
 m19:=by kernel_rfl }
open Go.RowKit Go.Sort Go.Lib in
theorem Tryz.strconv_Itoa(n:Int)(h0: -9223372036854775808≤n)(h1:n≤9223372036854775807)(w:World)(htab:Lib.TabIs Tryz.prog w "internal/strconv.uint64pow10" .u64 Lib.pow10Tab):
  Calls Tryz.prog 119 #[.int .i64 n] w fun e w'=>e= .returned (.string ⟨(Lib.itoa n).toArray⟩)∧ ∃ k os,w'=grow (w.drewN k) os:=Any.strconv_Itoa Tryz.laysM171 n h0 h1 w htab
def Tryz.lays171_ren:Go.Shelf.Ren:=⟨fun|171=>119|243=>153|246=>181|283=>199|284=>200|285=>201|286=>202|129=>117|317=>219|318=>220|319=>221|320=>222|337=>240|338=>241|n=>n,fun|3=>3|9=>9|2=>2|4=>4|171=>227|0=>0|53=>157|37=>103|5=>5|173=>229|212=>243|51=>155|20=>20|213=>244|46=>120|232=>283|233=>284|n=>n,fun|17=>9|18=>14|19=>15|n=>n⟩
theorem Tryz.lays171:Go.Proofs.Lays.n171 Tryz.prog Tryz.lays171_ren:={
 mixed:=by kernel_rfl
 f129:=Tryz.func117.trans (congrArg some (by kernel_rfl))
 f171:=Tryz.func119.trans (congrArg some (by kernel_rfl))
 f243:=Tryz.func153.trans (congrArg some (by kernel_rfl))
 f246:=Tryz.func181.trans (congrArg some (by kernel_rfl))
 f283:=Tryz.func199.trans (congrArg some (by kernel_rfl))
 f284:=Tryz.func200.trans (congrArg some (by kernel_rfl))
 f285:=Tryz.func201.trans (congrArg some (by kernel_rfl))
 f286:=Tryz.func202.trans (congrArg some (by kernel_rfl))
 f317:=Tryz.func219.trans (congrArg some (by kernel_rfl))
 f318:=Tryz.func220.trans (congrArg some (by kernel_rfl))
 f319:=Tryz.func221.trans (congrArg some (by kernel_rfl))
 f320:=Tryz.func222.trans (congrArg some (by kernel_rfl))
 f337:=Tryz.func240.trans (congrArg some (by kernel_rfl))
 f338:=Tryz.func241.trans (congrArg some (by kernel_rfl))
 t0:=Tryz.underlying0
 a0:=Tryz.isAgg0
 z0:=Tryz.sizeOf0
 v0:=Tryz.zeroValue0
 t2:=Tryz.underlying2
 a2:=Tryz.isAgg2
 z2:=Tryz.sizeOf2
 v2:=Tryz.zeroValue2
 t3:=Tryz.underlying3
 a3:=Tryz.isAgg3
 z3:=Tryz.sizeOf3
 v3:=Tryz.zeroValue3
 t4:=Tryz.underlying4
 a4:=Tryz.isAgg4
 z4:=Tryz.sizeOf4
 v4:=Tryz.zeroValue4
 t5:=Tryz.underlying5
 a5:=Tryz.isAgg5
 z5:=Tryz.sizeOf5
 v5:=Tryz.zeroValue5
 t9:=Tryz.underlying9
 a9:=Tryz.isAgg9
 z9:=Tryz.sizeOf9
 v9:=Tryz.zeroValue9
 t20:=Tryz.underlying20
 a20:=Tryz.isAgg20
 z20:=Tryz.sizeOf20
 v20:=Tryz.zeroValue20
 t37:=Tryz.underlying103
 a37:=Tryz.isAgg103
 z37:=Tryz.sizeOf103
 v37:=Tryz.zeroValue103
 t46:=Tryz.underlying120
 a46:=Tryz.isAgg120
 z46:=Tryz.sizeOf120
 v46:=Tryz.zeroValue120
 t51:=Tryz.underlying155
 a51:=Tryz.isAgg155
 z51:=Tryz.sizeOf155
 v51:=Tryz.zeroValue155
 t53:=Tryz.underlying157
 a53:=Tryz.isAgg157
 z53:=Tryz.sizeOf157
 v53:=Tryz.zeroValue157
 t171:=Tryz.underlying227
 a171:=Tryz.isAgg227
 z171:=Tryz.sizeOf227
 v171:=Tryz.zeroValue227
 t173:=Tryz.underlying229
 a173:=Tryz.isAgg229
 z173:=Tryz.sizeOf229
 v173:=Tryz.zeroValue229
 t212:=Tryz.underlying243
 a212:=Tryz.isAgg243
 z212:=Tryz.sizeOf243
 v212:=Tryz.zeroValue243
 t213:=Tryz.underlying244
 a213:=Tryz.isAgg244
 z213:=Tryz.sizeOf244
 t232:=Tryz.underlying283
 a232:=Tryz.isAgg283
 z232:=Tryz.sizeOf283
 v232:=Tryz.zeroValue283
 t233:=Tryz.underlying284
 a233:=Tryz.isAgg284
 z233:=Tryz.sizeOf284
 v233:=Tryz.zeroValue284
 g17:=by kernel_rfl
 g18:=by kernel_rfl
 g19:=by kernel_rfl }
open Go.RowKit Go.Sort Go.Lib in
theorem Tryz.strconv_Itoa_small(i:Nat)(hi:i<100)(w:World):
  Calls Tryz.prog 119 #[.int .i64 i] w fun e w'=>e= .returned (.string ⟨(Lib.decDigits i).toArray⟩)∧w'=w:=Any.strconv_Itoa_small Tryz.lays171 i hi w
end Go.Proofs
