import Derived.Test.YtpeafgddbbojaaaGreatDoorJqAA
import Derived.Test.YtpeafgddbbojaaaGreatDoorJqAE
import Derived.BigQuiet
import Derived.Deep.DeepCutAuto
import Derived.Test.YtpeafgddbbojaaaGreatDoorJqAC
import Derived.Deep.Slices
import Derived.Test.YtpeafgddbbojaaaGreatDoorJqAB
import Derived.Lib.Strings
import Derived.Lib.IndexBytes
import Derived.Lib.Join
import Derived.Lib.IndexLaws
import Derived.Lib.Atoi
import Derived.Lay
import Derived.WideKeyArgs
namespace Go.Proofs.YtpeafgddbbojaaaGreatDoor
open Go Go.RowKit Go.Maps Go.Sort Cal
attribute [local go_sem] Oper.semAt_some
def Txs(W:World)(v:Value)(l:List ByteArray):Prop:=
 ∃ (a:Option Addr) (c:Nat),v= .slice a l.length c∧l.length≤80000∧l.length≤c∧
  ∀ (j:Nat) (h:j<l.length),∃ b:Nat,a=some ⟨b,0,none⟩∧b<W.heap.size∧W.cell? ⟨b,j,none⟩=some (.string l[j])
theorem Txs.step{w w':World}{sl:Value}{xs:List ByteArray}(h:Txs w sl xs)(hb:Below w.heap.size w w'):Txs w' sl xs:=by
 obtain ⟨a,c,h1,h2,h3,h4⟩:=h
 refine ⟨a,c,h1,h2,h3,fun j hj=> ?_⟩
 obtain ⟨b,e,hl,hc⟩:=h4 j hj
 exact ⟨b,e,Nat.lt_of_lt_of_le hl hb.size,(hb.cell (p:=⟨b,j,none⟩) hl).trans hc⟩
theorem RowV.txs{base:Nat}{W:World}{v:Value}{l:List ByteArray}(h:RowV base W v l)(h8:l.length≤80000):Txs W v l:=by
 rcases h with ⟨rfl,rfl⟩|⟨B,cap,rfl,_,h3⟩
 ·exact ⟨none,0,rfl,by simp,by simp,fun j h=>absurd h (by simp)⟩
 ·exact ⟨_,cap,rfl,h8,h3.le,fun j hj=>⟨B,rfl,h3.lt,h3.cell j hj⟩⟩
theorem zgT{x y:ByteArray}(h:y≠x):(y.toList==x.toList)=false:=by
 rw [beq_eq_false_iff_ne,ByteArray.toList_eq,ByteArray.toList_eq]
 intro e
 apply h
 cases x;cases y
 simpa [Array.toList_inj] using e
theorem zdY(a b:Option Addr)(ca cb:Nat)(w:World):
  Calls Tryz.prog 14 #[.slice a 0 ca,.slice b 0 cb] w fun e w'=>e= .returned (.bool true)∧Below w.heap.size w w':=by
 go_enter Tryz.func14,Tryz.ntmps14
 go_wp2
 go_loop [5] (fun i=>i= .int .i64 0) (fun _=>0)
 case atStart=>rfl
 case round=>
  subst hrel
  go_wp2
  go_ret
  exact ⟨rfl,Below.refl _ _⟩
theorem zdZ(ba bb n ca cb:Nat)(z:Nat→ByteArray)(w:World)(hn:n≤100000)(ha: ∀ i,i<n→w.cell? ⟨ba,i,none⟩=some (.string (z i)))(hb: ∀ i,i<n→w.cell? ⟨bb,i,none⟩=some (.string (z i))):
  Calls Tryz.prog 14 #[.slice (some ⟨ba,0,none⟩) n ca,.slice (some ⟨bb,0,none⟩) n cb] w fun e w'=>e= .returned (.bool true)∧Below w.heap.size w w':=by
 have HA:=hid ha
 have HB:=hid hb
 clear ha hb
 go_enter Tryz.func14,Tryz.ntmps14
 go_wp2
 go_loopw [5] (fun i wr=> ∃ k q:Nat,k≤n∧i= .int .i64 k∧wr=w.drewN q) (fun i _=>n - (intOf i).toNat)
 case atStart=>exact ⟨0,0,Nat.zero_le _,rfl,rfl⟩
 case round=>
  obtain ⟨k,q,hk,rfl,rfl⟩:=hrel
  by_cases hlt:k<n
  ·have h1:=HA.out k hlt
   have h2:=HB.out k hlt
   go_wp2
   go_quiet (fail)
   go_wp2
   go_roundw
   case rel=>exact ⟨k+1,_,by omega,by go_num,rfl⟩
   case measure=>simp [intOf];omega
  ·go_wp2
   go_ret
   exact ⟨rfl,zN _ _⟩
theorem zaE{W:World}{v1 v2:Value}{l:List ByteArray}(h1:Txs W v1 l)(h2:Txs W v2 l):Calls Tryz.prog 14 #[v1,v2] W fun e w'=>e= .returned (.bool true)∧Below W.heap.size W w':=by
 obtain ⟨a1,c1,rfl,h8,_,hc1⟩:=h1
 obtain ⟨a2,c2,rfl,_,_,hc2⟩:=h2
 by_cases h0:l.length=0
 ·rw [h0];exact zdY a1 a2 c1 c2 W
 ·obtain ⟨b1,rfl,_⟩:=hc1 0 (by omega)
  obtain ⟨b2,rfl,_⟩:=hc2 0 (by omega)
  refine zdZ b1 b2 l.length c1 c2 (fun i=>l.getD i ⟨#[]⟩) W (by omega) (fun i hi=> ?_) (fun i hi=> ?_)
  ·obtain ⟨b,e,_,hc⟩:=hc1 i hi
   cases e
   rw [hc,List.getD_eq_getElem?_getD,List.getElem?_eq_getElem hi];rfl
  ·obtain ⟨b,e,_,hc⟩:=hc2 i hi
   cases e
   rw [hc,List.getD_eq_getElem?_getD,List.getElem?_eq_getElem hi];rfl
set_option maxHeartbeats 1000000 in
theorem zdg(x:ByteArray)(d:Int)(w:World):Calls Tryz.prog 13 #[.string x,.int .i64 d] w fun r w'=>r= .returned (ev ⟨x,⟨#[]⟩,d,1,⟨#[111,110,99,101]⟩,1,[],0,-1,[],[]⟩ (.slice none 0 0) (.slice none 0 0) (.slice none 0 0))∧Below w.heap.size w w':=by
 unfold ev
 go_enter Tryz.func13,Tryz.ntmps13
 go_wp2
 have n10:=zJ (W:=w) (.cells #[.string x,.string ⟨#[]⟩,.int .i64 d,.int .i64 1,.string ⟨#[111,110,99,101]⟩,.int .i64 1,.slice none 0 0,.int .i64 0,.int .i64 (-1),.slice none 0 0,.slice none 0 0] 48) rfl
 obtain ⟨c0,c1,c2,c3,c4,c5,c6,c7,c8,c9,c10⟩:=zK n10
 refine bodyPost_ret (v:= .agg #[.string x,.string ⟨#[]⟩,.int .i64 d,.int .i64 1,.string ⟨#[111,110,99,101]⟩,.int .i64 1,.slice none 0 0,.int .i64 0,.int .i64 (-1),.slice none 0 0,.slice none 0 0]) (by simp [results,Tryz.f13,go_sem,c0,c1,c2,c3,c4,c5,c6,c7,c8,c9,c10]) rfl ⟨rfl,zC _ _⟩
def E7:EV:=⟨⟨#[97]⟩,⟨#[]⟩,7,1,⟨#[111,110,99,101]⟩,1,[],0,-1,[],[]⟩
theorem zd0:EW E7:=by
 refine ⟨⟨fun j h=> ?_,by decide,by decide⟩,⟨fun j h=> ?_,by decide⟩,⟨by decide,by decide⟩,zkr,by decide⟩
 ·have h':j<1:=h
  match j,h' with
  |0,_=>show okc 97;left;decide
 ·exact absurd h (Nat.not_lt_zero _)
def Z0:EV:=⟨⟨#[]⟩,⟨#[]⟩,0,0,⟨#[]⟩,0,[],0,0,[],[]⟩
theorem zne:EvK E7 0:=by
 obtain ⟨k,hk⟩:=vV E7
 have:=(jM hk).2 zd0
 rwa [this] at hk
theorem ji{w W w':World}{bb:Nat}{mo:Option Nat}(hb:Below w.heap.size w W)(h:Kept W w' bb mo):Kept w w' bb mo:=
 ⟨h.os.trans hb.os,h.tape.trans hb.tape,h.output.trans hb.output,Nat.le_trans hb.size h.size,fun k hk h1 h2=>(h.block k (Nat.lt_of_lt_of_le hk hb.size) h1 h2).trans (hb.block k hk)⟩
end Go.Proofs.YtpeafgddbbojaaaGreatDoor
namespace Go.Proofs.YtpeafgddbbojaaaGreatDoor
open Go Go.RowKit Go.Maps Cal
attribute [local go_sem] Oper.semAt_some
structure EvAt(W:World)(b o:Nat)(E:EV)(sl skv mvv:Value):Prop where
 c0:W.cell? ⟨b,o,none⟩=some (.string E.id)
 c1:W.cell? ⟨b,o+1,none⟩=some (.string E.ti)
 c2:W.cell? ⟨b,o+2,none⟩=some (.int .i64 E.st)
 c3:W.cell? ⟨b,o+3,none⟩=some (.int .i64 E.lg)
 c4:W.cell? ⟨b,o+4,none⟩=some (.string E.f)
 c5:W.cell? ⟨b,o+5,none⟩=some (.int .i64 E.e)
 c6:W.cell? ⟨b,o+6,none⟩=some sl
 c7:W.cell? ⟨b,o+7,none⟩=some (.int .i64 E.c)
 c8:W.cell? ⟨b,o+8,none⟩=some (.int .i64 E.u)
 c9:W.cell? ⟨b,o+9,none⟩=some skv
 c10:W.cell? ⟨b,o+10,none⟩=some mvv
theorem EvAt.step{W W':World}{b o:Nat}{E:EV}{sl skv mvv:Value}(h:EvAt W b o E sl skv mvv)(hb:Below W.heap.size W W'):EvAt W' b o E sl skv mvv:=
 ⟨zD h.c0 hb,zD h.c1 hb,zD h.c2 hb,zD h.c3 hb,zD h.c4 hb,zD h.c5 hb,zD h.c6 hb,zD h.c7 hb,zD h.c8 hb,zD h.c9 hb,zD h.c10 hb⟩
structure EvA(W:World)(A:Addr)(E:EV)(sl skv mvv:Value):Prop where
 c0:W.cell? A=some (.string E.id)
 c1:W.cell? ⟨A.block,A.off+1,none⟩=some (.string E.ti)
 c2:W.cell? ⟨A.block,A.off+2,none⟩=some (.int .i64 E.st)
 c3:W.cell? ⟨A.block,A.off+3,none⟩=some (.int .i64 E.lg)
 c4:W.cell? ⟨A.block,A.off+4,none⟩=some (.string E.f)
 c5:W.cell? ⟨A.block,A.off+5,none⟩=some (.int .i64 E.e)
 c6:W.cell? ⟨A.block,A.off+6,none⟩=some sl
 c7:W.cell? ⟨A.block,A.off+7,none⟩=some (.int .i64 E.c)
 c8:W.cell? ⟨A.block,A.off+8,none⟩=some (.int .i64 E.u)
 c9:W.cell? ⟨A.block,A.off+9,none⟩=some skv
 c10:W.cell? ⟨A.block,A.off+10,none⟩=some mvv
theorem ziR{W:World}{A:Addr}{u:Value}(h:W.cell? A=some u):A.block<W.heap.size:=by
 rcases Nat.lt_or_ge A.block W.heap.size with q|q
 ·exact q
 ·simp [World.cell?,Array.getElem?_eq_none q] at h
theorem zj{W W':World}{A:Addr}{u:Value}(h:W.cell? A=some u)(hb:Below W.heap.size W W'):W'.cell? A=some u:=(World.cell?_of_block (a:=A) (hb.block _ (ziR h))).trans h
theorem EvA.step{W W':World}{A:Addr}{E:EV}{sl skv mvv:Value}(h:EvA W A E sl skv mvv)(hb:Below W.heap.size W W'):EvA W' A E sl skv mvv:=
 ⟨zj h.c0 hb,zj h.c1 hb,zj h.c2 hb,zj h.c3 hb,zj h.c4 hb,zj h.c5 hb,zj h.c6 hb,zj h.c7 hb,zj h.c8 hb,zj h.c9 hb,zj h.c10 hb⟩
def EvsL(W:World)(v:Value)(Es:List EV):Prop:=
 ∃ (a:Option Addr) (c:Nat),v= .slice a Es.length c∧Es.length≤1000000000000000∧Es.length≤c∧
  ∀ (j:Nat) (h:j<Es.length),∃ ad:Addr,a=some ad∧Es[j].sk.length≤1000000000000000∧Es[j].mv.length≤1000000000000000∧Es[j].ti.size≤1000000000000000∧ ∃ ra rc sa sc ma mc,EvA W (ad.add (j*11)) Es[j] (.slice ra Es[j].ds.length rc) (.slice sa Es[j].sk.length sc) (.slice ma Es[j].mv.length mc)∧
   Got W (.slice ra Es[j].ds.length rc) Es[j].ds∧Got W (.slice sa Es[j].sk.length sc) Es[j].sk∧GotM W (.slice ma Es[j].mv.length mc) Es[j].mv
theorem EvsL.step{W W':World}{v:Value}{Es:List EV}(h:EvsL W v Es)(hb:Below W.heap.size W W'):EvsL W' v Es:=by
 obtain ⟨a,c,h1,h2,h3,h4⟩:=h
 refine ⟨a,c,h1,h2,h3,fun j hj=> ?_⟩
 obtain ⟨ad,q1,q2,q3,q4,ra,rc,sa,sc,ma,mc,q5,q6,q7,q8⟩:=h4 j hj
 exact ⟨ad,q1,q2,q3,q4,ra,rc,sa,sc,ma,mc,q5.step hb,q6.step hb,q7.step hb,q8.step hb⟩
theorem zlC(E:EV):zaV E=0∨zaV E=1:=by
 unfold zaV
 split
 ·exact .inr rfl
 ·exact .inl rfl
set_option maxHeartbeats 4000000 in
set_option maxRecDepth 100000 in
theorem zbB(Es:List EV)(v:Value)(w:World)(h:EvsL w v Es):
  Calls Tryz.prog 5 #[v] w fun r w'=> ∃ k:Int,r= .returned (.int .i64 k)∧(k=1∨(k=0∧Es.length≤70∧ ∀ E∈Es,zaV E=0))∧Below w.heap.size w w':=by
 obtain ⟨a,cap,rfl,hl,hcap,hc⟩:=h
 have HC:Hid (_):=hc
 clear hc
 by_cases h70:70<Es.length
 ·go_enter Tryz.func5,Tryz.ntmps5
  go_wp2
  go_ret
  exact ⟨1,rfl,.inl rfl,Below.refl _ _⟩
 ·go_enter Tryz.func5,Tryz.ntmps5
  go_wp2
  go_loopw [3,4] (fun n i wr=> ∃ (m:Nat) (t:Int),m≤Es.length∧i= .int .i64 m∧n= .int .i64 t∧0≤t∧t≤1500∧Hid (Below w.heap.size w wr)∧Hid (∀ (j:Nat) (h:j<Es.length),j<m→zaV Es[j]=0)) (fun _ i _=>Es.length - (intOf i).toNat)
  case atStart=>exact ⟨0,0,Nat.zero_le _,rfl,rfl,by omega,by omega,Below.refl _ _,fun j _ h=>absurd h (Nat.not_lt_zero _)⟩
  case round=>
   obtain ⟨m,t,hm,rfl,rfl,ht0,ht1,hB,HA⟩:=hrel
   by_cases hlt:m<Es.length
   ·obtain ⟨ad,rfl,k1,k2,k3,ra,rc,sa,sc,ma,mc,hE,_,_,_⟩:=HC.out m hlt
    have HN:Hid (zaV Es[m]=0→ ∀ (j:Nat) (h:j<Es.length),j<m+1→zaV Es[j]=0):=fun q j hj hjk=>by
     by_cases ej:j=m
     ·subst ej;exact q
     ·exact HA.out j hj (by omega)
    have LE:Hid (∀ W,Calls Tryz.prog 16 #[ev Es[m] (.slice ra Es[m].ds.length rc) (.slice sa Es[m].sk.length sc) (.slice ma Es[m].mv.length mc)] W fun r w'=>r= .returned (.int .i64 (zaV Es[m]))∧Below W.heap.size W w'):=fun W=>zcs _ _ _ _ _ _ _ W
    have hE2:=hE.step hB.out
    clear HA HC hE
    generalize Es[m]=E at k1 k2 k3 hE2 HN LE
    obtain ⟨x0,x1,x2,x3,x4,x5,x6,x7,x8,x9,x10⟩:=hE2
    unfold ev at LE
    go_wp2_with fail
    go_quiet (fail)
    rcases zlC E with hz|hz
    ·have HN':Hid (_):=HN.out hz
     rw [hz] at LE
     clear HN hz
     by_cases hs:(1500:Int)<t+(E.sk.length:Int)+(E.mv.length:Int)+(E.ti.size:Int)
     ·go_wp2_with (go_at_call 16;refine Calls.mono (LE.out _) ?_;rintro r w5 ⟨rfl,hb5⟩)
      go_ret
      exact ⟨1,rfl,.inl rfl,zB (zB hB.out (zN _ _)) hb5⟩
     ·go_wp2_with (go_at_call 16;refine Calls.mono (LE.out _) ?_;rintro r w5 ⟨rfl,hb5⟩)
      go_roundw
      case rel=>exact ⟨m+1,t+(E.sk.length:Int)+(E.mv.length:Int)+(E.ti.size:Int),by omega,by go_num,by go_num,by omega,by omega,zB (zB hB.out (zN _ _)) hb5,HN'.out⟩
      case measure=>simp [intOf];omega
    ·rw [hz] at LE
     clear HN hz
     go_wp2_with (go_at_call 16;refine Calls.mono (LE.out _) ?_;rintro r w5 ⟨rfl,hb5⟩)
     go_ret
     exact ⟨1,rfl,.inl rfl,zB (zB hB.out (zN _ _)) hb5⟩
   ·have HR:Hid (∀ E∈Es,zaV E=0):=fun E hE=>by
     obtain ⟨j,hj,rfl⟩:=List.mem_iff_getElem.1 hE
     exact HA.out j hj (by omega)
    clear HA HC
    go_wp2
    go_ret
    exact ⟨0,rfl,.inr ⟨rfl,by omega,HR.out⟩,hB.out⟩
end Go.Proofs.YtpeafgddbbojaaaGreatDoor
namespace Go.Proofs.YtpeafgddbbojaaaGreatDoor
open Go.ChangeShapes Go.WideShapes Go.ChangeAt Go.RowKit Cal
section
variable {H : Type} {enc : TypeId × Value → H} {W : World}
theorem znk:Tryz.prog.bytesOf 3=8:=by kernel_rfl
theorem zm0:Tryz.prog.bytesOf 114=16:=by kernel_rfl
theorem zl4:Tryz.prog.bytesOf 48=160:=by kernel_rfl
theorem zbi{P:Program}{e:TypeId}: ∀ {l:List (DataW H)} {d:DataW H},d∈l→ ∀ n∈d.weights P e,n∈DataW.weightsAll P e l
 |x::r,d,hd,n,hn=>by
  rw [DataW.weightsAll,List.mem_append]
  rcases List.mem_cons.1 hd with rfl|hd
  ·exact .inl hn
  ·exact .inr (zbi hd n hn)
 |[],_,hd,_,_=>absurd hd (by simp)
theorem zbj{t e:TypeId}{fuel:Nat}{a:Option Addr}{n c:Nat}{x:DataW H×List MemPlace}(ht:Tryz.prog.underlying t=some (.slice e))(hb:1≤Tryz.prog.bytesOf e)
  (h:DataW.trod enc Tryz.prog W 0 (fun _=>true) true fuel t [.slice a n c]=some x) (hw: ∀ k∈x.1.weights Tryz.prog t,k≤reachBytes):n≤1000000000000000:=by
 rcases Deep.open_slice ht h with ⟨e1,_⟩|⟨a',len,cap,m,k,D,Pl,e1,_,hlc,_,_,rfl,_⟩
 ·cases e1;omega
 ·cases e1
  have h1:=hw _ (show (((List.range n).map D).length+((List.range (m - n)).map fun j=>D (n+j)).length)*Tryz.prog.bytesOf e∈_ by simp [DataW.weights,ht])
  have h2:n≤(((List.range n).map D).length+((List.range (m - n)).map fun j=>D (n+j)).length)*Tryz.prog.bytesOf e:=by
   rw [List.length_map,List.length_range]
   exact Nat.le_trans (Nat.le_add_right _ _) (Nat.le_mul_of_pos_right _ hb)
  have h3:=reachBytes_lt
  omega
set_option maxRecDepth 100000 in
theorem zaP{fuel:Nat}{c0 c1 c2 c3 c4 c5 c6 c7 c8 c9 c10:Value}{x:DataW H×List MemPlace}
  (hf:DataW.trod enc Tryz.prog W 0 (fun _=>true) true fuel 48 [c0,c1,c2,c3,c4,c5,c6,c7,c8,c9,c10]=some x) (hw: ∀ k∈x.1.weights Tryz.prog 48,k≤reachBytes):
  ∃ (E:EV) (ra:Option Addr) (rc:Nat) (sa:Option Addr) (sc:Nat) (ma:Option Addr) (mc:Nat),[c0,c1,c2,c3,c4,c5,c6,c7,c8,c9,c10]=[.string E.id,.string E.ti,.int .i64 E.st,.int .i64 E.lg,.string E.f,.int .i64 E.e,.slice ra E.ds.length rc,.int .i64 E.c,.int .i64 E.u,.slice sa E.sk.length sc,.slice ma E.mv.length mc]∧
   Got W (.slice ra E.ds.length rc) E.ds∧Got W (.slice sa E.sk.length sc) E.sk∧GotM W (.slice ma E.mv.length mc) E.mv∧E.sk.length≤1000000000000000∧E.mv.length≤1000000000000000∧E.ti.size≤1000000000000000:=by
 obtain ⟨xs,n,_,hx,hl,hlen,hfl⟩:=DataW.trod_struct Tryz.underlying48 hf
 have h0:=hfl 0 _ rfl
 have h1:=hfl 1 _ rfl
 have h2:=hfl 2 _ rfl
 have h3:=hfl 3 _ rfl
 have h4:=hfl 4 _ rfl
 have h5:=hfl 5 _ rfl
 have h6:=hfl 6 _ rfl
 match xs,hlen with
 |[y0,y1,y2,y3,y4,y5,y6],_=>
 have hwt:x.1.weights Tryz.prog 48=DataW.weightsEach Tryz.prog [9,9,3,3,45,43,46] [y0.1,y1.1,y2.1,y3.1,y4.1,y5.1,y6.1]:=by
  rw [hx]
  simp [DataW.weights,Tryz.underlying48]
 have w1: ∀ k∈y1.1.weights Tryz.prog 9,k≤reachBytes:=fun k hk=>hw k (by rw [hwt];exact DataW.weights_mem_each (j:=1) rfl rfl k hk)
 have w5: ∀ k∈y5.1.weights Tryz.prog 43,k≤reachBytes:=fun k hk=>hw k (by rw [hwt];exact DataW.weights_mem_each (j:=5) rfl rfl k hk)
 have w6: ∀ k∈y6.1.weights Tryz.prog 46,k≤reachBytes:=fun k hk=>hw k (by rw [hwt];exact DataW.weights_mem_each (j:=6) rfl rfl k hk)
 simp [zmJ,zlY,zlZ,zmS,zl3] at h0 h1 h2 h3 h4 h5 h6
 obtain ⟨xs',n',_,_,hl',hlen',hfl'⟩:=DataW.trod_struct Tryz.underlying45 h4
 have k0:=hfl' 0 _ rfl
 have k1:=hfl' 1 _ rfl
 have k2:=hfl' 2 _ rfl
 have k3:=hfl' 3 _ rfl
 have k4:=hfl' 4 _ rfl
 match xs',hlen' with
 |[z0,z1,z2,z3,z4],_=>
 simp [zmJ,zlY,zlZ] at k0 k1 k2 k3 k4
 obtain ⟨id,e0,_,_⟩:=DataW.trod_string Tryz.underlying9 h0
 obtain ⟨ti,e1,ey1,_⟩:=DataW.trod_string Tryz.underlying9 h1
 obtain ⟨st,e2,_,_⟩:=DataW.trod_int Tryz.underlying3 h2
 obtain ⟨lg,e3,_,_⟩:=DataW.trod_int Tryz.underlying3 h3
 obtain ⟨f,g0,_,_⟩:=DataW.trod_string Tryz.underlying9 k0
 obtain ⟨e,g1,_,_⟩:=DataW.trod_int Tryz.underlying3 k1
 obtain ⟨c,g3,_,_⟩:=DataW.trod_int Tryz.underlying3 k3
 obtain ⟨u,g4,_,_⟩:=DataW.trod_int Tryz.underlying3 k4
 obtain ⟨ds,D⟩:=zfj k2
 obtain ⟨sk,S⟩:=zfj h5
 obtain ⟨mv,M⟩:=zhn h6
 cases e0
 cases e1
 cases e2
 cases e3
 cases g0
 cases g1
 cases g3
 cases g4
 obtain ⟨ra,rc,rfl,D'⟩:=D
 obtain ⟨sa,sc,rfl,S'⟩:=S
 obtain ⟨ma,mc,rfl,M'⟩:=M
 have b5:=zbj Tryz.underlying43 (by rw [znk];decide) h5 w5
 have b6:=zbj Tryz.underlying46 (by rw [zm0];decide) h6 w6
 have b1:ti.size≤1000000000000000:=by
  have h1:=w1 ti.data.toList.length (by rw [ey1];simp [DataW.weights])
  have h3:=reachBytes_lt
  have h2:ti.data.toList.length=ti.size:=by simp
  omega
 exact ⟨⟨id,ti,st,lg,f,e,ds,c,u,sk,mv⟩,ra,rc,sa,sc,ma,mc,rfl,⟨_,_,rfl,D'⟩,⟨_,_,rfl,S'⟩,⟨_,_,rfl,M'⟩,b5,b6,b1⟩
instance:Inhabited EV:=⟨⟨⟨#[]⟩,⟨#[]⟩,0,0,⟨#[]⟩,0,[],0,0,[],[]⟩⟩
theorem zl5{l:List Value}(h:l.length=11): ∃ c0 c1 c2 c3 c4 c5 c6 c7 c8 c9 c10,l=[c0,c1,c2,c3,c4,c5,c6,c7,c8,c9,c10]:=by
 match l,h with
 |[a,b,c,d,e,f,g,h,i,j,k],_=>exact ⟨a,b,c,d,e,f,g,h,i,j,k,rfl⟩
theorem zkG(a:Addr)(k:Nat)(hk:k≠0):a.add k=⟨a.block,a.off+k,none⟩:=by
 unfold Addr.add
 rw [if_neg hk]
set_option maxRecDepth 100000 in
theorem jQ{fuel:Nat}{v:Value}{x:DataW H×List MemPlace}(h:DataW.trod enc Tryz.prog W 0 (fun _=>true) true fuel 22 [v]=some x)(hw: ∀ k∈x.1.weights Tryz.prog 22,k≤reachBytes): ∃ Es:List EV,EvsL W v Es:=by
 have h':=h
 rcases Deep.open_slice Tryz.underlying22 h with ⟨e1,_⟩|⟨a,len,cap,m,n,D,Pl,e1,_,hlc,_,hm,hx,he⟩
 ·cases e1
  exact ⟨[],none,0,rfl,by simp,by simp,fun j hj=>absurd hj (by simp)⟩
 ·cases e1
  have hbl:=zbj Tryz.underlying22 (by rw [zl4];decide) h' hw
  have hm':m=cap:=by simpa using hm
  have each: ∀ i,i<len→ ∃ E:EV,E.sk.length≤1000000000000000∧E.mv.length≤1000000000000000∧E.ti.size≤1000000000000000∧ ∃ ra rc sa sc ma mc,EvA W (a.add (i*11)) E (.slice ra E.ds.length rc) (.slice sa E.sk.length sc) (.slice ma E.mv.length mc)∧
    Got W (.slice ra E.ds.length rc) E.ds∧Got W (.slice sa E.sk.length sc) E.sk∧GotM W (.slice ma E.mv.length mc) E.mv:=by
   intro i hi
   obtain ⟨cs,q1,q2⟩:=he i (by omega)
   rw [zl2] at q1
   obtain ⟨_,hlen,hcell⟩:=World.cells?_some q1
   obtain ⟨c0,c1,c2,c3,c4,c5,c6,c7,c8,c9,c10,rfl⟩:=zl5 hlen
   have hwi: ∀ k∈(D i).weights Tryz.prog 48,k≤reachBytes:=fun k hk=>hw k (by
    rw [hx]
    simp only [DataW.weights,Tryz.underlying22,List.mem_cons,List.mem_append]
    exact .inr (.inl (zbi (List.mem_map.2 ⟨i,List.mem_range.2 hi,rfl⟩) k hk)))
   obtain ⟨E,ra,rc,sa,sc,ma,mc,hc,d1,d2,d3,b1,b2,b3⟩:=zaP q2 hwi
   have A: ∀ k,k<11→k≠0→W.cell? ⟨(a.add (i*11)).block,(a.add (i*11)).off+k,none⟩=[c0,c1,c2,c3,c4,c5,c6,c7,c8,c9,c10][k]? :=fun k hk h0=>by
    rw [←zkG _ _ h0,hcell k hk]
   have A0:W.cell? (a.add (i*11))=[c0,c1,c2,c3,c4,c5,c6,c7,c8,c9,c10][0]? :=by
    have:=hcell 0 (by decide)
    rwa [show (a.add (i*11)).add 0=a.add (i*11) from rfl] at this
   rw [hc] at A0
   refine ⟨E,b1,b2,b3,ra,rc,sa,sc,ma,mc,⟨A0,?_,?_,?_,?_,?_,?_,?_,?_,?_,?_⟩,d1,d2,d3⟩
   ·have:=A 1 (by decide) (by decide);rwa [hc] at this
   ·have:=A 2 (by decide) (by decide);rwa [hc] at this
   ·have:=A 3 (by decide) (by decide);rwa [hc] at this
   ·have:=A 4 (by decide) (by decide);rwa [hc] at this
   ·have:=A 5 (by decide) (by decide);rwa [hc] at this
   ·have:=A 6 (by decide) (by decide);rwa [hc] at this
   ·have:=A 7 (by decide) (by decide);rwa [hc] at this
   ·have:=A 8 (by decide) (by decide);rwa [hc] at this
   ·have:=A 9 (by decide) (by decide);rwa [hc] at this
   ·have:=A 10 (by decide) (by decide);rwa [hc] at this
  obtain ⟨q,hq⟩:=Deep.choose_lt each
  refine ⟨(List.range len).map q,some a,cap,by simp,by simpa using hbl,by simpa using hlc,fun j hj=> ?_⟩
  have hj':j<len:=by simpa using hj
  have e5:((List.range len).map q)[j]=q j:=by simp
  obtain ⟨b1,b2,b3,ra,rc,sa,sc,ma,mc,hA,d1,d2,d3⟩:=hq j hj'
  rw [e5]
  exact ⟨a,rfl,b1,b2,b3,ra,rc,sa,sc,ma,mc,hA,d1,d2,d3⟩
end
end Go.Proofs.YtpeafgddbbojaaaGreatDoor
namespace Go.Proofs.YtpeafgddbbojaaaGreatDoor
open Go.RowKit Cal
structure Env(ev:Addr)(w:World):Prop where
 bound:w.cell? ⟨4,0,none⟩=some (.iface 269 (.pointer (some ev)))
 tab:Tab w
theorem Env.step{ev:Addr}{w w':World}(g:Env ev w)(hb:Below w.heap.size w w'):Env ev w':=
 ⟨by rw [hb.cell (p:=⟨4,0,none⟩) (xI g.bound)];exact g.bound,g.tab.step hb⟩
end Go.Proofs.YtpeafgddbbojaaaGreatDoor
namespace Go.Proofs.YtpeafgddbbojaaaGreatDoor.Cal
open Go
def sgn(j:Nat)(c:UInt8):Prop:=if j=4∨j=7 then (c.toNat:Int)=45 else 48≤(c.toNat:Int)∧(c.toNat:Int)≤57
def zbN(l:List UInt8):Prop:= ∀ c∈l,48≤(c.toNat:Int)∧(c.toNat:Int)≤57
def val(l:List UInt8):Int:=l.foldl (fun a c=>a*10+((c.toNat:Int) - 48)) 0
def zj8(s:ByteArray):Prop:=s.size=10∧ ∀ (j:Nat) (h:j<s.size),sgn j s[j]
theorem za1{j:Nat}{c:UInt8}(h:j=4∨j=7):sgn j c↔(c.toNat:Int)=45:=by unfold sgn;rw [if_pos h]
theorem yB{j:Nat}{c:UInt8}(h: ¬ (j=4∨j=7)):sgn j c↔(48≤(c.toNat:Int)∧(c.toNat:Int)≤57):=by unfold sgn;rw [if_neg h]
theorem jC(l:List UInt8)(c:UInt8):val (l++[c])=val l*10+((c.toNat:Int) - 48):=by unfold val;rw [List.foldl_append];rfl
theorem vg(s:ByteArray)(k:Nat)(h:k<s.size):s.data.toList.take (k+1)=s.data.toList.take k++[s[k]]:=by
 rw [List.take_succ_eq_append_getElem (by simpa using h)];rfl
theorem zij{l:List UInt8}(h:zbN l)(k:Nat):zbN (l.take k):=fun c hc=>h c (List.mem_of_mem_take hc)
theorem zle{s:ByteArray}(h:zbN s.data.toList)(k:Nat)(hk:k<s.size):48≤(s[k].toNat:Int)∧(s[k].toNat:Int)≤57:=
 h _ (by show s.data[k]∈_;exact Array.getElem_mem_toList hk)
theorem zfA(l:List UInt8)(h:zbN l)(hl:l.length≤4):0≤val l∧val l≤9999:=by
 match l,hl with
 |[],_=>simp [val]
 |[a],_=>have:=h a (by simp);simp [val];omega
 |[a,b],_=>have:=h a (by simp);have:=h b (by simp);simp [val];omega
 |[a,b,c],_=>have:=h a (by simp);have:=h b (by simp);have:=h c (by simp);simp [val];omega
 |[a,b,c,d],_=>have:=h a (by simp);have:=h b (by simp);have:=h c (by simp);have:=h d (by simp);simp [val];omega
 |_::_::_::_::_::_,h=>simp at h
theorem ten{s:ByteArray}(h:s.size=10): ∃ c0 c1 c2 c3 c4 c5 c6 c7 c8 c9:UInt8,s=⟨#[c0,c1,c2,c3,c4,c5,c6,c7,c8,c9]⟩:=by
 obtain ⟨⟨l⟩⟩:=s
 have hl:l.length=10:=h
 match l,hl with
 |[c0,c1,c2,c3,c4,c5,c6,c7,c8,c9],_=>exact ⟨c0,c1,c2,c3,c4,c5,c6,c7,c8,c9,rfl⟩
theorem zgp{s:ByteArray}(h:zj8 s):zbN (s.extract 0 4).data.toList∧zbN (s.extract 5 7).data.toList∧zbN (s.extract 8 s.size).data.toList∧(s.extract 0 4).size=4∧(s.extract 5 7).size=2∧(s.extract 8 s.size).size=2:=by
 obtain ⟨h10,hall⟩:=h
 obtain ⟨c0,c1,c2,c3,c4,c5,c6,c7,c8,c9,rfl⟩:=ten h10
 have a0:=(yB (by omega)).1 (hall 0 (by rw [h10];omega))
 have a1:=(yB (by omega)).1 (hall 1 (by rw [h10];omega))
 have a2:=(yB (by omega)).1 (hall 2 (by rw [h10];omega))
 have a3:=(yB (by omega)).1 (hall 3 (by rw [h10];omega))
 have a5:=(yB (by omega)).1 (hall 5 (by rw [h10];omega))
 have a6:=(yB (by omega)).1 (hall 6 (by rw [h10];omega))
 have a8:=(yB (by omega)).1 (hall 8 (by rw [h10];omega))
 have a9:=(yB (by omega)).1 (hall 9 (by rw [h10];omega))
 refine ⟨?_,?_,?_,rfl,rfl,rfl⟩
 ·rw [Lib.extract_data];intro c hc
  have hc':c∈[c0,c1,c2,c3]:=hc
  simp only [List.mem_cons,List.not_mem_nil,or_false] at hc'
  rcases hc' with rfl|rfl|rfl|rfl
  ·exact a0
  ·exact a1
  ·exact a2
  ·exact a3
 ·rw [Lib.extract_data];intro c hc
  have hc':c∈[c5,c6]:=hc
  simp only [List.mem_cons,List.not_mem_nil,or_false] at hc'
  rcases hc' with rfl|rfl
  ·exact a5
  ·exact a6
 ·rw [Lib.extract_data];intro c hc
  have hc':c∈[c8,c9]:=hc
  simp only [List.mem_cons,List.not_mem_nil,or_false] at hc'
  rcases hc' with rfl|rfl
  ·exact a8
  ·exact a9
def yS(s:ByteArray):Int:=val (s.extract 0 4).data.toList
def mS(s:ByteArray):Int:=val (s.extract 5 7).data.toList
def dS(s:ByteArray):Int:=val (s.extract 8 s.size).data.toList
theorem xC(k:Int)(h0:0≤k)(h1:k≤9):((dgt k).toNat:Int)=48+k:=by rw [zeP k h0 h1];omega
theorem zcM(y m d:Int)(hy0:0≤y)(hy1:y≤9999)(hm0:0≤m)(hm1:m≤99)(hd0:0≤d)(hd1:d≤99):zj8 ⟨(txt y m d).toArray⟩:=by
 refine ⟨rfl,?_⟩
 have a0:=xC (y / 1000) (by omega) (by omega)
 have a1:=xC (y / 100 % 10) (by omega) (by omega)
 have a2:=xC (y / 10 % 10) (by omega) (by omega)
 have a3:=xC (y % 10) (by omega) (by omega)
 have a5:=xC (m / 10) (by omega) (by omega)
 have a6:=xC (m % 10) (by omega) (by omega)
 have a8:=xC (d / 10) (by omega) (by omega)
 have a9:=xC (d % 10) (by omega) (by omega)
 intro j hj
 have hj':j<10:=hj
 have key: ∀ i:Fin 10,sgn i.1 ((txt y m d)[i.1]'(by rw [xx];exact i.2)):=by
  intro i
  match i with
  |⟨0,_⟩=>show sgn 0 (dgt (y / 1000));rw [yB (by omega)];omega
  |⟨1,_⟩=>show sgn 1 (dgt (y / 100 % 10));rw [yB (by omega)];omega
  |⟨2,_⟩=>show sgn 2 (dgt (y / 10 % 10));rw [yB (by omega)];omega
  |⟨3,_⟩=>show sgn 3 (dgt (y % 10));rw [yB (by omega)];omega
  |⟨4,_⟩=>show sgn 4 45;rw [za1 (by omega)];rfl
  |⟨5,_⟩=>show sgn 5 (dgt (m / 10));rw [yB (by omega)];omega
  |⟨6,_⟩=>show sgn 6 (dgt (m % 10));rw [yB (by omega)];omega
  |⟨7,_⟩=>show sgn 7 45;rw [za1 (by omega)];rfl
  |⟨8,_⟩=>show sgn 8 (dgt (d / 10));rw [yB (by omega)];omega
  |⟨9,_⟩=>show sgn 9 (dgt (d % 10));rw [yB (by omega)];omega
 exact key ⟨j,hj'⟩
theorem zad(y m d:Int)(hy0:0≤y)(hy1:y≤9999)(hm0:0≤m)(hm1:m≤99)(hd0:0≤d)(hd1:d≤99):
  yS ⟨(txt y m d).toArray⟩=y∧mS ⟨(txt y m d).toArray⟩=m∧dS ⟨(txt y m d).toArray⟩=d:=by
 have a0:=xC (y / 1000) (by omega) (by omega)
 have a1:=xC (y / 100 % 10) (by omega) (by omega)
 have a2:=xC (y / 10 % 10) (by omega) (by omega)
 have a3:=xC (y % 10) (by omega) (by omega)
 have a5:=xC (m / 10) (by omega) (by omega)
 have a6:=xC (m % 10) (by omega) (by omega)
 have a8:=xC (d / 10) (by omega) (by omega)
 have a9:=xC (d % 10) (by omega) (by omega)
 refine ⟨?_,?_,?_⟩
 ·unfold yS;rw [Lib.extract_data]
  show val [dgt (y / 1000),dgt (y / 100 % 10),dgt (y / 10 % 10),dgt (y % 10)]=y
  simp only [val,List.foldl_cons,List.foldl_nil,a0,a1,a2,a3];omega
 ·unfold mS;rw [Lib.extract_data]
  show val [dgt (m / 10),dgt (m % 10)]=m
  simp only [val,List.foldl_cons,List.foldl_nil,a5,a6];omega
 ·unfold dS;rw [Lib.extract_data]
  show val [dgt (d / 10),dgt (d % 10)]=d
  simp only [val,List.foldl_cons,List.foldl_nil,a8,a9];omega
end Go.Proofs.YtpeafgddbbojaaaGreatDoor.Cal
namespace Go.Proofs.YtpeafgddbbojaaaGreatDoor.Cal
open Go
def zZ(c:UInt8):List UInt8→List (List UInt8)
 |[]=>[[]]
 |b::t=>if b=c then []::zZ c t else (match zZ c t with
  |[]=>[[b]]
  |h::r=>(b::h)::r)
theorem xU(c:UInt8): ∀ (s:List UInt8),c∉s→zZ c s=[s]
 |[],_=>rfl
 |b::t,h=>by
  have hb:b≠c:=fun e=>h (by rw [e];exact List.mem_cons_self)
  have ht:c∉t:=fun e=>h (List.mem_cons_of_mem _ e)
  rw [zZ,if_neg hb,xU c t ht]
theorem zaf(c:UInt8)(t:List UInt8): ∀ (a:List UInt8),c∉a→zZ c (a++c::t)=a::zZ c t
 |[],_=>by rw [List.nil_append,zZ,if_pos rfl]
 |b::a,h=>by
  have hb:b≠c:=fun e=>h (by rw [e];exact List.mem_cons_self)
  have ha:c∉a:=fun e=>h (List.mem_cons_of_mem _ e)
  rw [List.cons_append,zZ,if_neg hb,zaf c t a ha]
theorem xw(x y:List UInt8)(r:List (List UInt8))(sep:List UInt8):Lib.join (x::y::r) sep=x++(sep++Lib.join (y::r) sep):=by
 rw [Lib.join_cons,Lib.join_cons];simp [Lib.joinTail]
theorem yg(c:UInt8): ∀ (ws:List (List UInt8)),ws≠[]→(∀ x∈ws,c∉x)→zZ c (Lib.join ws [c])=ws
 |[],h,_=>absurd rfl h
 |[x],_,h=>by rw [Lib.join_one];exact xU c x (h x (by simp))
 |x::y::r,_,h=>by
  rw [xw,List.singleton_append,zaf c _ x (h x (by simp)),yg c (y::r) (by simp) (fun z hz=>h z (List.mem_cons_of_mem _ hz))]
theorem zaL{c:UInt8}{s:List UInt8}{i:Nat}(h:Lib.indexByte s c=i):zZ c s=s.take i::zZ c (s.drop (i+1)):=by
 obtain ⟨h1,h2⟩:=Lib.indexByte_some h
 obtain ⟨hi,h1'⟩:=List.getElem?_eq_some_iff.1 h1
 have e:s=s.take i++c::s.drop (i+1):=by
  have:=(List.take_append_drop i s).symm
  rw [List.drop_eq_getElem_cons hi,h1'] at this
  exact this
 have hn:c∉s.take i:=fun hm=>by
  obtain ⟨k,hk,he⟩:=List.mem_iff_getElem.1 hm
  have hk':k<i:=by rw [List.length_take] at hk;omega
  refine h2 k hk' ?_
  rw [List.getElem?_eq_some_iff]
  refine ⟨by omega,?_⟩
  rw [←he,List.getElem_take]
 conv=>lhs;rw [e]
 exact zaf c _ _ hn
theorem zeN{c:UInt8}{s:List UInt8}(h:Lib.indexByte s c= -1):zZ c s=[s]:=by
 refine xU c s (fun hm=> ?_)
 obtain ⟨k,hk,he⟩:=List.mem_iff_getElem.1 hm
 exact Lib.indexByte_none h k (by rw [List.getElem?_eq_some_iff];exact ⟨hk,he⟩)
theorem zaM(b:UInt8)(d:Nat)(hd:Lib.digitVal b=some d)(l:List UInt8)(acc n:Nat)(h:Lib.decFrom acc l=some n):Lib.decFrom acc (l++[b])=some (n*10+d):=by
 have h1:Lib.decFrom acc ((l++[b]).take l.length)=some n:=by rw [List.take_left'];exact h;rfl
 have h2:=Lib.decFrom_take (l++[b]) l.length acc n b d h1 (by simp) hd
 rwa [List.take_of_length_le (by simp)] at h2
theorem zbz(k:Nat)(h:k<10):Lib.digitVal (UInt8.ofNat (48+k))=some k:=by
 have: ∀ j:Fin 10,Lib.digitVal (UInt8.ofNat (48+j.val))=some j.val:=by decide
 exact this ⟨k,h⟩
theorem za5: ∀ (u:Nat),Lib.decFrom 0 (Lib.decDigits u)=some u:=by
 intro u
 induction u using Nat.strongRecOn with
 |_ u ih=>
  by_cases h:u<10
  ·rw [Lib.decDigits_one h]
   have:=zaM _ u (zbz u h) [] 0 0 rfl
   simpa using this
  ·rw [Lib.decDigits,dif_neg h]
   have:=zaM _ (u % 10) (zbz (u % 10) (by omega)) _ 0 _ (ih (u / 10) (by omega))
   rw [this];congr 1;omega
theorem zj9(u:Nat):Lib.decDigits u≠[]:=by
 intro h
 have:=Lib.decDigits_length u
 rw [h] at this
 have:=Lib.nDigits_pos u
 simp at*;omega
theorem zfF(u:Nat):zbN (Lib.decDigits u):=by
 intro c hc
 obtain ⟨k,hk,he⟩:=List.mem_iff_getElem.1 hc
 obtain ⟨d,hd⟩:=Lib.digit_of_decFrom _ _ _ (za5 u) k c (by rw [List.getElem?_eq_some_iff];exact ⟨hk,he⟩)
 have:=Lib.digitVal_eq hd
 omega
theorem xA(n:Int)(h:0≤n):zbN (Lib.itoa n):=by
 obtain ⟨u,rfl⟩: ∃ u:Nat,n=u:=⟨n.toNat,by omega⟩
 rw [Lib.itoa_nonneg];exact zfF u
theorem zcR(a b:Int)(ha:0≤a)(hb:0≤b)(h:Lib.itoa a=Lib.itoa b):a=b:=by
 obtain ⟨u,rfl⟩: ∃ u:Nat,a=u:=⟨a.toNat,by omega⟩
 obtain ⟨v,rfl⟩: ∃ u:Nat,b=u:=⟨b.toNat,by omega⟩
 rw [Lib.itoa_nonneg,Lib.itoa_nonneg] at h
 have h1:=za5 u
 rw [h,za5 v] at h1
 have:=Option.some.inj h1
 omega
theorem zlm(n:Int)(h:0≤n):Lib.itoa n≠[]:=by
 obtain ⟨u,rfl⟩: ∃ u:Nat,n=u:=⟨n.toNat,by omega⟩
 rw [Lib.itoa_nonneg];exact zj9 u
theorem zag(n:Int)(h:0≤n):Lib.atoi (Lib.itoa n)=some n:=by
 obtain ⟨u,rfl⟩: ∃ u:Nat,n=u:=⟨n.toNat,by omega⟩
 rw [Lib.itoa_nonneg]
 cases hd:Lib.decDigits u with
 |nil=>exact absurd hd (zj9 u)
 |cons b r=>
  have hb:=zfF u b (by rw [hd];exact List.mem_cons_self)
  have h45:(b==45)=false:=by
   rw [beq_eq_false_iff_ne];rintro rfl;revert hb;decide
  have h43:(b==43)=false:=by
   rw [beq_eq_false_iff_ne];rintro rfl;revert hb;decide
  have hdec:=za5 u
  rw [hd] at hdec
  have hn:Lib.decNat (b::r)=some u:=by simpa [Lib.decNat] using hdec
  simp [Lib.atoi,h45,h43,hn]
theorem yw(n:Int)(h:0≤n)(h1:n≤999999):(Lib.itoa n).length≤6:=by
 obtain ⟨u,rfl⟩: ∃ u:Nat,n=u:=⟨n.toNat,by omega⟩
 rw [Lib.itoa_nonneg,Lib.decDigits_length]
 have hu:u<1000000:=by omega
 by_cases h6:6<Lib.nDigits u
 ·exfalso
  have: ∀ (k v:Nat),k<Lib.nDigits v→10 ^ k≤v∨k=0:=by
   intro k
   induction k with
   |zero=>intro v _;exact Or.inr rfl
   |succ k ih=>
    intro v hv
    by_cases h10:v<10
    ·rw [Lib.nDigits_small h10] at hv;omega
    ·rw [Lib.nDigits_big h10] at hv
     rcases ih (v / 10) (by omega) with hk|hk
     ·refine Or.inl ?_
      rw [Nat.pow_succ];omega
     ·refine Or.inl ?_
      subst hk;simpa using Nat.le_of_not_lt h10
  rcases this 6 u h6 with h|h
  ·omega
  ·omega
 ·omega
def xf:List UInt8:=[99,111,117,110,116]
def vh:List UInt8:=[117,110,116,105,108]
def nm(d:Int):List UInt8:=
 if d=0 then [109,111] else if d=1 then [116,117] else if d=2 then [119,101] else if d=3 then [116,104] else if d=4 then [102,114] else if d=5 then [115,97] else [115,117]
def UT(r:RV)(t:List UInt8):Prop:=(r.til= -1∧t=[])∨(0≤r.til∧ ∃ y m d,vld y m d∧num y m d=r.til∧t=txt y m d)
def yJ(r:RV):List (List UInt8):=if r.days=[] then [] else [Lib.join (r.days.map nm) [44]]
def zu(r:RV):List (List UInt8):=if r.count=0 then [] else [xf,Lib.itoa r.count]
def zv(r:RV)(t:List UInt8):List (List UInt8):=if r.til= -1 then [] else [vh,t]
def yh(r:RV)(t:List UInt8):List (List UInt8):=
 if r.freq=xO then [xO] else r.freq::Lib.itoa r.every::(yJ r++(zu r++zv r t))
def yV(r:RV)(t:List UInt8):List UInt8:=Lib.join (yh r t) [32]
theorem zcS(r:RV)(t:List UInt8):yh r t≠[]:=by unfold yh;split<;>simp
theorem ziu{l:List UInt8}(h:zbN l)(c:UInt8)(hc:(c.toNat:Int)<48):c∉l:=fun hm=>by have:=h c hm;omega
theorem zmF(d:Int)(c:UInt8)(hc:c.toNat<97):c∉nm d:=by
 intro hm
 have: ∀ x∈nm d,97≤x.toNat:=by
  unfold nm
  repeat' split
  all_goals decide
 have:=this c hm;omega
theorem vi(c s:UInt8)(hs:s≠c): ∀ (l:List (List UInt8)),(∀ x∈l,c∉x)→c∉Lib.join l [s]
 |[],_=>by simp [Lib.join_nil]
 |[x],h=>by rw [Lib.join_one];exact h x (by simp)
 |x::y::r,h=>by
  rw [xw]
  intro hm
  rcases List.mem_append.1 hm with h1|h1
  ·exact h x (by simp) h1
  ·rcases List.mem_append.1 h1 with h2|h2
   ·simp at h2;exact hs h2.symm
   ·exact vi c s hs (y::r) (fun z hz=>h z (List.mem_cons_of_mem _ hz)) h2
theorem zln(l:List Int)(c:UInt8)(h44:c≠44)(hc:c.toNat<97):c∉Lib.join (l.map nm) [44]:=
 vi c 44 (Ne.symm h44) _ (fun x hx=>by
  obtain ⟨d,_,rfl⟩:=List.mem_map.1 hx
  exact zmF d c hc)
theorem zdP{y m d:Int}(h:vld y m d): ∀ c∈txt y m d,45≤c.toNat:=by
 obtain ⟨h1,h2,h3,h4,h5,h6⟩:=h
 have h7:=(yy y m).2
 have hd: ∀ k:Int,0≤k→k≤9→45≤(dgt k).toNat:=fun k a b=>by rw [zeP k a b];omega
 intro c hc
 simp only [txt,four,two,List.mem_append,List.mem_cons,List.not_mem_nil,or_false] at hc
 rcases hc with ((((h|h|h|h)|h)|(h|h))|h)|(h|h)
 all_goals subst h
 all_goals first|(exact hd _ (by omega) (by omega))|decide
theorem zjG{r:RV}{t:List UInt8}(h:UT r t): ∀ c∈t,45≤c.toNat:=by
 rcases h with ⟨_,rfl⟩|⟨_,y,m,d,hv,_,rfl⟩
 ·intro c hc;simp at hc
 ·exact zdP hv
theorem zlo{r:RV}(h:Well r):(32:UInt8)∉r.freq:=by
 rcases h.fr with e|e|e|e|e<;>rw [e]<;>decide
theorem zjH{r:RV}{t:List UInt8}(h:Well r)(ht:UT r t): ∀ x∈yh r t,(32:UInt8)∉x:=by
 intro x hx
 unfold yh at hx
 split at hx
 ·simp at hx;subst hx;decide
 ·rcases List.mem_cons.1 hx with rfl|hx
  ·exact zlo h
  rcases List.mem_cons.1 hx with rfl|hx
  ·exact ziu (xA _ (by have:=h.ev;omega)) 32 (by decide)
  rcases List.mem_append.1 hx with hx|hx
  ·unfold yJ at hx
   split at hx
   ·simp at hx
   ·simp at hx;subst hx;exact zln _ 32 (by decide) (by decide)
  rcases List.mem_append.1 hx with hx|hx
  ·unfold zu at hx
   split at hx
   ·simp at hx
   ·simp at hx
    rcases hx with rfl|rfl
    ·decide
    ·exact ziu (xA _ (by have:=h.co;omega)) 32 (by decide)
  ·unfold zv at hx
   split at hx
   ·simp at hx
   ·simp at hx
    rcases hx with rfl|rfl
    ·decide
    ·intro hm;have:=zjG ht _ hm;revert this;decide
theorem xg{r:RV}{t:List UInt8}(h:Well r)(ht:UT r t):zZ 32 (yV r t)=yh r t:=yg 32 _ (zcS r t) (zjH h ht)
end Go.Proofs.YtpeafgddbbojaaaGreatDoor.Cal
namespace Go.Proofs.YtpeafgddbbojaaaGreatDoor.Cal
open Go
theorem nm_len(d:Int):(nm d).length=2:=by
 unfold nm
 repeat' split
 all_goals rfl
theorem zmG(a b:Int)(ha:0≤a∧a≤6)(hb:0≤b∧b≤6)(h:nm a=nm b):a=b:=by
 have key: ∀ i j:Fin 7,nm (i.val:Int)=nm (j.val:Int)→i=j:=by decide
 have:=key ⟨a.toNat,by omega⟩ ⟨b.toNat,by omega⟩ (by
  have e1:((a.toNat:Nat):Int)=a:=by omega
  have e2:((b.toNat:Nat):Int)=b:=by omega
  simp only [e1,e2];exact h)
 have h2:a.toNat=b.toNat:=by simpa using this
 omega
theorem zcd: ∀ (l k:List Int),(∀ d∈l,0≤d∧d≤6)→(∀ d∈k,0≤d∧d≤6)→l.map nm=k.map nm→l=k
 |[],[],_,_,_=>rfl
 |[],_::_,_,_,h=>by simp at h
 |_::_,[],_,_,h=>by simp at h
 |a::l,b::k,h1,h2,h=>by
  simp only [List.map_cons,List.cons.injEq] at h
  rw [zmG a b (h1 a (by simp)) (h2 b (by simp)) h.1,zcd l k (fun d hd=>h1 d (by simp [hd])) (fun d hd=>h2 d (by simp [hd])) h.2]
theorem vM{l:List Int}(h:l≠[]):zZ 44 (Lib.join (l.map nm) [44])=l.map nm:=
 yg 44 _ (by simpa using h) (fun x hx=>by
  obtain ⟨d,_,rfl⟩:=List.mem_map.1 hx
  exact zmF d 44 (by decide))
theorem zaN{l:List Int}(h:l≠[])(c:List UInt8)(hc:(44:UInt8)∉c)(h2:c.length≠2):Lib.join (l.map nm) [44]≠c:=by
 intro e
 have h1:=vM h
 rw [e,xU 44 c hc] at h1
 cases l with
 |nil=>exact h rfl
 |cons d r=>
  simp only [List.map_cons,List.cons.injEq] at h1
  exact h2 (by rw [h1.1,nm_len])
theorem vN{l:List Int}(h:l≠[]):Lib.join (l.map nm) [44]≠xf:=zaN h _ (by decide) (by decide)
theorem vO{l:List Int}(h:l≠[]):Lib.join (l.map nm) [44]≠vh:=zaN h _ (by decide) (by decide)
theorem za6: ∀ (l:List Int),(Lib.join (l.map nm) [44]).length≤3*l.length
 |[]=>by simp [Lib.join_nil]
 |[d]=>by rw [List.map_cons,List.map_nil,Lib.join_one,nm_len];simp
 |d::e::r=>by
  have:=za6 (e::r)
  rw [List.map_cons,List.map_cons,xw,List.length_append,List.length_append,nm_len]
  rw [List.map_cons] at this
  simp only [List.length_cons] at this ⊢
  simp only [List.length_nil]
  omega
theorem ziv{y m d y' m' d':Int}(h:vld y m d)(h':vld y' m' d')(e:txt y m d=txt y' m' d'):num y m d=num y' m' d':=by
 obtain ⟨h1,h2,h3,h4,h5,h6⟩:=h
 obtain ⟨k1,k2,k3,k4,k5,k6⟩:=h'
 have h7:=(yy y m).2
 have k7:=(yy y' m').2
 have a:=zad y m d (by omega) (by omega) (by omega) (by omega) (by omega) (by omega)
 have b:=zad y' m' d' (by omega) (by omega) (by omega) (by omega) (by omega) (by omega)
 rw [←e] at b
 have e1:=a.1.symm.trans b.1
 have e2:=a.2.1.symm.trans b.2.1
 have e3:=a.2.2.symm.trans b.2.2
 rw [e1,e2,e3]
theorem zmH{a b:RV}{t:List UInt8}(ha:UT a t)(hb:UT b t)(h1:a.til≠ -1)(h2:b.til≠ -1):a.til=b.til:=by
 rcases ha with ⟨e,_⟩|⟨_,y,m,d,hv,hn,ht⟩
 ·exact absurd e h1
 rcases hb with ⟨e,_⟩|⟨_,y',m',d',hv',hn',ht'⟩
 ·exact absurd e h2
 rw [←hn,←hn']
 exact ziv hv hv' (by rw [←ht,←ht'])
theorem ziw{r:RV}(h:Well r): ∃ t,UT r t:=by
 by_cases e:r.til= -1
 ·exact ⟨[],Or.inl ⟨e,rfl⟩⟩
 ·have:=h.un
  obtain ⟨y,m,d,hv,hn⟩:=zbm r.til (by omega) (by omega)
  exact ⟨_,Or.inr ⟨by omega,y,m,d,hv,hn,rfl⟩⟩
theorem zdQ{a b:RV}{t t':List UInt8}(hta:UT a t)(htb:UT b t')(h:zv a t=zv b t'):a.til=b.til:=by
 unfold zv at h
 by_cases h1:a.til= -1
 ·by_cases h2:b.til= -1
  ·rw [h1,h2]
  ·rw [if_pos h1,if_neg h2] at h;simp at h
 ·by_cases h2:b.til= -1
  ·rw [if_neg h1,if_pos h2] at h;simp at h
  ·rw [if_neg h1,if_neg h2] at h
   simp at h
   subst h
   exact zmH hta htb h1 h2
theorem zfG{a b:RV}{t t':List UInt8}(ha:Well a)(hb:Well b)(hta:UT a t)(htb:UT b t')(h:zu a++zv a t=zu b++zv b t'):a.count=b.count∧a.til=b.til:=by
 have hcu:xf≠vh:=by decide
 by_cases h1:a.count=0
 ·by_cases h2:b.count=0
  ·have e1:zu a=[]:=by unfold zu;rw [if_pos h1]
   have e2:zu b=[]:=by unfold zu;rw [if_pos h2]
   rw [e1,e2,List.nil_append,List.nil_append] at h
   exact ⟨by rw [h1,h2],zdQ hta htb h⟩
  ·exfalso
   unfold zu zv at h
   rw [if_pos h1,if_neg h2] at h
   by_cases h3:a.til= -1
   ·rw [if_pos h3] at h;simp at h
   ·rw [if_neg h3] at h;simp at h;exact hcu h.1.symm
 ·by_cases h2:b.count=0
  ·exfalso
   unfold zu zv at h
   rw [if_neg h1,if_pos h2] at h
   by_cases h3:b.til= -1
   ·rw [if_pos h3] at h;simp at h
   ·rw [if_neg h3] at h;simp at h;exact hcu h.1
  ·have e1:zu a=[xf,Lib.itoa a.count]:=by unfold zu;rw [if_neg h1]
   have e2:zu b=[xf,Lib.itoa b.count]:=by unfold zu;rw [if_neg h2]
   rw [e1,e2] at h
   simp only [List.cons_append,List.nil_append,List.cons.injEq,true_and] at h
   exact ⟨zcR _ _ ha.co.1 hb.co.1 h.1,zdQ hta htb h.2⟩
theorem zdR{r:RV}{t x:List UInt8}{l:List (List UInt8)}(h:zu r++zv r t=x::l):x=xf∨x=vh:=by
 unfold zu zv at h
 by_cases h1:r.count=0
 ·rw [if_pos h1] at h
  by_cases h3:r.til= -1
  ·rw [if_pos h3] at h;simp at h
  ·rw [if_neg h3] at h;simp at h;exact Or.inr h.1.symm
 ·rw [if_neg h1] at h;simp at h;exact Or.inl h.1.symm
theorem zjI{a b:RV}{t t':List UInt8}(ha:Well a)(hb:Well b)(hta:UT a t)(htb:UT b t')(h:yJ a++(zu a++zv a t)=yJ b++(zu b++zv b t')):
  a.days=b.days∧a.count=b.count∧a.til=b.til:=by
 by_cases h1:a.days=[]
 ·have e1:yJ a=[]:=by unfold yJ;rw [if_pos h1]
  by_cases h2:b.days=[]
  ·have e2:yJ b=[]:=by unfold yJ;rw [if_pos h2]
   rw [e1,e2,List.nil_append,List.nil_append] at h
   exact ⟨by rw [h1,h2],zfG ha hb hta htb h⟩
  ·have e2:yJ b=[Lib.join (b.days.map nm) [44]]:=by unfold yJ;rw [if_neg h2]
   rw [e1,e2,List.nil_append,List.singleton_append] at h
   rcases zdR h with e|e
   ·exact absurd e (vN h2)
   ·exact absurd e (vO h2)
 ·have e1:yJ a=[Lib.join (a.days.map nm) [44]]:=by unfold yJ;rw [if_neg h1]
  by_cases h2:b.days=[]
  ·have e2:yJ b=[]:=by unfold yJ;rw [if_pos h2]
   rw [e1,e2,List.nil_append,List.singleton_append] at h
   rcases zdR h.symm with e|e
   ·exact absurd e (vN h1)
   ·exact absurd e (vO h1)
  ·have e2:yJ b=[Lib.join (b.days.map nm) [44]]:=by unfold yJ;rw [if_neg h2]
   rw [e1,e2,List.singleton_append,List.singleton_append,List.cons.injEq] at h
   have hd:=vM h1
   rw [h.1,vM h2] at hd
   exact ⟨(zcd _ _ hb.ds ha.ds hd).symm,zfG ha hb hta htb h.2⟩
theorem zix{a b:RV}{t t':List UInt8}(ha:Well a)(hb:Well b)(hta:UT a t)(htb:UT b t')(h:yh a t=yh b t'):a=b:=by
 unfold yh at h
 have hne:xO≠vY:=by decide
 by_cases h1:a.freq=xO
 ·rw [if_pos h1] at h
  by_cases h2:b.freq=xO
  ·obtain ⟨x1,x2,x3⟩:=ha.on h1
   obtain ⟨y1,y2,y3⟩:=hb.on h2
   have x4:=ha.wk (by rw [h1];exact hne)
   have y4:=hb.wk (by rw [h2];exact hne)
   cases a;cases b
   simp only at h1 h2 x1 x2 x3 x4 y1 y2 y3 y4
   subst h1 h2 x1 x2 x3 x4 y1 y2 y3 y4
   rfl
  ·rw [if_neg h2] at h;simp at h
 ·rw [if_neg h1] at h
  by_cases h2:b.freq=xO
  ·rw [if_pos h2] at h;simp at h
  ·rw [if_neg h2] at h
   simp only [List.cons.injEq] at h
   obtain ⟨x1,x2,x3⟩:=h
   have x2':=zcR _ _ (by have:=ha.ev;omega) (by have:=hb.ev;omega) x2
   obtain ⟨z1,z2,z3⟩:=zjI ha hb hta htb x3
   cases a;cases b
   simp only at x1 x2' z1 z2 z3
   subst x1 x2' z1 z2 z3
   rfl
theorem ziy{a b:RV}{t t':List UInt8}(ha:Well a)(hb:Well b)(hta:UT a t)(htb:UT b t')(h:yV a t=yV b t'):a=b:=by
 refine zix ha hb hta htb ?_
 rw [←xg ha hta,←xg hb htb,h]
theorem zfH(c:UInt8): ∀ (ws:List (List UInt8)),(Lib.join ws [c]).length≤(ws.map (fun x=>x.length+1)).sum
 |[]=>by simp [Lib.join_nil]
 |[x]=>by rw [Lib.join_one];simp
 |x::y::r=>by
  have:=zfH c (y::r)
  rw [xw,List.length_append,List.length_append,List.map_cons,List.sum_cons]
  simp only [List.length_singleton]
  omega
theorem zka{r:RV}{t:List UInt8}(h:UT r t):t.length≤10:=by
 rcases h with ⟨_,rfl⟩|⟨_,y,m,d,_,_,rfl⟩
 ·simp
 ·rw [xx];omega
theorem vj{r:RV}{t:List UInt8}(h:Well r)(ht:UT r t)(h20:r.days.length≤20):(yV r t).length≤1000:=by
 have h1:r.freq.length≤7:=by rcases h.fr with e|e|e|e|e<;>rw [e]<;>decide
 have h2:=yw r.every (by have:=h.ev;omega) (by have:=h.ev;omega)
 have h3:=yw r.count (by have:=h.co;omega) (by have:=h.co;omega)
 have h4:=zka ht
 have h5:=za6 r.days
 have h6:xf.length=5:=rfl
 have h7:vh.length=5:=rfl
 have h8:xO.length=4:=rfl
 refine Nat.le_trans (zfH 32 _) ?_
 unfold yh
 split
 ·simp [h8]
 ·simp only [List.map_cons,List.map_append,List.sum_cons,List.sum_append]
  have a1:((yJ r).map (fun x=>x.length+1)).sum≤61:=by
   unfold yJ;split
   ·simp
   ·simp;omega
  have a2:((zu r).map (fun x=>x.length+1)).sum≤20:=by
   unfold zu;split
   ·simp
   ·simp [h6];omega
  have a3:((zv r t).map (fun x=>x.length+1)).sum≤20:=by
   unfold zv;split
   ·simp
   ·simp [h7];omega
  omega
theorem ziz(r:RV)(t:List UInt8):(yh r t).length≤7:=by
 unfold yh yJ zu zv
 repeat' split
 all_goals simp
end Go.Proofs.YtpeafgddbbojaaaGreatDoor.Cal
namespace Go.Proofs.YtpeafgddbbojaaaGreatDoor
open Go.RowKit Cal
structure GlobR(w:World):Prop where
 name: ∃ p,w.cell? ⟨2,0,none⟩=some (.iface 269 (.pointer (some p)))
 bound: ∃ p,w.cell? ⟨4,0,none⟩=some (.iface 269 (.pointer (some p)))
 shape: ∃ p,w.cell? ⟨0,0,none⟩=some (.iface 269 (.pointer (some p)))
 order: ∃ p,w.cell? ⟨5,0,none⟩=some (.iface 269 (.pointer (some p)))
 text: ∃ p,w.cell? ⟨3,0,none⟩=some (.iface 269 (.pointer (some p)))
 days: ∀ d:Nat,d<7→w.cell? ⟨7,d,none⟩=some (.string ⟨(nm d).toArray⟩)
 tab:Tab w
theorem GlobR.step{w w':World}(g:GlobR w)(hb:Below w.heap.size w w'):GlobR w':=by
 obtain ⟨⟨p1,h1⟩,⟨p2,h2⟩,⟨p3,h3⟩,⟨p4,h4⟩,⟨p5,h5⟩,h6,h7⟩:=g
 exact ⟨⟨p1,zD h1 hb⟩,⟨p2,zD h2 hb⟩,⟨p3,zD h3 hb⟩,⟨p4,zD h4 hb⟩,⟨p5,zD h5 hb⟩,fun d hd=>zD (h6 d hd) hb,h7.step hb⟩
end Go.Proofs.YtpeafgddbbojaaaGreatDoor
namespace Go.Proofs.YtpeafgddbbojaaaGreatDoor
open Go.ChangeShapes Go.WideShapes Go.ChangeAt Go.RowKit Cal
theorem zjX:Tryz.prog.globalNamed "lammastide/rule.dayNames"=some 7:=by kernel_rfl
theorem zl6:(Tryz.prog.globals[7]?).map (·.type)=some 216:=by kernel_rfl
theorem zl7:Tryz.prog.cellsOf 216=7:=by kernel_rfl
theorem zbF{H:Type}{enc:TypeId×Value→H}{P:Program}{w:World}{base:Nat}{sp:Nat→Bool}{held:Bool}{fuel:Nat}{t e:TypeId}{n:Nat}{cs:List Value}{zs:List (List UInt8)}{p:List MemPlace}
  (ht:P.underlying t=some (.array n e)) (he:P.underlying e=some .string) (hce:P.cellsOf e=1) (hct:P.cellsOf t=n)
  (h:DataW.trod enc P w base sp held fuel t cs=some (.agg (zs.map fun z=> .lit (.string z)),p)) (i:Nat) (z:List UInt8) (hz:zs[i]? =some z):cs[i]? =some (.string ⟨z.toArray⟩):=by
 cases fuel with
 |zero=>simp [DataW.trod] at h
 |succ fuel=>
  simp only [DataW.trod,ht,hce,hct,Nat.mul_one] at h
  split at h
  ·rename_i hl
   obtain ⟨xs,hm,hx⟩:=Option.map_eq_some_iff.1 h
   have hxs:xs.map (·.1)=zs.map fun z=>(DataW.lit (.string z):DataW H):=by
    have:=congrArg Prod.fst hx
    simpa using this
   have hxl:xs.length=n:=by simpa using Lib.mapM_length hm
   have hzl:zs.length=n:=by
    have:=congrArg List.length hxs
    simp at this
    omega
   have hi:i<n:=by
    have:=(List.getElem?_eq_some_iff.1 hz).1
    omega
   obtain ⟨b,hb,hf⟩:=Lib.mapM_at hm i i (by simp [hi])
   obtain ⟨s,hc,rfl,_⟩:=DataW.trod_string he hf
   have h1:cs[i]? =some (.string s):=by
    have:=congrArg (·[0]?) hc
    simpa [List.getElem?_take,List.getElem?_drop] using this
   have h2:(xs.map (·.1))[i]? =some (DataW.lit (.string s.data.toList):DataW H):=by simp [hb]
   rw [hxs,List.getElem?_map,hz] at h2
   simp only [Option.map_some,Option.some.injEq,DataW.lit.injEq,Lit.string.injEq] at h2
   rw [h1,h2]
  ·cases h
theorem zi7{r:List (String×DataW Unit)}{W:World}(h:laidMet Tryz.prog (("lammastide/rule.dayNames",Rows.laid_lammastide_rule_dayNames)::r) W)(d:Nat)(hd:d<7):
  W.cell? ⟨7,d,none⟩=some (.string ⟨(nm d).toArray⟩):=by
 obtain ⟨ps,⟨g',t',cs,fuel,p,q,hg',ht',hvar,hd',_,_⟩,_⟩:=h
 obtain rfl:=Option.some.inj (zjX.symm.trans hg')
 obtain rfl:=Option.some.inj (zl6.symm.trans ht')
 have hc:=zbF (zs:=[nm 0,nm 1,nm 2,nm 3,nm 4,nm 5,nm 6]) Tryz.underlying216 Tryz.underlying9 zmJ zl7 hd' d (nm d) (by
  match d,hd with
  |0,_=>rfl
  |1,_=>rfl
  |2,_=>rfl
  |3,_=>rfl
  |4,_=>rfl
  |5,_=>rfl
  |6,_=>rfl)
 rw [World.var?_cell zjX hvar d]
 simpa using hc
end Go.Proofs.YtpeafgddbbojaaaGreatDoor
namespace Go.Proofs.YtpeafgddbbojaaaGreatDoor
open Go Go.RowKit Cal
attribute [local go_sem] Oper.semAt_some
theorem zdy{ops:Array Oper}{rest:List Oper}{o:Oper}{a:Act}{Q:Exit→Act→World→Prop}{w:World}(hgd:o.guard=none)(s x:Operand)
  (ho:o.op= .call { callee:= .builtin .append,args:= #[s,x],argTypes:= #[43,43] })
  (base:Nat) (xs ys:List Int) (v u:Value) (hs:a.eval s=v) (hown:Ow base w v xs) (hx:a.eval x=u) (hg:Got w u ys) (hl:xs.length+ys.length≤100000) (hbase:base≤w.heap.size)
  (h: ∀ v' w',Ow base w' v' (xs++ys)→Below base w w'→wpList Tryz.prog ops Q rest (a.put o.dst v') w'):wpList Tryz.prog ops Q (o::rest) a w:=by
 obtain ⟨i0,hi,hz0,hz1,hz2⟩:=info_parts yZ
 obtain ⟨ad,cap,rfl,hn,hs'⟩:=hg
 cases ad with
 |none=>
  obtain ⟨h0,rfl⟩:=hn rfl
  have hys:ys=[]:=List.length_eq_zero_iff.1 h0
  subst hys
  refine wpList_append_own_none hgd s x 43 ho base 3 i0 1 Tryz.underlying43 hi v xs.length (xs.map (Value.int .i64)) hs hown hx ?_
  exact h v w (by rw [List.append_nil];exact hown) (Below.refl _ _)
 |some ad=>
  refine wpList_append_own w hgd s x 43 ho base 3 i0 (.int .i64 0) 1 8 Tryz.underlying43 hi hz0 hz1 hz2 rfl (by decide) v xs.length (xs.map (Value.int .i64)) hs hown ad ys.length cap (ys.map (Value.int .i64)) hx (by simp) ?_ (fun v hv=>by obtain ⟨x,_,rfl⟩:=List.mem_map.1 hv;rfl) (by unfold maxLen;omega) (by omega) hbase ?_
  ·intro j v hv
   rw [List.getElem?_map] at hv
   obtain ⟨d,hd,rfl⟩:=Option.map_eq_some_iff.1 hv
   obtain ⟨hj,rfl⟩:=List.getElem?_eq_some_iff.1 hd
   exact (hs' ad rfl j hj).2
  ·intro v' w' h1 h2 _
   refine h v' w' ?_ ?_
   ·unfold Ow;rw [List.length_append,List.map_append];exact h1
   ·refine (Below.refl base w).grown h2 hbase (fun k e=> ?_)
    exact (World.ownsRow.lt hown k e).1
end Go.Proofs.YtpeafgddbbojaaaGreatDoor
