import Derived.Test.YtpeafgddbbojaaaGreatDoorJqAA
import Derived.Test.YtpeafgddbbojaaaGreatDoorJqAZ
namespace Go.Proofs.YtpeafgddbbojaaaGreatDoor
open Go Go.RowKit Go.Maps Go.Sort Cal
attribute [local go_sem] Oper.semAt_some
set_option maxHeartbeats 16000000 in
set_option maxRecDepth 100000 in
theorem moR(X Y Z:List EV)(w w2 wr:World)(ob xb ib m ni ic:Nat)(a1 a2 a3 oa ba:Option Addr)(n1 k1 n2 k2 n3 k3 on oc bn bc:Nat)(id pt qt rt:ByteArray)(Os:List EX)(cl:List (ByteArray×ByteArray))
  (HS:Hid (MOW w2 wr ob (.slice oa on oc) (.slice ba bn bc) Os cl)) (HBN:Hid (bn=cl.length)) (hbl:bn≤5000) (hol:Os.length≤60) (hmn:m<ni) (hni:ni≤1000)
  (KB:Hid (w2.heap[w.heap.size]? =some (.cells #[.slice a1 n1 k1] 27 (0,0))∧w2.heap[w.heap.size+1]? =some (.cells #[.slice a2 n2 k2] 27 (0,0))∧w2.heap[w.heap.size+1+1]? =some (.cells #[.slice a3 n3 k3] 27 (0,0))∧w.heap.size+4≤ob∧ib≠ob∧w2.cell? ⟨ib,m,none⟩=some (.string id)))
  (HB2:Hid (Below w.heap.size w w2))
  (T1:Hid (∀ W,Below wr.heap.size wr W→Calls Tryz.prog 24 #[.agg #[.slice a1 n1 k1],.string id] W fun r w'=>r= .returned (.string pt)∧Below W.heap.size W w')) (T2:Hid (∀ W,Below wr.heap.size wr W→Calls Tryz.prog 24 #[.agg #[.slice a2 n2 k2],.string id] W fun r w'=>r= .returned (.string qt)∧Below W.heap.size W w')) (T3:Hid (∀ W,Below wr.heap.size wr W→Calls Tryz.prog 24 #[.agg #[.slice a3 n3 k3],.string id] W fun r w'=>r= .returned (.string rt)∧Below W.heap.size W w'))
  (HC:Hid ((Hid (∀ W,Calls Tryz.prog 25 #[.string pt,.string qt,.string rt] W fun rr w'=>rr= .returned (.tuple #[.string ⟨#[]⟩,.bool true])∧w'=W)∧Hid (jSp X Y Z (Os.map EX.E,cl) id=(Os.map EX.E,cl)))∨(∃ (E:EV),∃ (sx:ByteArray),((sx.toList==[])=false)∧Hid (∀ W,Calls Tryz.prog 25 #[.string pt,.string qt,.string rt] W fun rr w'=>rr= .returned (.tuple #[.string sx,.bool true])∧w'=W)∧Hid (∀ W:World,Calls Tryz.prog 26 #[.string sx] W fun rr w'=> ∃ (ra:Option Addr) (rn rc:Nat) (sa:Option Addr) (sn sc:Nat) (ma:Option Addr) (mn mc:Nat),rr= .returned (.tuple #[.agg (eW E.id E.ti E.st E.lg E.f E.e ra rn rc E.c E.u sa sn sc ma mn mc),.int .i64 0])∧Ow W.heap.size w' (.slice ra rn rc) E.ds∧Ow W.heap.size w' (.slice sa sn sc) E.sk∧OwM W.heap.size w' (.slice ma mn mc) E.mv∧Below W.heap.size W w')∧Hid (EW E∧E.ds.length≤20)∧Hid (((¬ ∃ Y∈Os,Y.E.id=E.id)∧60≤Os.length)→jSp X Y Z (Os.map EX.E,cl) id=(Os.map EX.E,cl++[(id,jZ)]))∧Hid (¬ ((¬ ∃ Y∈Os,Y.E.id=E.id)∧60≤Os.length)→jSp X Y Z (Os.map EX.E,cl) id=(jL E (Os.map EX.E),cl)))∨(Hid (∀ W,Calls Tryz.prog 25 #[.string pt,.string qt,.string rt] W fun rr w'=>rr= .returned (.tuple #[.string ⟨#[]⟩,.bool false])∧w'=W)∧(pt=⟨#[]⟩∨((pt.toList==[])=false∧qt=⟨#[]⟩)∨((pt.toList==[])=false∧(qt.toList==[])=false∧rt=⟨#[]⟩))∧Hid (jSp X Y Z (Os.map EX.E,cl) id=(Os.map EX.E,cl++[(id,jZ)])))∨(((pt.toList==[])=false)∧((qt.toList==[])=false)∧((rt.toList==[])=false)∧Hid (∀ W,Calls Tryz.prog 25 #[.string pt,.string qt,.string rt] W fun rr w'=>rr= .returned (.tuple #[.string ⟨#[]⟩,.bool false])∧w'=W)∧ ∃ (E1 E2 E3 J:EV),∃ (ra1 sa1 ma1 ra2 sa2 ma2 ra3 sa3 ma3:Option Addr),∃ (rn1 rc1 sn1 sc1 mn1 mc1 rn2 rc2 sn2 sc2 mn2 mc2 rn3 rc3 sn3 sc3 mn3 mc3:Nat),∃ (b1 b2 b3 j1 j2 j3 cn:Nat),∃ (CVL:List ByteArray),(a1=some ⟨b1,0,none⟩)∧(a2=some ⟨b2,0,none⟩)∧(a3=some ⟨b3,0,none⟩)∧(j1<n1)∧(j2<n2)∧(j3<n3)∧Hid (cn=CVL.length)∧Hid (∀ W,Below wr.heap.size wr W→W.cell? ⟨w.heap.size,0,none⟩=some (.slice a1 n1 k1)∧W.cell? ⟨w.heap.size+1,0,none⟩=some (.slice a2 n2 k2)∧W.cell? ⟨w.heap.size+1+1,0,none⟩=some (.slice a3 n3 k3)∧W.cell? ⟨b1,j1*11,none⟩=some (.string E1.id)∧W.cell? ⟨b1,j1*11+1,none⟩=some (.string E1.ti)∧W.cell? ⟨b1,j1*11+2,none⟩=some (.int .i64 E1.st)∧W.cell? ⟨b1,j1*11+3,none⟩=some (.int .i64 E1.lg)∧W.cell? ⟨b1,j1*11+4,none⟩=some (.string E1.f)∧W.cell? ⟨b1,j1*11+5,none⟩=some (.int .i64 E1.e)∧W.cell? ⟨b1,j1*11+6,none⟩=some (.slice ra1 rn1 rc1)∧W.cell? ⟨b1,j1*11+7,none⟩=some (.int .i64 E1.c)∧W.cell? ⟨b1,j1*11+8,none⟩=some (.int .i64 E1.u)∧W.cell? ⟨b1,j1*11+9,none⟩=some (.slice sa1 sn1 sc1)∧W.cell? ⟨b1,j1*11+10,none⟩=some (.slice ma1 mn1 mc1)∧W.cell? ⟨b2,j2*11,none⟩=some (.string E2.id)∧W.cell? ⟨b2,j2*11+1,none⟩=some (.string E2.ti)∧W.cell? ⟨b2,j2*11+2,none⟩=some (.int .i64 E2.st)∧W.cell? ⟨b2,j2*11+3,none⟩=some (.int .i64 E2.lg)∧W.cell? ⟨b2,j2*11+4,none⟩=some (.string E2.f)∧W.cell? ⟨b2,j2*11+5,none⟩=some (.int .i64 E2.e)∧W.cell? ⟨b2,j2*11+6,none⟩=some (.slice ra2 rn2 rc2)∧W.cell? ⟨b2,j2*11+7,none⟩=some (.int .i64 E2.c)∧W.cell? ⟨b2,j2*11+8,none⟩=some (.int .i64 E2.u)∧W.cell? ⟨b2,j2*11+9,none⟩=some (.slice sa2 sn2 sc2)∧W.cell? ⟨b2,j2*11+10,none⟩=some (.slice ma2 mn2 mc2)∧W.cell? ⟨b3,j3*11,none⟩=some (.string E3.id)∧W.cell? ⟨b3,j3*11+1,none⟩=some (.string E3.ti)∧W.cell? ⟨b3,j3*11+2,none⟩=some (.int .i64 E3.st)∧W.cell? ⟨b3,j3*11+3,none⟩=some (.int .i64 E3.lg)∧W.cell? ⟨b3,j3*11+4,none⟩=some (.string E3.f)∧W.cell? ⟨b3,j3*11+5,none⟩=some (.int .i64 E3.e)∧W.cell? ⟨b3,j3*11+6,none⟩=some (.slice ra3 rn3 rc3)∧W.cell? ⟨b3,j3*11+7,none⟩=some (.int .i64 E3.c)∧W.cell? ⟨b3,j3*11+8,none⟩=some (.int .i64 E3.u)∧W.cell? ⟨b3,j3*11+9,none⟩=some (.slice sa3 sn3 sc3)∧W.cell? ⟨b3,j3*11+10,none⟩=some (.slice ma3 mn3 mc3))∧Hid (∀ W,Below wr.heap.size wr W→Calls Tryz.prog 28 #[.agg #[.slice a1 n1 k1],.string id] W fun rr w'=>rr= .returned (.int .i64 (j1:Int))∧Below W.heap.size W w')∧Hid (∀ W,Below wr.heap.size wr W→Calls Tryz.prog 28 #[.agg #[.slice a2 n2 k2],.string id] W fun rr w'=>rr= .returned (.int .i64 (j2:Int))∧Below W.heap.size W w')∧Hid (∀ W,Below wr.heap.size wr W→Calls Tryz.prog 28 #[.agg #[.slice a3 n3 k3],.string id] W fun rr w'=>rr= .returned (.int .i64 (j3:Int))∧Below W.heap.size W w')∧Hid (∀ W,Below wr.heap.size wr W→Calls Tryz.prog 27 #[.agg (eW E1.id E1.ti E1.st E1.lg E1.f E1.e ra1 rn1 rc1 E1.c E1.u sa1 sn1 sc1 ma1 mn1 mc1),.agg (eW E2.id E2.ti E2.st E2.lg E2.f E2.e ra2 rn2 rc2 E2.c E2.u sa2 sn2 sc2 ma2 mn2 mc2),.agg (eW E3.id E3.ti E3.st E3.lg E3.f E3.e ra3 rn3 rc3 E3.c E3.u sa3 sn3 sc3 ma3 mn3 mc3)] W fun rr w'=> ∃ (mid mti mf:ByteArray) (mst mlg me mc_ mu:Int) (mra msa mma:Option Addr) (mrn mrc msn msc mmn mmc:Nat) (ca:Option Addr) (cc:Nat),rr= .returned (.tuple #[.agg (eW mid mti mst mlg mf me mra mrn mrc mc_ mu msa msn msc mma mmn mmc),.slice ca cn cc])∧NmR W.heap.size w' (.slice ca cn cc) CVL∧(CVL=[]→MEL wr w' J mid mti mf mst mlg me mc_ mu (.slice mra mrn mrc) (.slice msa msn msc) (.slice mma mmn mmc))∧Below W.heap.size W w')∧Hid (CVL≠[]→jSp X Y Z (Os.map EX.E,cl) id=(Os.map EX.E,cl++CVL.map fun f=>(id,f)))∧Hid (CVL=[]→EW J∧J.ds.length≤20)∧Hid (CVL=[]→((¬ ∃ Y∈Os,Y.E.id=J.id)∧60≤Os.length)→jSp X Y Z (Os.map EX.E,cl) id=(Os.map EX.E,cl++[(id,jZ)]))∧Hid (CVL=[]→ ¬ ((¬ ∃ Y∈Os,Y.E.id=J.id)∧60≤Os.length)→jSp X Y Z (Os.map EX.E,cl) id=(jL J (Os.map EX.E),cl))∧(cn≤10))))
  (dD dE dF dG dH dI dJ dK dL dM dN dO dP dQ dR dS dT dU dV dW dX dY dZ ea ec bo bp bq br bs bt bu bw bx bA bB bC bD bE bF bG bH bI bJ bK bL bM bN bO bP bQ bR bS bT bU bV bW bX bY bZ da db dc dd de df dg dh di dj dk dl dm dn dp dq dr dt du dv dw dx dy dz dA dB dC aa ab ac ad ae af ag ah ai aj ak al am an ao ap aq ar au av aw ax ay az aA aB aC aD aE aF aG aH aI aJ aK aL aM aN aO aP aQ aR aS aT aU aV aW aX aY aZ bb bd be bf bg bh bi bj bk bl bm:Value) (Q:Exit→Act→World→Prop)
  (HQ:Hid (∀ (ed ee bo bp bq br bs bt bu bw bx bA bB bC bD bE bF bG bH bI bJ bK bL bM bN bO bP bQ bR bS bT bU bV bW bX bY bZ da db dc dd de df dg dh di dj dk dl dm dn dp dq dr dt du dv dw dx dy dz dA dB dC aa ab ac ad ae af ag ah ai aj ak al am an ao ap aq ar au av aw ax ay az aA aB aC aD aE aF aG aH aI aJ aK aL aM aN aO aP aQ aR aS aT aU aV aW aX aY aZ bb bd be bf bg bh bi bj bk bl bm:Value) (W':World),(∃ (ba':Option Addr) (bn' bc':Nat) (vo':Value) (Os':List EX) (cl':List (ByteArray×ByteArray)),ed= .slice ba' bn' bc'∧ee= .int .i64 ((m:Int)+1)∧Hid (MOW w2 W' ob vo' (.slice ba' bn' bc') Os' cl'∧(Os'.map EX.E,cl')=jSp X Y Z (Os.map EX.E,cl) id))→Q .normal ⟨#[.agg #[.slice a1 n1 k1],.agg #[.slice a2 n2 k2],.agg #[.slice a3 n3 k3],.pointer (some ⟨w.heap.size,0,none⟩),.pointer (some ⟨w.heap.size+1,0,none⟩),.pointer (some ⟨w.heap.size+1+1,0,none⟩),.pointer (some ⟨w.heap.size+1+1+1,0,none⟩),.slice none 0 0,.slice (some ⟨ib,0,none⟩) ni ic,.pointer (some ⟨xb,0,none⟩),dD,.pointer (some ⟨ob,0,none⟩),ed,ee,bo,bp,bq,br,bs,bt,bu,bw,bx,bA,bB,bC,dE,dF,dG,dH,dI,dJ,dK,dL,dM,dN,dO,dP,dQ,dR,dS,dT,dU,dV,dW,dX,dY,dZ,ea,ec,bD,bE,bF,bG,bH,bI,bJ,bK,bL,bM,bN,bO,bP,bQ,bR,bS,bT,bU,bV,bW,bX,bY,bZ,da,db,dc,dd,de,df,dg,dh,di,dj,dk,dl,dm,dn,dp,dq,dr,dt,du,dv,dw,dx,dy,dz,dA,dB,dC,aa,ab,ac,ad,ae,af,ag,ah,ai,aj,ak,al,am,an,ao,ap,aq,ar,au,av,aw,ax,ay,az,aA,aB,aC,aD,aE,aF,aG,aH,aI,aJ,aK,aL,aM,aN,aO,aP,aQ,aR,aS,aT,aU,aV,aW,aX,aY,aZ,bb,bd,be,bf,bg,bh,bi,bj,bk,bl,bm,undef,undef,undef,undef,undef,undef],[]⟩ W')):
  Code.wp Tryz.prog zj6 Q ⟨#[.agg #[.slice a1 n1 k1],.agg #[.slice a2 n2 k2],.agg #[.slice a3 n3 k3],.pointer (some ⟨w.heap.size,0,none⟩),.pointer (some ⟨w.heap.size+1,0,none⟩),.pointer (some ⟨w.heap.size+1+1,0,none⟩),.pointer (some ⟨w.heap.size+1+1+1,0,none⟩),.slice none 0 0,.slice (some ⟨ib,0,none⟩) ni ic,.pointer (some ⟨xb,0,none⟩),dD,.pointer (some ⟨ob,0,none⟩),.slice ba bn bc,.int .i64 (m:Int),bo,bp,bq,br,bs,bt,bu,bw,bx,bA,bB,bC,dE,dF,dG,dH,dI,dJ,dK,dL,dM,dN,dO,dP,dQ,dR,dS,dT,dU,dV,dW,dX,dY,dZ,ea,ec,bD,bE,bF,bG,bH,bI,bJ,bK,bL,bM,bN,bO,bP,bQ,bR,bS,bT,bU,bV,bW,bX,bY,bZ,da,db,dc,dd,de,df,dg,dh,di,dj,dk,dl,dm,dn,dp,dq,dr,dt,du,dv,dw,dx,dy,dz,dA,dB,dC,aa,ab,ac,ad,ae,af,ag,ah,ai,aj,ak,al,am,an,ao,ap,aq,ar,au,av,aw,ax,ay,az,aA,aB,aC,aD,aE,aF,aG,aH,aI,aJ,aK,aL,aM,aN,aO,aP,aQ,aR,aS,aT,aU,aV,aW,aX,aY,aZ,bb,bd,be,bf,bg,bh,bi,bj,bk,bl,bm,undef,undef,undef,undef,undef,undef],[]⟩ wr:=by
 obtain ⟨i0,hi,hz0,hz1,hz2⟩:=info_parts zeF
 have hun:True:=(fun _ _ _ _ _ _=>trivial) HBN hbl hol hni HB2 KB
 clear hun
 conv=>arg 2;whnf
 have g1:(0:Int)≤(m:Int):=by omega
 have g2:(m:Int)<(ni:Int):=by omega
 have CELLS:Hid (∀ W,Below wr.heap.size wr W→W.cell? ⟨w.heap.size,0,none⟩=some (.slice a1 n1 k1)∧W.cell? ⟨w.heap.size+1,0,none⟩=some (.slice a2 n2 k2)∧W.cell? ⟨w.heap.size+1+1,0,none⟩=some (.slice a3 n3 k3)∧W.cell? ⟨ib,m,none⟩=some (.string id)):=fun W hW=>by
  have hg:=(HS.out.step hW).g
  obtain ⟨e1,e2,e3,e4,e5,e6⟩:=KB.out
  have s1:=(Array.getElem?_eq_some_iff.1 e1).1
  have s2:=(Array.getElem?_eq_some_iff.1 e2).1
  have s3:=(Array.getElem?_eq_some_iff.1 e3).1
  have s6:ib<w2.heap.size:=World.block_lt_of_cell? _ _ e6
  refine ⟨zR ((hg.block _ s1 (fun z=> ?_)).trans e1),zR ((hg.block _ s2 (fun z=> ?_)).trans e2),zR ((hg.block _ s3 (fun z=> ?_)).trans e3),(World.cell?_of_block (a:=⟨ib,m,none⟩) (hg.block ib s6 (fun z=>e5 (Option.some.inj z)))).trans e6⟩
  ·have:w.heap.size=ob:=Option.some.inj z
   omega
  ·have:w.heap.size+1=ob:=Option.some.inj z
   omega
  ·have:w.heap.size+1+1=ob:=Option.some.inj z
   omega
 obtain ⟨cA,cB,cC,cI⟩:=CELLS.out wr (Below.refl _ _)
 go_upto_region 15 with (go_at_call 24;refine Calls.mono (T1.out _ (Below.refl _ _)) ?_;rintro rr w3 ⟨rfl,hb3⟩;have HB3:=hid hb3;clear hb3)
 clear cA cB cC cI
 obtain ⟨cA,cB,cC,cI⟩:=CELLS.out w3 HB3.out
 go_upto_region 16 with (go_at_call 24;refine Calls.mono (T2.out _ HB3.out) ?_;rintro rr w4 ⟨rfl,hb4⟩;have HB4:=hid (zB HB3.out hb4);clear hb4)
 clear cA cB cC cI
 obtain ⟨cA,cB,cC,cI⟩:=CELLS.out w4 HB4.out
 go_upto_region 17 with (go_at_call 24;refine Calls.mono (T3.out _ HB4.out) ?_;rintro rr w5 ⟨rfl,hb5⟩;have HB5:=hid (zB HB4.out hb5);clear hb5)
 clear cA cB cC cI T1 T2 T3 HB3 HB4
 have HS5:=hid (HS.out.step HB5.out)
 rcases HC.out with ⟨PT,HJ⟩|⟨E,sx,hs0,PT,RE,HEW,HJF,HJO⟩|⟨PT,hE,HJ⟩|⟨hp,hq0,hr,PT,E1,E2,E3,J,ra1,sa1,ma1,ra2,sa2,ma2,ra3,sa3,ma3,rn1,rc1,sn1,sc1,mn1,mc1,rn2,rc2,sn2,sc2,mn2,mc2,rn3,rc3,sn3,sc3,mn3,mc3,b1,b2,b3,j1,j2,j3,cn,CVL,ha1,ha2,ha3,hj1,hj2,hj3,HCN,KE,FD1,FD2,FD3,ME,HJC,HJW,HJF,HJO,hcn⟩
 ·clear HC
  go_wp2_with (go_at_call 25;refine Calls.mono (PT.out _) ?_;rintro rr w' ⟨rfl,hq⟩;have hq:=hq.symm;subst hq)
  refine HQ.out _ _ _ _ _ _ _ _ _ _ _ _ _ _ _ _ _ _ _ _ _ _ _ _ _ _ _ _ _ _ _ _ _ _ _ _ _ _ _ _ _ _ _ _ _ _ _ _ _ _ _ _ _ _ _ _ _ _ _ _ _ _ _ _ _ _ _ _ _ _ _ _ _ _ _ _ _ _ _ _ _ _ _ _ _ _ _ _ _ _ _ _ _ _ _ _ _ _ _ _ _ _ _ _ _ _ _ _ _ _ _ _ _ _ _ _ _ _ _ _ _ _ _ _ _ _ ?_
  exact ⟨ba,bn,bc,_,Os,cl,rfl,by go_num,HS5.out,HJ.out.symm⟩
 ·clear HC
  go_upto_region 21 with (go_at_call 25;refine Calls.mono (PT.out _) ?_;rintro rr w' ⟨rfl,hq⟩;have hq:=hq.symm;subst hq)
  have HE6:Hid ((w5.alloc (.cells zA 48)).heap[w5.heap.size]? =some (.cells zA 48 (0,0))):=zJ _ rfl
  have HB6:Hid (Below w5.heap.size w5 (w5.alloc (.cells zA 48))):=zC _ _
  generalize w5.alloc (.cells zA 48)=w6 at HE6 HB6 ⊢
  obtain ⟨eb,heb⟩: ∃ eb,w5.heap.size=eb:=⟨_,rfl⟩
  have HEB:=hid heb
  rw [heb] at HE6 ⊢
  clear heb
  obtain ⟨f0,f1,f2,f3,f4,f5,f6,f7,f8,f9,f10⟩:True∧True∧True∧True∧True∧True∧True∧True∧True∧True∧True:=by simp
  clear f0 f1 f2 f3 f4 f5 f6 f7 f8 f9 f10
  have FR:Hid (∀ W,Below w6.heap.size w6 W→W.heap[eb]? =some (.cells zA 48 (0,0))):=fun W hW=>(hW.block _ (Array.getElem?_eq_some_iff.1 HE6.out).1).trans HE6.out
  go_upto_region 31 with (go_at_call 26;refine Calls.mono (RE.out _) ?_;rintro rr w7 ⟨ra,rn,rc,sa,sn,sc,ma,mn,mc,rfl,ho1,ho2,ho3,hb7⟩;have HO7:Hid (Ow w6.heap.size w7 (.slice ra rn rc) E.ds∧Ow w6.heap.size w7 (.slice sa sn sc) E.sk∧OwM w6.heap.size w7 (.slice ma mn mc) E.mv):=⟨ho1,ho2,ho3⟩;have HB7:=hid hb7;have z7:=FR.out w7 hb7;obtain ⟨x0,x1,x2,x3,x4,x5,x6,x7,x8,x9,x10⟩:=zK z7;obtain ⟨y0,y1,y2,y3,y4,y5,y6,y7,y8,y9,y10⟩:=frz z7;have HZ7:Hid (_):=z7;clear z7 ho1 ho2 ho3 hb7)
  rw [zX]
  have hg8:=zT w7 eb (.string E.id) (.string E.ti) (.int .i64 E.st) (.int .i64 E.lg) (.string E.f) (.int .i64 E.e) (.slice ra rn rc) (.int .i64 E.c) (.int .i64 E.u) (.slice sa sn sc) (.slice ma mn mc)
  have HE8:Hid ((yI w7 eb (.string E.id) (.string E.ti) (.int .i64 E.st) (.int .i64 E.lg) (.string E.f) (.int .i64 E.e) (.slice ra rn rc) (.int .i64 E.c) (.int .i64 E.u) (.slice sa sn sc) (.slice ma mn mc)).heap[eb]? =some (.cells (eW E.id E.ti E.st E.lg E.f E.e ra rn rc E.c E.u sa sn sc ma mn mc) 48 (0,0))):=zk _ _ _ _ _ _ _ _ _ _ _ HZ7.out
  have HB8:Hid (Below w5.heap.size w5 (yI w7 eb (.string E.id) (.string E.ti) (.int .i64 E.st) (.int .i64 E.lg) (.string E.f) (.int .i64 E.e) (.slice ra rn rc) (.int .i64 E.c) (.int .i64 E.u) (.slice sa sn sc) (.slice ma mn mc))):=zy (zB HB6.out HB7.out) hg8 (by rw [HEB.out];exact Nat.le_refl _)
  have HL8:Hid (Got (yI w7 eb (.string E.id) (.string E.ti) (.int .i64 E.st) (.int .i64 E.lg) (.string E.f) (.int .i64 E.e) (.slice ra rn rc) (.int .i64 E.c) (.int .i64 E.u) (.slice sa sn sc) (.slice ma mn mc)) (.slice ra rn rc) E.ds∧Got (yI w7 eb (.string E.id) (.string E.ti) (.int .i64 E.st) (.int .i64 E.lg) (.string E.f) (.int .i64 E.e) (.slice ra rn rc) (.int .i64 E.c) (.int .i64 E.u) (.slice sa sn sc) (.slice ma mn mc)) (.slice sa sn sc) E.sk∧GotM (yI w7 eb (.string E.id) (.string E.ti) (.int .i64 E.st) (.int .i64 E.lg) (.string E.f) (.int .i64 E.e) (.slice ra rn rc) (.int .i64 E.c) (.int .i64 E.u) (.slice sa sn sc) (.slice ma mn mc)) (.slice ma mn mc) E.mv):=by
   obtain ⟨o1,o2,o3⟩:=HO7.out
   have q3:=World.ownsRow.kept o3 hg8 (.inr (yN o3 HZ7.out (by decide)))
   exact ⟨yq (World.ownsRow.kept o1 hg8 (.inr (yN o1 HZ7.out (by decide)))),yq (World.ownsRow.kept o2 hg8 (.inr (yN o2 HZ7.out (by decide)))),(zr q3 (by have:=(yX HEW.out.1.ls).2.1;omega)).2⟩
  have HS8:=hid (HS5.out.step HB8.out)
  clear x0 x1 x2 x3 x4 x5 x6 x7 x8 x9 x10 y0 y1 y2 y3 y4 y5 y6 y7 y8 y9 y10 hg8 FR HE6 HB6
  generalize yI w7 eb (.string E.id) (.string E.ti) (.int .i64 E.st) (.int .i64 E.lg) (.string E.f) (.int .i64 E.e) (.slice ra rn rc) (.int .i64 E.c) (.int .i64 E.u) (.slice sa sn sc) (.slice ma mn mc)=w8 at HE8 HB8 HL8 HS8 ⊢
  have MP:Hid (Calls Tryz.prog 18 #[.agg #[.slice oa on oc],.agg (eW E.id E.ti E.st E.lg E.f E.e ra rn rc E.c E.u sa sn sc ma mn mc)] w8 fun rr w'=> ∃ a' n' c' k',rr= .returned (.tuple #[.agg #[.slice a' n' c'],.int .i64 k'])∧Below w8.heap.size w8 w'∧MPutIs w8.heap.size (.slice oa on oc) Os ⟨E,.slice ra rn rc,.slice sa sn sc,.slice ma mn mc⟩ 0 (.slice a' n' c') k' w'):=by
   obtain ⟨base,hm⟩:=HS8.out.m
   exact zco base E ra rn rc sa sn sc ma mn mc _ Os 0 w8 hm (by omega) HS8.out.k (.inl rfl) (fun W hW=>zj7 E HEW.out.1 HEW.out.2 _ _ _ W (HL8.out.1.step hW) (HL8.out.2.1.step hW) (HL8.out.2.2.step hW))
  have cO:=zR HS8.out.o
  obtain ⟨t0,t1,t2,t3,t4,t5,t6,t7,t8,t9,t10⟩:=zK HE8.out
  go_upto_region 32 with (go_at_call 18;refine Calls.mono MP.out ?_;rintro rr w9 ⟨ya,yn,yc,yk,rfl,hb9,hpi⟩;have HB9:=hid hb9;have HPI:=hid hpi;clear hb9 hpi)
  clear t0 t1 t2 t3 t4 t5 t6 t7 t8 t9 t10 cO MP
  have HA10:Hid (Below w9.heap.size w9 (w9.alloc (.cells #[.slice ya yn yc] 27))):=zC _ _
  have HB10:=hid (zB HB9.out HA10.out)
  have HY10:Hid ((w9.alloc (.cells #[.slice ya yn yc] 27)).heap[w9.heap.size]? =some (.cells #[.slice ya yn yc] 27 (0,0))):=zJ _ rfl
  have HS10:=hid (HS8.out.step HB10.out)
  generalize w9.heap.size=yb at HA10 HY10 ⊢
  have HPX:Hid ((¬ ((¬ ∃ Y∈Os,Y.E.id=E.id)∧60≤Os.length)→yk=0∧MR w8.heap.size (w9.alloc (.cells #[.slice ya yn yc] 27)) (.slice ya yn yc) (ins ⟨E,.slice ra rn rc,.slice sa sn sc,.slice ma mn mc⟩ (Os.filter fun Y=>decide (Y.E.id≠E.id))))∧(((¬ ∃ Y∈Os,Y.E.id=E.id)∧60≤Os.length)→yk=7)):=by
   have zz:Below w9.heap.size w9 (w9.alloc (.cells #[.slice ya yn yc] 27)):=zC _ _
   rcases HPI.out with ⟨h,_⟩|⟨_,h2,h3,_⟩|⟨_,h2,h3,h4⟩
   ·exact absurd rfl h
   ·exact ⟨fun z=>absurd h2 z,fun _=>h3⟩
   ·exact ⟨fun _=>⟨h3,h4.far (fun k _ hk=>zz.block k hk)⟩,fun z=>absurd z h2⟩
  clear HPI HA10
  generalize w9.alloc (.cells #[.slice ya yn yc] 27)=w10 at HB10 HY10 HS10 HPX ⊢
  by_cases hfull:((¬ ∃ Y∈Os,Y.E.id=E.id)∧60≤Os.length)
  ·have hk:=HPX.out.2 hfull
   subst hk
   have HJ:Hid (_):=HJF.out hfull
   clear HPX HY10 hfull
   have HRW:Hid (World.ownsRow (w10.alloc (.cells #[.string id,.string ⟨#[97,108,108]⟩] 70)) w2.heap.size 70 2 (.slice ba bn bc) bn (cl.flatMap fun c=>[Value.string c.1,.string c.2])):=by
    have z:=(HS10.out.step (zC w10 (.cells #[.string id,.string ⟨#[97,108,108]⟩] 70))).c
    unfold zh9 at z
    rw [←HBN.out] at z
    exact z
   have NC:Hid (∀ (j:Nat) (v:Value),[Value.string id,.string ⟨#[97,108,108]⟩][j]? =some v→(w10.alloc (.cells #[.string id,.string ⟨#[97,108,108]⟩] 70)).cell? ((⟨w10.heap.size,0,none⟩:Addr).add j)=some v):=yu w10 _ _
   have HBS:Hid (w2.heap.size≤(w10.alloc (.cells #[.string id,.string ⟨#[97,108,108]⟩] 70)).heap.size):=by
    show _≤_
    have h1:=HS10.out.g.size
    rw [World.size_alloc]
    omega
   go_wp2_with (at_builtin;refine wpList_append_own_at _ (by rfl) _ _ 33 (by rfl) w2.heap.size 70 i0 (.agg #[.string ⟨#[]⟩,.string ⟨#[]⟩]) 2 32 Tryz.underlying33 hi hz0 hz1 hz2 rfl (by decide) (.slice ba bn bc) bn (cl.flatMap fun c=>[Value.string c.1,.string c.2]) (by rfl) HRW.out ⟨w10.heap.size,0,none⟩ 1 1 [.string id,.string ⟨#[97,108,108]⟩] (by rfl) rfl NC.out (fun v hv=>by rcases List.mem_cons.1 hv with q|q;rw [q];rfl;rw [List.mem_singleton.1 q];rfl) (by unfold maxLen;omega) (by omega) HBS.out ?_;intro v' w7 hown' hgrow _ hat;have HOWN:=hid hown';have HGR:=hid hgrow;obtain ⟨na,nc,rfl⟩:=zQ hown';clear hown' hgrow hat)
   have HF:Hid (MOW w2 w7 ob (.slice oa on oc) (.slice na (bn+1) nc) Os (cl++[(id,⟨#[97,108,108]⟩)])):=by
    have z:=HOWN.out
    rw [HBN.out] at z
    have z2:=(HS10.out.step (zC w10 (.cells #[.string id,.string ⟨#[97,108,108]⟩] 70))).add z HGR.out
    rw [←HBN.out] at z2
    exact z2
   refine HQ.out _ _ _ _ _ _ _ _ _ _ _ _ _ _ _ _ _ _ _ _ _ _ _ _ _ _ _ _ _ _ _ _ _ _ _ _ _ _ _ _ _ _ _ _ _ _ _ _ _ _ _ _ _ _ _ _ _ _ _ _ _ _ _ _ _ _ _ _ _ _ _ _ _ _ _ _ _ _ _ _ _ _ _ _ _ _ _ _ _ _ _ _ _ _ _ _ _ _ _ _ _ _ _ _ _ _ _ _ _ _ _ _ _ _ _ _ _ _ _ _ _ _ _ _ _ _ ?_
   exact ⟨na,bn+1,nc,_,Os,cl++[(id,jZ)],rfl,by go_num,HF.out,HJ.out.symm⟩
  ·obtain ⟨hk,hmr⟩:=HPX.out.1 hfull
   subst hk
   have HMR:Hid (_):=hmr
   have HJ:=hid (HJO.out hfull)
   clear hfull hmr HPX
   have cY:=zR HY10.out
   have cO:=zR HS10.out.o
   have fO:=zF HS10.out.o 0
   go_wp2
   refine HQ.out _ _ _ _ _ _ _ _ _ _ _ _ _ _ _ _ _ _ _ _ _ _ _ _ _ _ _ _ _ _ _ _ _ _ _ _ _ _ _ _ _ _ _ _ _ _ _ _ _ _ _ _ _ _ _ _ _ _ _ _ _ _ _ _ _ _ _ _ _ _ _ _ _ _ _ _ _ _ _ _ _ _ _ _ _ _ _ _ _ _ _ _ _ _ _ _ _ _ _ _ _ _ _ _ _ _ _ _ _ _ _ _ _ _ _ _ _ _ _ _ _ _ _ _ _ _ ?_
   refine ⟨ba,bn,bc,_,ins ⟨E,.slice ra rn rc,.slice sa sn sc,.slice ma mn mc⟩ (Os.filter fun Y=>decide (Y.E.id≠E.id)),cl,rfl,by go_num,HS10.out.put HMR.out (fun Y hY=> ?_) (fun hc Y hY=> ?_),?_⟩
   ·rcases jK.1 hY with rfl|hY
    ·exact ⟨⟨_,_,_,rfl⟩,⟨_,_,_,rfl⟩,⟨_,_,_,rfl⟩⟩
    ·exact HS10.out.k Y (List.mem_filter.1 hY).1
   ·rcases jK.1 hY with rfl|hY
    ·exact ⟨HL8.out.1.step HB10.out,HL8.out.2.1.step HB10.out,HL8.out.2.2.step HB10.out,HEW.out.2,HEW.out.1⟩
    ·exact HS10.out.x hc Y (List.mem_filter.1 hY).1
   ·rw [HJ.out]
    exact congrArg (·,cl) (zaT ⟨E,.slice ra rn rc,.slice sa sn sc,.slice ma mn mc⟩ Os)
 ·clear HC
  have HE:Hid (_):=hE
  clear hE
  go_upto_region 22 with (go_at_call 25;refine Calls.mono (PT.out _) ?_;rintro rr w' ⟨rfl,hq⟩;have hq:=hq.symm;subst hq)
  have HS6:Hid (MOW w2 (w5.alloc (.cells zA 48)) ob (.slice oa on oc) (.slice ba bn bc) Os cl):=HS5.out.step (zC _ _)
  generalize w5.alloc (.cells zA 48)=w6 at HS6 ⊢
  rcases HE.out with e1|⟨e1,e2⟩|⟨e1,e2,e3⟩
  ·subst e1
   have HRW:Hid (World.ownsRow (w6.alloc (.cells #[.string id,.string ⟨#[97,108,108]⟩] 70)) w2.heap.size 70 2 (.slice ba bn bc) bn (cl.flatMap fun c=>[Value.string c.1,.string c.2])):=by
    have z:=(HS6.out.step (zC w6 (.cells #[.string id,.string ⟨#[97,108,108]⟩] 70))).c
    unfold zh9 at z
    rw [←HBN.out] at z
    exact z
   have NC:Hid (∀ (j:Nat) (v:Value),[Value.string id,.string ⟨#[97,108,108]⟩][j]? =some v→(w6.alloc (.cells #[.string id,.string ⟨#[97,108,108]⟩] 70)).cell? ((⟨w6.heap.size,0,none⟩:Addr).add j)=some v):=yu w6 _ _
   have HBS:Hid (w2.heap.size≤(w6.alloc (.cells #[.string id,.string ⟨#[97,108,108]⟩] 70)).heap.size):=by
    show _≤_
    have h1:=HS6.out.g.size
    rw [World.size_alloc]
    omega
   go_wp2_with (at_builtin;refine wpList_append_own_at _ (by rfl) _ _ 33 (by rfl) w2.heap.size 70 i0 (.agg #[.string ⟨#[]⟩,.string ⟨#[]⟩]) 2 32 Tryz.underlying33 hi hz0 hz1 hz2 rfl (by decide) (.slice ba bn bc) bn (cl.flatMap fun c=>[Value.string c.1,.string c.2]) (by rfl) HRW.out ⟨w6.heap.size,0,none⟩ 1 1 [.string id,.string ⟨#[97,108,108]⟩] (by rfl) rfl NC.out (fun v hv=>by rcases List.mem_cons.1 hv with q|q;rw [q];rfl;rw [List.mem_singleton.1 q];rfl) (by unfold maxLen;omega) (by omega) HBS.out ?_;intro v' w7 hown' hgrow _ hat;have HOWN:=hid hown';have HGR:=hid hgrow;obtain ⟨na,nc,rfl⟩:=zQ hown';clear hown' hgrow hat)
   have HF:Hid (MOW w2 w7 ob (.slice oa on oc) (.slice na (bn+1) nc) Os (cl++[(id,⟨#[97,108,108]⟩)])):=by
    have z:=HOWN.out
    rw [HBN.out] at z
    have z2:=(HS6.out.step (zC w6 (.cells #[.string id,.string ⟨#[97,108,108]⟩] 70))).add z HGR.out
    rw [←HBN.out] at z2
    exact z2
   refine HQ.out _ _ _ _ _ _ _ _ _ _ _ _ _ _ _ _ _ _ _ _ _ _ _ _ _ _ _ _ _ _ _ _ _ _ _ _ _ _ _ _ _ _ _ _ _ _ _ _ _ _ _ _ _ _ _ _ _ _ _ _ _ _ _ _ _ _ _ _ _ _ _ _ _ _ _ _ _ _ _ _ _ _ _ _ _ _ _ _ _ _ _ _ _ _ _ _ _ _ _ _ _ _ _ _ _ _ _ _ _ _ _ _ _ _ _ _ _ _ _ _ _ _ _ _ _ _ ?_
   exact ⟨na,bn+1,nc,_,Os,cl++[(id,jZ)],rfl,by go_num,HF.out,HJ.out.symm⟩
  ·subst e2
   have HRW:Hid (World.ownsRow (w6.alloc (.cells #[.string id,.string ⟨#[97,108,108]⟩] 70)) w2.heap.size 70 2 (.slice ba bn bc) bn (cl.flatMap fun c=>[Value.string c.1,.string c.2])):=by
    have z:=(HS6.out.step (zC w6 (.cells #[.string id,.string ⟨#[97,108,108]⟩] 70))).c
    unfold zh9 at z
    rw [←HBN.out] at z
    exact z
   have NC:Hid (∀ (j:Nat) (v:Value),[Value.string id,.string ⟨#[97,108,108]⟩][j]? =some v→(w6.alloc (.cells #[.string id,.string ⟨#[97,108,108]⟩] 70)).cell? ((⟨w6.heap.size,0,none⟩:Addr).add j)=some v):=yu w6 _ _
   have HBS:Hid (w2.heap.size≤(w6.alloc (.cells #[.string id,.string ⟨#[97,108,108]⟩] 70)).heap.size):=by
    show _≤_
    have h1:=HS6.out.g.size
    rw [World.size_alloc]
    omega
   go_wp2_with (at_builtin;refine wpList_append_own_at _ (by rfl) _ _ 33 (by rfl) w2.heap.size 70 i0 (.agg #[.string ⟨#[]⟩,.string ⟨#[]⟩]) 2 32 Tryz.underlying33 hi hz0 hz1 hz2 rfl (by decide) (.slice ba bn bc) bn (cl.flatMap fun c=>[Value.string c.1,.string c.2]) (by rfl) HRW.out ⟨w6.heap.size,0,none⟩ 1 1 [.string id,.string ⟨#[97,108,108]⟩] (by rfl) rfl NC.out (fun v hv=>by rcases List.mem_cons.1 hv with q|q;rw [q];rfl;rw [List.mem_singleton.1 q];rfl) (by unfold maxLen;omega) (by omega) HBS.out ?_;intro v' w7 hown' hgrow _ hat;have HOWN:=hid hown';have HGR:=hid hgrow;obtain ⟨na,nc,rfl⟩:=zQ hown';clear hown' hgrow hat)
   have HF:Hid (MOW w2 w7 ob (.slice oa on oc) (.slice na (bn+1) nc) Os (cl++[(id,⟨#[97,108,108]⟩)])):=by
    have z:=HOWN.out
    rw [HBN.out] at z
    have z2:=(HS6.out.step (zC w6 (.cells #[.string id,.string ⟨#[97,108,108]⟩] 70))).add z HGR.out
    rw [←HBN.out] at z2
    exact z2
   refine HQ.out _ _ _ _ _ _ _ _ _ _ _ _ _ _ _ _ _ _ _ _ _ _ _ _ _ _ _ _ _ _ _ _ _ _ _ _ _ _ _ _ _ _ _ _ _ _ _ _ _ _ _ _ _ _ _ _ _ _ _ _ _ _ _ _ _ _ _ _ _ _ _ _ _ _ _ _ _ _ _ _ _ _ _ _ _ _ _ _ _ _ _ _ _ _ _ _ _ _ _ _ _ _ _ _ _ _ _ _ _ _ _ _ _ _ _ _ _ _ _ _ _ _ _ _ _ _ ?_
   exact ⟨na,bn+1,nc,_,Os,cl++[(id,jZ)],rfl,by go_num,HF.out,HJ.out.symm⟩
  ·subst e3
   have HRW:Hid (World.ownsRow (w6.alloc (.cells #[.string id,.string ⟨#[97,108,108]⟩] 70)) w2.heap.size 70 2 (.slice ba bn bc) bn (cl.flatMap fun c=>[Value.string c.1,.string c.2])):=by
    have z:=(HS6.out.step (zC w6 (.cells #[.string id,.string ⟨#[97,108,108]⟩] 70))).c
    unfold zh9 at z
    rw [←HBN.out] at z
    exact z
   have NC:Hid (∀ (j:Nat) (v:Value),[Value.string id,.string ⟨#[97,108,108]⟩][j]? =some v→(w6.alloc (.cells #[.string id,.string ⟨#[97,108,108]⟩] 70)).cell? ((⟨w6.heap.size,0,none⟩:Addr).add j)=some v):=yu w6 _ _
   have HBS:Hid (w2.heap.size≤(w6.alloc (.cells #[.string id,.string ⟨#[97,108,108]⟩] 70)).heap.size):=by
    show _≤_
    have h1:=HS6.out.g.size
    rw [World.size_alloc]
    omega
   go_wp2_with (at_builtin;refine wpList_append_own_at _ (by rfl) _ _ 33 (by rfl) w2.heap.size 70 i0 (.agg #[.string ⟨#[]⟩,.string ⟨#[]⟩]) 2 32 Tryz.underlying33 hi hz0 hz1 hz2 rfl (by decide) (.slice ba bn bc) bn (cl.flatMap fun c=>[Value.string c.1,.string c.2]) (by rfl) HRW.out ⟨w6.heap.size,0,none⟩ 1 1 [.string id,.string ⟨#[97,108,108]⟩] (by rfl) rfl NC.out (fun v hv=>by rcases List.mem_cons.1 hv with q|q;rw [q];rfl;rw [List.mem_singleton.1 q];rfl) (by unfold maxLen;omega) (by omega) HBS.out ?_;intro v' w7 hown' hgrow _ hat;have HOWN:=hid hown';have HGR:=hid hgrow;obtain ⟨na,nc,rfl⟩:=zQ hown';clear hown' hgrow hat)
   have HF:Hid (MOW w2 w7 ob (.slice oa on oc) (.slice na (bn+1) nc) Os (cl++[(id,⟨#[97,108,108]⟩)])):=by
    have z:=HOWN.out
    rw [HBN.out] at z
    have z2:=(HS6.out.step (zC w6 (.cells #[.string id,.string ⟨#[97,108,108]⟩] 70))).add z HGR.out
    rw [←HBN.out] at z2
    exact z2
   refine HQ.out _ _ _ _ _ _ _ _ _ _ _ _ _ _ _ _ _ _ _ _ _ _ _ _ _ _ _ _ _ _ _ _ _ _ _ _ _ _ _ _ _ _ _ _ _ _ _ _ _ _ _ _ _ _ _ _ _ _ _ _ _ _ _ _ _ _ _ _ _ _ _ _ _ _ _ _ _ _ _ _ _ _ _ _ _ _ _ _ _ _ _ _ _ _ _ _ _ _ _ _ _ _ _ _ _ _ _ _ _ _ _ _ _ _ _ _ _ _ _ _ _ _ _ _ _ _ ?_
   exact ⟨na,bn+1,nc,_,Os,cl++[(id,jZ)],rfl,by go_num,HF.out,HJ.out.symm⟩
 ·clear HC
  have HA1:Hid (_):=ha1
  have HA2:Hid (_):=ha2
  have HA3:Hid (_):=ha3
  clear ha1 ha2 ha3
  have HK5:Hid (∀ W,Below w5.heap.size w5 W→Below wr.heap.size wr W):=fun W hW=>zB HB5.out hW
  go_upto_region 24 with (go_at_call 25;refine Calls.mono (PT.out _) ?_;rintro rr w' ⟨rfl,hq⟩;have hq:=hq.symm;subst hq)
  have HE6:Hid ((w5.alloc (.cells zA 48)).heap[w5.heap.size]? =some (.cells zA 48 (0,0))):=zJ _ rfl
  have HB56:Hid (Below w5.heap.size w5 (w5.alloc (.cells zA 48))):=zC _ _
  have HSZ6:Hid (w5.heap.size<(w5.alloc (.cells zA 48)).heap.size):=by show _<_;rw [World.size_alloc];omega
  generalize w5.alloc (.cells zA 48)=w6 at HE6 HB56 HSZ6 ⊢
  obtain ⟨eb,heb⟩: ∃ eb,w5.heap.size=eb:=⟨_,rfl⟩
  have HEB:=hid heb
  rw [heb] at HE6 ⊢
  clear heb
  have HB6:=hid (zB HB5.out HB56.out)
  have l1:(0:Int)≤(j1:Int):=by omega
  have l2:(j1:Int)<(n1:Int):=by omega
  have l3:(0:Int)≤(j2:Int):=by omega
  have l4:(j2:Int)<(n2:Int):=by omega
  have l5:(0:Int)≤(j3:Int):=by omega
  have l6:(j3:Int)<(n3:Int):=by omega
  have KS:Hid (∀ W,Below w6.heap.size w6 W→Below w6.heap.size w6 W∧W.cell? ⟨w.heap.size,0,none⟩=some (.slice a1 n1 k1)∧W.cell? ⟨w.heap.size+1,0,none⟩=some (.slice a2 n2 k2)∧W.cell? ⟨w.heap.size+1+1,0,none⟩=some (.slice a3 n3 k3)∧W.cell? ⟨b1,j1*11,none⟩=some (.string E1.id)∧W.cell? ⟨b1,j1*11+1,none⟩=some (.string E1.ti)∧W.cell? ⟨b1,j1*11+2,none⟩=some (.int .i64 E1.st)∧W.cell? ⟨b1,j1*11+3,none⟩=some (.int .i64 E1.lg)∧W.cell? ⟨b1,j1*11+4,none⟩=some (.string E1.f)∧W.cell? ⟨b1,j1*11+5,none⟩=some (.int .i64 E1.e)∧W.cell? ⟨b1,j1*11+6,none⟩=some (.slice ra1 rn1 rc1)∧W.cell? ⟨b1,j1*11+7,none⟩=some (.int .i64 E1.c)∧W.cell? ⟨b1,j1*11+8,none⟩=some (.int .i64 E1.u)∧W.cell? ⟨b1,j1*11+9,none⟩=some (.slice sa1 sn1 sc1)∧W.cell? ⟨b1,j1*11+10,none⟩=some (.slice ma1 mn1 mc1)∧W.cell? ⟨b2,j2*11,none⟩=some (.string E2.id)∧W.cell? ⟨b2,j2*11+1,none⟩=some (.string E2.ti)∧W.cell? ⟨b2,j2*11+2,none⟩=some (.int .i64 E2.st)∧W.cell? ⟨b2,j2*11+3,none⟩=some (.int .i64 E2.lg)∧W.cell? ⟨b2,j2*11+4,none⟩=some (.string E2.f)∧W.cell? ⟨b2,j2*11+5,none⟩=some (.int .i64 E2.e)∧W.cell? ⟨b2,j2*11+6,none⟩=some (.slice ra2 rn2 rc2)∧W.cell? ⟨b2,j2*11+7,none⟩=some (.int .i64 E2.c)∧W.cell? ⟨b2,j2*11+8,none⟩=some (.int .i64 E2.u)∧W.cell? ⟨b2,j2*11+9,none⟩=some (.slice sa2 sn2 sc2)∧W.cell? ⟨b2,j2*11+10,none⟩=some (.slice ma2 mn2 mc2)∧W.cell? ⟨b3,j3*11,none⟩=some (.string E3.id)∧W.cell? ⟨b3,j3*11+1,none⟩=some (.string E3.ti)∧W.cell? ⟨b3,j3*11+2,none⟩=some (.int .i64 E3.st)∧W.cell? ⟨b3,j3*11+3,none⟩=some (.int .i64 E3.lg)∧W.cell? ⟨b3,j3*11+4,none⟩=some (.string E3.f)∧W.cell? ⟨b3,j3*11+5,none⟩=some (.int .i64 E3.e)∧W.cell? ⟨b3,j3*11+6,none⟩=some (.slice ra3 rn3 rc3)∧W.cell? ⟨b3,j3*11+7,none⟩=some (.int .i64 E3.c)∧W.cell? ⟨b3,j3*11+8,none⟩=some (.int .i64 E3.u)∧W.cell? ⟨b3,j3*11+9,none⟩=some (.slice sa3 sn3 sc3)∧W.cell? ⟨b3,j3*11+10,none⟩=some (.slice ma3 mn3 mc3)):=fun W hW=>⟨hW,KE.out W (zB HB6.out hW)⟩
  clear CELLS hp hq0 hr
  have ha1:=HA1.out
  have ha2:=HA2.out
  have ha3:=HA3.out
  clear HA1 HA2 HA3
  subst ha1 ha2 ha3
  go_cut [21,22] from 103 to 127 (fun v21 v22 wx=> ∃ (mb:Nat) (mid mti mf:ByteArray) (mst mlg me mc_ mu:Int) (mra msa mma:Option Addr) (mrn mrc msn msc mmn mmc:Nat) (ca:Option Addr) (cc:Nat),v21= .pointer (some ⟨mb,0,none⟩)∧v22= .slice ca cn cc∧Hid (MoMid w5 wr wx eb mb (eW mid mti mst mlg mf me mra mrn mrc mc_ mu msa msn msc mma mmn mmc) (.slice ca cn cc) CVL (fun W_=>MEL wr W_ J mid mti mf mst mlg me mc_ mu (.slice mra mrn mrc) (.slice msa msn msc) (.slice mma mmn mmc))))
  case first=>
   go_region_held3 (fun W=>Below w6.heap.size w6 W∧W.cell? ⟨w.heap.size,0,none⟩=some (.slice (some ⟨b1,0,none⟩) n1 k1)∧W.cell? ⟨w.heap.size+1,0,none⟩=some (.slice (some ⟨b2,0,none⟩) n2 k2)∧W.cell? ⟨w.heap.size+1+1,0,none⟩=some (.slice (some ⟨b3,0,none⟩) n3 k3)∧W.cell? ⟨b1,j1*11,none⟩=some (.string E1.id)∧W.cell? ⟨b1,j1*11+1,none⟩=some (.string E1.ti)∧W.cell? ⟨b1,j1*11+2,none⟩=some (.int .i64 E1.st)∧W.cell? ⟨b1,j1*11+3,none⟩=some (.int .i64 E1.lg)∧W.cell? ⟨b1,j1*11+4,none⟩=some (.string E1.f)∧W.cell? ⟨b1,j1*11+5,none⟩=some (.int .i64 E1.e)∧W.cell? ⟨b1,j1*11+6,none⟩=some (.slice ra1 rn1 rc1)∧W.cell? ⟨b1,j1*11+7,none⟩=some (.int .i64 E1.c)∧W.cell? ⟨b1,j1*11+8,none⟩=some (.int .i64 E1.u)∧W.cell? ⟨b1,j1*11+9,none⟩=some (.slice sa1 sn1 sc1)∧W.cell? ⟨b1,j1*11+10,none⟩=some (.slice ma1 mn1 mc1)∧W.cell? ⟨b2,j2*11,none⟩=some (.string E2.id)∧W.cell? ⟨b2,j2*11+1,none⟩=some (.string E2.ti)∧W.cell? ⟨b2,j2*11+2,none⟩=some (.int .i64 E2.st)∧W.cell? ⟨b2,j2*11+3,none⟩=some (.int .i64 E2.lg)∧W.cell? ⟨b2,j2*11+4,none⟩=some (.string E2.f)∧W.cell? ⟨b2,j2*11+5,none⟩=some (.int .i64 E2.e)∧W.cell? ⟨b2,j2*11+6,none⟩=some (.slice ra2 rn2 rc2)∧W.cell? ⟨b2,j2*11+7,none⟩=some (.int .i64 E2.c)∧W.cell? ⟨b2,j2*11+8,none⟩=some (.int .i64 E2.u)∧W.cell? ⟨b2,j2*11+9,none⟩=some (.slice sa2 sn2 sc2)∧W.cell? ⟨b2,j2*11+10,none⟩=some (.slice ma2 mn2 mc2)∧W.cell? ⟨b3,j3*11,none⟩=some (.string E3.id)∧W.cell? ⟨b3,j3*11+1,none⟩=some (.string E3.ti)∧W.cell? ⟨b3,j3*11+2,none⟩=some (.int .i64 E3.st)∧W.cell? ⟨b3,j3*11+3,none⟩=some (.int .i64 E3.lg)∧W.cell? ⟨b3,j3*11+4,none⟩=some (.string E3.f)∧W.cell? ⟨b3,j3*11+5,none⟩=some (.int .i64 E3.e)∧W.cell? ⟨b3,j3*11+6,none⟩=some (.slice ra3 rn3 rc3)∧W.cell? ⟨b3,j3*11+7,none⟩=some (.int .i64 E3.c)∧W.cell? ⟨b3,j3*11+8,none⟩=some (.int .i64 E3.u)∧W.cell? ⟨b3,j3*11+9,none⟩=some (.slice sa3 sn3 sc3)∧W.cell? ⟨b3,j3*11+10,none⟩=some (.slice ma3 mn3 mc3)) ((refine KS.out _ ?_;(first|(rw [zX];refine zy hB4 (zT _ _ _ _ _ _ _ _ _ _ _ _ _) ?_;first|with_reducible exact hB3.size|with_reducible exact hB2.size|with_reducible exact hB1.size|with_reducible exact Nat.le_refl _)|with_reducible assumption|with_reducible exact zI _|with_reducible exact zB (zC _ _) (zI _)|with_reducible exact zB (zI _) (zC _ _)|with_reducible exact zB hB1 (zC _ _)|with_reducible exact zB hB2 (zC _ _)|with_reducible exact zB hB3 (zC _ _)|with_reducible exact zB hB4 (zC _ _))))
    (first
     |(go_at_call_of 28 (Value.agg #[.slice (some ⟨b1,0,none⟩) n1 k1]);refine Calls.mono (FD1.out _ (zB HB6.out ?_)) ?_;(first|with_reducible exact zI _|with_reducible exact zB (zC _ _) (zI _)|with_reducible exact zB (zI _) (zC _ _));rintro rr wf1 ⟨rfl,hf1⟩;have hB1:Below w6.heap.size w6 wf1:=(by first|with_reducible exact zB (zI _) hf1|with_reducible exact zB (zB (zC _ _) (zI _)) hf1|with_reducible exact zB (zB (zI _) (zC _ _)) hf1);(try (have zb1:wf1.heap[w6.heap.size]? =some (.cells zA 48 (0,0)):=jB (V:=w6) hf1 rfl rfl)))
     |(go_at_call_of 28 (Value.agg #[.slice (some ⟨b2,0,none⟩) n2 k2]);refine Calls.mono (FD2.out _ (zB HB6.out ?_)) ?_;(first|with_reducible exact hB1|with_reducible exact zB hB1 (zC _ _));rintro rr wf2 ⟨rfl,hf2⟩;have hB2:Below w6.heap.size w6 wf2:=(by first|with_reducible exact zB hB1 hf2|with_reducible exact zB (zB hB1 (zC _ _)) hf2);(try (have zb2:wf2.heap[wf1.heap.size]? =some (.cells zA 48 (0,0)):=jB (V:=wf1) hf2 rfl rfl));(try (have zb1:=zq hf2 zb1)))
     |(go_at_call_of 28 (Value.agg #[.slice (some ⟨b3,0,none⟩) n3 k3]);refine Calls.mono (FD3.out _ (zB HB6.out ?_)) ?_;(first|with_reducible exact hB2|with_reducible exact zB hB2 (zC _ _));rintro rr wf3 ⟨rfl,hf3⟩;have hB3:Below w6.heap.size w6 wf3:=(by first|with_reducible exact zB hB2 hf3|with_reducible exact zB (zB hB2 (zC _ _)) hf3);(try (have zb3:wf3.heap[wf2.heap.size]? =some (.cells zA 48 (0,0)):=jB (V:=wf2) hf3 rfl rfl));(try (have zb1:=zq hf3 zb1));(try (have zb2:=zq hf3 zb2)))
     |(go_at_call 27;refine Calls.mono (ME.out _ (zB HB6.out ?_)) ?_;(first|with_reducible exact hB3|with_reducible exact zB hB3 (zC _ _));rintro rr wm ⟨mid,mti,mf,mst,mlg,me,mc_,mu,mra,msa,mma,mrn,mrc,msn,msc,mmn,mmc,ca,cc,rfl,hnm,hmel,hf4⟩;have HNM:Hid (NmR wr.heap.size wm (.slice ca cn cc) CVL):=zW hnm (by first|exact (zB HB6.out hB3).size|exact Nat.le_trans (zB HB6.out hB3).size (zC _ _).size);have HMEL:=hid hmel;clear hnm hmel;have hB4:Below w6.heap.size w6 wm:=(by first|with_reducible exact zB hB3 hf4|with_reducible exact zB (zB hB3 (zC _ _)) hf4);(try (have zb4:wm.heap[wf3.heap.size]? =some (.cells zA 48 (0,0)):=jB (V:=wf3) hf4 rfl rfl));(try (have zb1:=zq hf4 zb1));(try (have zb2:=zq hf4 zb2));(try (have zb3:=zq hf4 zb3));(try (obtain ⟨q0,q1,q2,q3,q4,q5,q6,q7,q8,q9,q10⟩:=zK zb1;obtain ⟨y0,y1,y2,y3,y4,y5,y6,y7,y8,y9,y10⟩:=frz zb1;have HZB:=hid zb1;clear zb1));(try (obtain ⟨q0,q1,q2,q3,q4,q5,q6,q7,q8,q9,q10⟩:=zK zb2;obtain ⟨y0,y1,y2,y3,y4,y5,y6,y7,y8,y9,y10⟩:=frz zb2;have HZB:=hid zb2;clear zb2));(try (obtain ⟨q0,q1,q2,q3,q4,q5,q6,q7,q8,q9,q10⟩:=zK zb3;obtain ⟨y0,y1,y2,y3,y4,y5,y6,y7,y8,y9,y10⟩:=frz zb3;have HZB:=hid zb3;clear zb3));(try (obtain ⟨q0,q1,q2,q3,q4,q5,q6,q7,q8,q9,q10⟩:=zK zb4;obtain ⟨y0,y1,y2,y3,y4,y5,y6,y7,y8,y9,y10⟩:=frz zb4;have HZB:=hid zb4;clear zb4))))
   all_goals
    go_wp2_with fail
    go_meet
    case rel=>
     first
      |(rw [zX];refine ⟨_,mid,mti,mf,mst,mlg,me,mc_,mu,mra,msa,mma,mrn,mrc,msn,msc,mmn,mmc,ca,cc,rfl,rfl,?_⟩;refine zlb HB56.out HSZ6.out HEB.out HE6.out hB4 ?_ HZB.out (zT _ _ _ _ _ _ _ _ _ _ _ _ _) (zk _ _ _ _ _ _ _ _ _ _ _ HZB.out) HNM.out HMEL.out (fun W W' B cs fr hw hg hl=>hl.put hw (by decide) (by decide) hg);first|with_reducible exact hB3.size|with_reducible exact hB2.size|with_reducible exact hB1.size|with_reducible exact Nat.le_refl _)
      |(refine ⟨_,mid,mti,mf,mst,mlg,me,mc_,mu,mra,msa,mma,mrn,mrc,msn,msc,mmn,mmc,ca,cc,rfl,rfl,?_⟩;exact zia HB56.out HE6.out hB4 HNM.out HMEL.out (fun W W' hw hl=>hl.step hw))
  case rest=>
   obtain ⟨mb,mid,mti,mf,mst,mlg,me,mc_,mu,mra,msa,mma,mrn,mrc,msn,msc,mmn,mmc,ca,cc,rfl,rfl,HMID⟩:=hcut
   clear ME KE FD1 FD2 FD3 KS KB
   generalize (some (⟨b1,0,none⟩:Addr))=a1 at*
   generalize (some (⟨b2,0,none⟩:Addr))=a2 at*
   generalize (some (⟨b3,0,none⟩:Addr))=a3 at*
   by_cases hCV:CVL=[]
   ·have hcn0:cn=0:=by rw [HCN.out,hCV];rfl
    subst hcn0
    have fL:=HMID.out.e hCV
    obtain ⟨rfl,rfl,rfl,rfl,rfl,rfl,rfl,rfl,ld,ls,lm⟩:=fL
    have HEW:=hid (HJW.out hCV)
    have HJF:Hid (_):=HJF.out hCV
    have HJO:Hid (_):=HJO.out hCV
    have hg8:=zT wc eb (.string J.id) (.string J.ti) (.int .i64 J.st) (.int .i64 J.lg) (.string J.f) (.int .i64 J.e) (.slice mra mrn mrc) (.int .i64 J.c) (.int .i64 J.u) (.slice msa msn msc) (.slice mma mmn mmc)
    have HFL:Hid (Got wr (.slice mra mrn mrc) J.ds∧(Got wr (.slice msa msn msc) J.sk∨Ow wr.heap.size wc (.slice msa msn msc) J.sk)∧(GotM wr (.slice mma mmn mmc) J.mv∨OwM wr.heap.size wc (.slice mma mmn mmc) J.mv)):=⟨ld,ls,lm⟩
    clear ld ls lm hCV HCN HJC HJW
    have HE8:Hid ((yI wc eb (.string J.id) (.string J.ti) (.int .i64 J.st) (.int .i64 J.lg) (.string J.f) (.int .i64 J.e) (.slice mra mrn mrc) (.int .i64 J.c) (.int .i64 J.u) (.slice msa msn msc) (.slice mma mmn mmc)).heap[eb]? =some (.cells (eW J.id J.ti J.st J.lg J.f J.e mra mrn mrc J.c J.u msa msn msc mma mmn mmc) 48 (0,0))):=zk _ _ _ _ _ _ _ _ _ _ _ HMID.out.z
    have HB8:Hid (Below w5.heap.size w5 (yI wc eb (.string J.id) (.string J.ti) (.int .i64 J.st) (.int .i64 J.lg) (.string J.f) (.int .i64 J.e) (.slice mra mrn mrc) (.int .i64 J.c) (.int .i64 J.u) (.slice msa msn msc) (.slice mma mmn mmc))):=zy HMID.out.b hg8 (by rw [HEB.out];exact Nat.le_refl _)
    have HL8:Hid (Got (yI wc eb (.string J.id) (.string J.ti) (.int .i64 J.st) (.int .i64 J.lg) (.string J.f) (.int .i64 J.e) (.slice mra mrn mrc) (.int .i64 J.c) (.int .i64 J.u) (.slice msa msn msc) (.slice mma mmn mmc)) (.slice mra mrn mrc) J.ds∧Got (yI wc eb (.string J.id) (.string J.ti) (.int .i64 J.st) (.int .i64 J.lg) (.string J.f) (.int .i64 J.e) (.slice mra mrn mrc) (.int .i64 J.c) (.int .i64 J.u) (.slice msa msn msc) (.slice mma mmn mmc)) (.slice msa msn msc) J.sk∧GotM (yI wc eb (.string J.id) (.string J.ti) (.int .i64 J.st) (.int .i64 J.lg) (.string J.f) (.int .i64 J.e) (.slice mra mrn mrc) (.int .i64 J.c) (.int .i64 J.u) (.slice msa msn msc) (.slice mma mmn mmc)) (.slice mma mmn mmc) J.mv):=by
     obtain ⟨o1,o2,o3⟩:=HFL.out
     have hbr:=zB HB5.out HB8.out
     refine ⟨o1.step hbr,?_,?_⟩
     ·rcases o2 with o2|o2
      ·exact o2.step hbr
      ·exact yq (World.ownsRow.kept o2 hg8 (.inr (yN o2 HMID.out.z (by decide))))
     ·rcases o3 with o3|o3
      ·exact o3.step hbr
      ·exact (zr (World.ownsRow.kept o3 hg8 (.inr (yN o3 HMID.out.z (by decide)))) (by have:=(yX HEW.out.1.ls).2.1;omega)).2
    have HS8:=hid (HS5.out.step HB8.out)
    obtain ⟨x0,x1,x2,x3,x4,x5,x6,x7,x8,x9,x10⟩:=zK HMID.out.m
    obtain ⟨t0,t1,t2,t3,t4,t5,t6,t7,t8,t9,t10⟩:=zK HMID.out.z
    obtain ⟨y0,y1,y2,y3,y4,y5,y6,y7,y8,y9,y10⟩:=frz HMID.out.z
    clear hg8
    go_upto_region 31 with fail
    rw [zX]
    clear x0 x1 x2 x3 x4 x5 x6 x7 x8 x9 x10 y0 y1 y2 y3 y4 y5 y6 y7 y8 y9 y10 t0 t1 t2 t3 t4 t5 t6 t7 t8 t9 t10
    generalize yI wc eb (.string J.id) (.string J.ti) (.int .i64 J.st) (.int .i64 J.lg) (.string J.f) (.int .i64 J.e) (.slice mra mrn mrc) (.int .i64 J.c) (.int .i64 J.u) (.slice msa msn msc) (.slice mma mmn mmc)=w8 at HE8 HB8 HL8 HS8 ⊢
    have MP:Hid (Calls Tryz.prog 18 #[.agg #[.slice oa on oc],.agg (eW J.id J.ti J.st J.lg J.f J.e mra mrn mrc J.c J.u msa msn msc mma mmn mmc)] w8 fun rr w'=> ∃ a' n' c' k',rr= .returned (.tuple #[.agg #[.slice a' n' c'],.int .i64 k'])∧Below w8.heap.size w8 w'∧MPutIs w8.heap.size (.slice oa on oc) Os ⟨J,.slice mra mrn mrc,.slice msa msn msc,.slice mma mmn mmc⟩ 0 (.slice a' n' c') k' w'):=by
     obtain ⟨base,hm⟩:=HS8.out.m
     exact zco base J mra mrn mrc msa msn msc mma mmn mmc _ Os 0 w8 hm (by omega) HS8.out.k (.inl rfl) (fun W hW=>zj7 J HEW.out.1 HEW.out.2 _ _ _ W (HL8.out.1.step hW) (HL8.out.2.1.step hW) (HL8.out.2.2.step hW))
    have cO:=zR HS8.out.o
    obtain ⟨t0,t1,t2,t3,t4,t5,t6,t7,t8,t9,t10⟩:=zK HE8.out
    go_upto_region 32 with (go_at_call 18;refine Calls.mono MP.out ?_;rintro rr w9 ⟨ya,yn,yc,yk,rfl,hb9,hpi⟩;have HB9:=hid hb9;have HPI:=hid hpi;clear hb9 hpi)
    clear t0 t1 t2 t3 t4 t5 t6 t7 t8 t9 t10 cO MP
    have HA10:Hid (Below w9.heap.size w9 (w9.alloc (.cells #[.slice ya yn yc] 27))):=zC _ _
    have HB10:=hid (zB HB9.out HA10.out)
    have HY10:Hid ((w9.alloc (.cells #[.slice ya yn yc] 27)).heap[w9.heap.size]? =some (.cells #[.slice ya yn yc] 27 (0,0))):=zJ _ rfl
    have HS10:=hid (HS8.out.step HB10.out)
    generalize w9.heap.size=yb at HA10 HY10 ⊢
    have HPX:Hid ((¬ ((¬ ∃ Y∈Os,Y.E.id=J.id)∧60≤Os.length)→yk=0∧MR w8.heap.size (w9.alloc (.cells #[.slice ya yn yc] 27)) (.slice ya yn yc) (ins ⟨J,.slice mra mrn mrc,.slice msa msn msc,.slice mma mmn mmc⟩ (Os.filter fun Y=>decide (Y.E.id≠J.id))))∧(((¬ ∃ Y∈Os,Y.E.id=J.id)∧60≤Os.length)→yk=7)):=by
     have zz:Below w9.heap.size w9 (w9.alloc (.cells #[.slice ya yn yc] 27)):=zC _ _
     rcases HPI.out with ⟨h,_⟩|⟨_,h2,h3,_⟩|⟨_,h2,h3,h4⟩
     ·exact absurd rfl h
     ·exact ⟨fun z=>absurd h2 z,fun _=>h3⟩
     ·exact ⟨fun _=>⟨h3,h4.far (fun k _ hk=>zz.block k hk)⟩,fun z=>absurd z h2⟩
    clear HPI HA10
    generalize w9.alloc (.cells #[.slice ya yn yc] 27)=w10 at HB10 HY10 HS10 HPX ⊢
    by_cases hfull:((¬ ∃ Y∈Os,Y.E.id=J.id)∧60≤Os.length)
    ·have hk:=HPX.out.2 hfull
     subst hk
     have HJ:Hid (_):=HJF.out hfull
     clear HPX HY10 hfull
     have HRW:Hid (World.ownsRow (w10.alloc (.cells #[.string id,.string ⟨#[97,108,108]⟩] 70)) w2.heap.size 70 2 (.slice ba bn bc) bn (cl.flatMap fun c=>[Value.string c.1,.string c.2])):=by
      have z:=(HS10.out.step (zC w10 (.cells #[.string id,.string ⟨#[97,108,108]⟩] 70))).c
      unfold zh9 at z
      rw [←HBN.out] at z
      exact z
     have NC:Hid (∀ (j:Nat) (v:Value),[Value.string id,.string ⟨#[97,108,108]⟩][j]? =some v→(w10.alloc (.cells #[.string id,.string ⟨#[97,108,108]⟩] 70)).cell? ((⟨w10.heap.size,0,none⟩:Addr).add j)=some v):=yu w10 _ _
     have HBS:Hid (w2.heap.size≤(w10.alloc (.cells #[.string id,.string ⟨#[97,108,108]⟩] 70)).heap.size):=by
      show _≤_
      have h1:=HS10.out.g.size
      rw [World.size_alloc]
      omega
     go_wp2_with (at_builtin;refine wpList_append_own_at _ (by rfl) _ _ 33 (by rfl) w2.heap.size 70 i0 (.agg #[.string ⟨#[]⟩,.string ⟨#[]⟩]) 2 32 Tryz.underlying33 hi hz0 hz1 hz2 rfl (by decide) (.slice ba bn bc) bn (cl.flatMap fun c=>[Value.string c.1,.string c.2]) (by rfl) HRW.out ⟨w10.heap.size,0,none⟩ 1 1 [.string id,.string ⟨#[97,108,108]⟩] (by rfl) rfl NC.out (fun v hv=>by rcases List.mem_cons.1 hv with q|q;rw [q];rfl;rw [List.mem_singleton.1 q];rfl) (by unfold maxLen;omega) (by omega) HBS.out ?_;intro v' w7 hown' hgrow _ hat;have HOWN:=hid hown';have HGR:=hid hgrow;obtain ⟨na,nc,rfl⟩:=zQ hown';clear hown' hgrow hat)
     have HF:Hid (MOW w2 w7 ob (.slice oa on oc) (.slice na (bn+1) nc) Os (cl++[(id,⟨#[97,108,108]⟩)])):=by
      have z:=HOWN.out
      rw [HBN.out] at z
      have z2:=(HS10.out.step (zC w10 (.cells #[.string id,.string ⟨#[97,108,108]⟩] 70))).add z HGR.out
      rw [←HBN.out] at z2
      exact z2
     refine HQ.out _ _ _ _ _ _ _ _ _ _ _ _ _ _ _ _ _ _ _ _ _ _ _ _ _ _ _ _ _ _ _ _ _ _ _ _ _ _ _ _ _ _ _ _ _ _ _ _ _ _ _ _ _ _ _ _ _ _ _ _ _ _ _ _ _ _ _ _ _ _ _ _ _ _ _ _ _ _ _ _ _ _ _ _ _ _ _ _ _ _ _ _ _ _ _ _ _ _ _ _ _ _ _ _ _ _ _ _ _ _ _ _ _ _ _ _ _ _ _ _ _ _ _ _ _ _ ?_
     exact ⟨na,bn+1,nc,_,Os,cl++[(id,jZ)],rfl,by go_num,HF.out,HJ.out.symm⟩
    ·obtain ⟨hk,hmr⟩:=HPX.out.1 hfull
     subst hk
     have HMR:Hid (_):=hmr
     have HJ:=hid (HJO.out hfull)
     clear hfull hmr HPX
     have cY:=zR HY10.out
     have cO:=zR HS10.out.o
     have fO:=zF HS10.out.o 0
     go_wp2
     refine HQ.out _ _ _ _ _ _ _ _ _ _ _ _ _ _ _ _ _ _ _ _ _ _ _ _ _ _ _ _ _ _ _ _ _ _ _ _ _ _ _ _ _ _ _ _ _ _ _ _ _ _ _ _ _ _ _ _ _ _ _ _ _ _ _ _ _ _ _ _ _ _ _ _ _ _ _ _ _ _ _ _ _ _ _ _ _ _ _ _ _ _ _ _ _ _ _ _ _ _ _ _ _ _ _ _ _ _ _ _ _ _ _ _ _ _ _ _ _ _ _ _ _ _ _ _ _ _ ?_
     refine ⟨ba,bn,bc,_,ins ⟨J,.slice mra mrn mrc,.slice msa msn msc,.slice mma mmn mmc⟩ (Os.filter fun Y=>decide (Y.E.id≠J.id)),cl,rfl,by go_num,HS10.out.put HMR.out (fun Y hY=> ?_) (fun hc Y hY=> ?_),?_⟩
     ·rcases jK.1 hY with rfl|hY
      ·exact ⟨⟨_,_,_,rfl⟩,⟨_,_,_,rfl⟩,⟨_,_,_,rfl⟩⟩
      ·exact HS10.out.k Y (List.mem_filter.1 hY).1
     ·rcases jK.1 hY with rfl|hY
      ·exact ⟨HL8.out.1.step HB10.out,HL8.out.2.1.step HB10.out,HL8.out.2.2.step HB10.out,HEW.out.2,HEW.out.1⟩
      ·exact HS10.out.x hc Y (List.mem_filter.1 hY).1
     ·rw [HJ.out]
      exact congrArg (·,cl) (zaT ⟨J,.slice mra mrn mrc,.slice msa msn msc,.slice mma mmn mmc⟩ Os)
   ·have hcp:(0:Int)<(cn:Int):=by
     have h1:=List.length_pos_iff.2 hCV
     have h2:=HCN.out
     omega
    obtain ⟨lw,hlw⟩: ∃ l,wr.heap.size=l:=⟨_,rfl⟩
    have HNN:Hid (NmR lw wc (.slice ca cn cc) CVL):=by rw [←hlw];exact HMID.out.n
    have HSC:=hid (HS5.out.step HMID.out.b)
    obtain ⟨g,hga⟩: ∃ g,ca=some ⟨g,0,none⟩:=by
     rcases HNN.out.2 with ⟨_,h0⟩|⟨g,cap,cur,e,_⟩
     ·exact absurd (List.length_eq_zero_iff.1 h0) hCV
     ·cases e;exact ⟨g,rfl⟩
    subst hga
    have HJ:Hid (_):=HJC.out hCV
    clear hCV HMID HJC HJW HJF HJO hlw
    go_upto_region 26 with fail
    clear hcp
    generalize decide (0<cn)=bz
    go_wp2
    go_loopw [12,23] (fun bv kv wx=> ∃ (k n':Nat) (a':Option Addr) (c':Nat),k≤cn∧kv= .int .i64 k∧bv= .slice a' n' c'∧n'≤bn+k∧Hid (MOW w2 wx ob (.slice oa on oc) (.slice a' n' c') Os (cl++(CVL.take k).map fun f=>(id,f))∧n'=(cl++(CVL.take k).map fun f=>(id,f)).length∧NmR lw wx (.slice (some ⟨g,0,none⟩) cn cc) CVL)) (fun _ kv _=>cn - (intOf kv).toNat)
    case atStart=>exact ⟨0,bn,ba,bc,Nat.zero_le _,rfl,rfl,by omega,by simpa using HSC.out,by simpa using HBN.out,HNN.out⟩
    case round=>
     obtain ⟨k,n',a',c',hk,rfl,rfl,hn',HX⟩:=hrel
     obtain ⟨hmo,hnl,hnm⟩:=HX.out
     clear HX
     have HMO:=hid hmo
     have HBK:=hid hnl
     have HNR:=hid hnm
     clear hmo hnl hnm
     by_cases hlt:k<cn
     ·have hkl:k<CVL.length:=by rw [←HCN.out];exact hlt
      have HT:Hid (cl++(CVL.take (k+1)).map (fun f=>(id,f))=(cl++(CVL.take k).map fun f=>(id,f))++[(id,CVL[k])]):=by
       show _=_
       rw [List.take_succ_eq_append_getElem hkl,List.map_append,List.append_assoc]
       rfl
      have hcc:wr.cell? ⟨g,k,none⟩=some (.string CVL[k]):=by
       have z0:World.ownsRow wr lw 9 1 (.slice (some ⟨g,0,none⟩) cn cc) cn (CVL.map Value.string):=by
        have z:=HNR.out
        unfold NmR at z
        rw [←HCN.out] at z
        exact z
       have z:=World.ownsRow.cellAt z0 k (by omega)
       rw [z,List.getElem?_map,List.getElem?_eq_getElem hkl]
       rfl
      generalize hfx:CVL[k]=fx at hcc HT
      clear hfx
      have p1:(0:Int)≤(k:Int):=by omega
      have p2:(k:Int)<(cn:Int):=by omega
      have HRW:Hid (World.ownsRow (wr.alloc (.cells #[.string id,.string fx] 70)) w2.heap.size 70 2 (.slice a' n' c') n' ((cl++(CVL.take k).map fun f=>(id,f)).flatMap fun c=>[Value.string c.1,.string c.2])):=by
       have z:=(HMO.out.step (zC wr (.cells #[.string id,.string fx] 70))).c
       unfold zh9 at z
       rw [←HBK.out] at z
       exact z
      have NC:Hid (∀ (j:Nat) (v:Value),[Value.string id,.string fx][j]? =some v→(wr.alloc (.cells #[.string id,.string fx] 70)).cell? ((⟨wr.heap.size,0,none⟩:Addr).add j)=some v):=yu wr _ _
      have HBS:Hid (w2.heap.size≤(wr.alloc (.cells #[.string id,.string fx] 70)).heap.size):=by
       show _≤_
       have h1:=HMO.out.g.size
       rw [World.size_alloc]
       omega
      go_wp2_with (at_builtin;refine wpList_append_own_at _ (by rfl) _ _ 33 (by rfl) w2.heap.size 70 i0 (.agg #[.string ⟨#[]⟩,.string ⟨#[]⟩]) 2 32 Tryz.underlying33 hi hz0 hz1 hz2 rfl (by decide) (.slice a' n' c') n' ((cl++(CVL.take k).map fun f=>(id,f)).flatMap fun c=>[Value.string c.1,.string c.2]) (by rfl) HRW.out ⟨wr.heap.size,0,none⟩ 1 1 [.string id,.string fx] (by rfl) rfl NC.out (fun v hv=>by rcases List.mem_cons.1 hv with q|q;rw [q];rfl;rw [List.mem_singleton.1 q];rfl) (by unfold maxLen;omega) (by omega) HBS.out ?_;intro v' w7 hown' hgrow _ hat;have HOWN:=hid hown';have HGR:=hid hgrow;obtain ⟨na,nc,rfl⟩:=zQ hown';clear hown' hgrow hat)
      have HF:Hid (MOW w2 w7 ob (.slice oa on oc) (.slice na (n'+1) nc) Os ((cl++(CVL.take k).map fun f=>(id,f))++[(id,fx)])):=by
       have z:=HOWN.out
       rw [HBK.out] at z
       have z2:=(HMO.out.step (zC wr (.cells #[.string id,.string fx] 70))).add z HGR.out
       rw [←HBK.out] at z2
       exact z2
      have HNE:Hid (NmR lw w7 (.slice (some ⟨g,0,none⟩) cn cc) CVL):=by
       have z1:NmR lw (wr.alloc (.cells #[.string id,.string fx] 70)) (.slice (some ⟨g,0,none⟩) cn cc) CVL:=zU HNR.out (zC _ _)
       exact zcL z1 HRW.out HGR.out (by decide)
      go_roundw
      case rel=>
       exact ⟨k+1,n'+1,na,nc,by omega,by go_num,rfl,by omega,by rw [HT.out];exact HF.out,by rw [HT.out,List.length_append,←HBK.out];rfl,HNE.out⟩
      case measure=>simp [intOf];omega
     ·have hkc:k=cn:=by omega
      have HFI:Hid (MOW w2 wr ob (.slice oa on oc) (.slice a' n' c') Os (cl++CVL.map fun f=>(id,f))):=by
       have z:=HMO.out
       rw [List.take_of_length_le (by rw [←HCN.out];omega)] at z
       exact z
      clear hkc
      go_wp2
      refine HQ.out _ _ _ _ _ _ _ _ _ _ _ _ _ _ _ _ _ _ _ _ _ _ _ _ _ _ _ _ _ _ _ _ _ _ _ _ _ _ _ _ _ _ _ _ _ _ _ _ _ _ _ _ _ _ _ _ _ _ _ _ _ _ _ _ _ _ _ _ _ _ _ _ _ _ _ _ _ _ _ _ _ _ _ _ _ _ _ _ _ _ _ _ _ _ _ _ _ _ _ _ _ _ _ _ _ _ _ _ _ _ _ _ _ _ _ _ _ _ _ _ _ _ _ _ _ _ ?_
      exact ⟨a',n',c',_,Os,cl++CVL.map (fun f=>(id,f)),rfl,by go_num,HFI.out,HJ.out.symm⟩
end Go.Proofs.YtpeafgddbbojaaaGreatDoor
