import Derived.Test.YtpeafgddbbojaaaGreatDoorJqAA
import Derived.Test.YtpeafgddbbojaaaGreatDoorJqAU
import Derived.Test.YtpeafgddbbojaaaGreatDoorMtWaJqs
import Derived.Test.YtpeafgddbbojaaaGreatDoorJqAV
import Derived.Test.YtpeafgddbbojaaaGreatDoorJqAT
import Derived.Test.YtpeafgddbbojaaaGreatDoorJqAS
import Derived.Test.YtpeafgddbbojaaaGreatDoorJqAO
import Derived.Deep.RegionWith
namespace Go.Proofs.YtpeafgddbbojaaaGreatDoor
open Go Go.RowKit Go.Maps Go.Sort Cal
theorem zeH{E:EV}:((bs (eT E)).toList==[])=false:=by
 have h:(bs (eT E)).toList=eT E:=by
  rw [Lib.toList_data]
  simp [bs]
 rw [h]
 exact beq_eq_false_iff_ne.2 zg4
set_option maxHeartbeats 4000000 in
set_option maxRecDepth 100000 in
theorem moA(Xs Ys Zs:List EX)(w w2 wr:World)(ob xb ib m ni ic:Nat)(a1 a2 a3 oa ba:Option Addr)(n1 k1 n2 k2 n3 k3 on oc bn bc:Nat)(id:ByteArray)(Os:List EX)(cl:List (ByteArray×ByteArray))
  (HS:Hid (MOW w2 wr ob (.slice oa on oc) (.slice ba bn bc) Os cl)) (HBN:Hid (bn=cl.length)) (hbl:bn≤5000) (hol:Os.length≤60) (hmn:m<ni) (hni:ni≤1000)
  (KB:Hid (w2.heap[w.heap.size]? =some (.cells #[.slice a1 n1 k1] 27 (0,0))∧w2.heap[w.heap.size+1]? =some (.cells #[.slice a2 n2 k2] 27 (0,0))∧w2.heap[w.heap.size+1+1]? =some (.cells #[.slice a3 n3 k3] 27 (0,0))∧w.heap.size+4≤ob∧ib≠ob∧w2.cell? ⟨ib,m,none⟩=some (.string id)))
  (HB2:Hid (Below w.heap.size w w2))
  (HO2:Hid (w2.heap[ob]? =some (.cells #[.slice none 0 0] 27 (0,0)))) (R1:Hid (∃ base,MR base w2 (.slice a1 n1 k1) Xs)) (G1:Hid (∀ X∈Xs,XRd w2 X)) (hs1:Rises (Xs.map EX.E)) (hl1:Xs.length≤60) (R2:Hid (∃ base,MR base w2 (.slice a2 n2 k2) Ys)) (G2:Hid (∀ X∈Ys,XRd w2 X)) (hs2:Rises (Ys.map EX.E)) (hl2:Ys.length≤60) (R3:Hid (∃ base,MR base w2 (.slice a3 n3 k3) Zs)) (G3:Hid (∀ X∈Zs,XRd w2 X)) (hs3:Rises (Zs.map EX.E)) (hl3:Zs.length≤60)
  (bo bp bq br bt bu bv bw bx bz bA bB bC bD bE dR dS dT dU dV dW dX dY dZ ea bF bG bH bI bJ bK bL bM bN bO bP bQ bR bS bT bU bV bW bX bY bZ da db dc dd de df dg dh di dj dk dl dm dn dp dq dr dt du dv dw dx dy dz dA dB dC dD dE dF dG dH dI dJ dK dL dM dN dO dP dQ aa ab ac ad ae af ag ah ai aj ak al am an ao ap aq ar au av aw ax ay az aA aB aC aD aE aF aG aH aI aJ aK aL aM aN aO aP aQ aR aS aT aU aV aW aX aY aZ bb bd be bf bg bh bi bj bk bl bm:Value) (Q:Exit→Act→World→Prop)
  (HQ:Hid (∀ (eb ec bF bG bH bI bJ bK bL bM bN bO bP bQ bR bS bT bU bV bW bX bY bZ da db dc dd de df dg dh di dj dk dl dm dn dp dq dr dt du dv dw dx dy dz dA dB dC dD dE dF dG dH dI dJ dK dL dM dN dO dP dQ aa ab ac ad ae af ag ah ai aj ak al am an ao ap aq ar au av aw ax ay az aA aB aC aD aE aF aG aH aI aJ aK aL aM aN aO aP aQ aR aS aT aU aV aW aX aY aZ bb bd be bf bg bh bi bj bk bl bm:Value) (W':World),(∃ (ba':Option Addr) (bn' bc':Nat) (vo':Value) (Os':List EX) (cl':List (ByteArray×ByteArray)),eb= .slice ba' bn' bc'∧ec= .int .i64 ((m:Int)+1)∧Hid (MOW w2 W' ob vo' (.slice ba' bn' bc') Os' cl'∧(Os'.map EX.E,cl')=jSp (Xs.map EX.E) (Ys.map EX.E) (Zs.map EX.E) (Os.map EX.E,cl) id))→Q .normal ⟨#[.agg #[.slice a1 n1 k1],.agg #[.slice a2 n2 k2],.agg #[.slice a3 n3 k3],.pointer (some ⟨w.heap.size,0,none⟩),.pointer (some ⟨w.heap.size+1,0,none⟩),.pointer (some ⟨w.heap.size+1+1,0,none⟩),.pointer (some ⟨w.heap.size+1+1+1,0,none⟩),.slice none 0 0,.slice (some ⟨ib,0,none⟩) ni ic,.pointer (some ⟨xb,0,none⟩),bo,.pointer (some ⟨ob,0,none⟩),eb,ec,bF,bG,bH,bI,bJ,bK,bL,bM,bN,bO,bP,bQ,bp,bq,br,bt,bu,bv,bw,bx,bz,bA,bB,bC,bD,bE,dR,dS,dT,dU,dV,dW,dX,dY,dZ,ea,bR,bS,bT,bU,bV,bW,bX,bY,bZ,da,db,dc,dd,de,df,dg,dh,di,dj,dk,dl,dm,dn,dp,dq,dr,dt,du,dv,dw,dx,dy,dz,dA,dB,dC,dD,dE,dF,dG,dH,dI,dJ,dK,dL,dM,dN,dO,dP,dQ,aa,ab,ac,ad,ae,af,ag,ah,ai,aj,ak,al,am,an,ao,ap,aq,ar,au,av,aw,ax,ay,az,aA,aB,aC,aD,aE,aF,aG,aH,aI,aJ,aK,aL,aM,aN,aO,aP,aQ,aR,aS,aT,aU,aV,aW,aX,aY,aZ,bb,bd,be,bf,bg,bh,bi,bj,bk,bl,bm,undef,undef,undef,undef,undef,undef],[]⟩ W')):
  Code.wp Tryz.prog zj6 Q ⟨#[.agg #[.slice a1 n1 k1],.agg #[.slice a2 n2 k2],.agg #[.slice a3 n3 k3],.pointer (some ⟨w.heap.size,0,none⟩),.pointer (some ⟨w.heap.size+1,0,none⟩),.pointer (some ⟨w.heap.size+1+1,0,none⟩),.pointer (some ⟨w.heap.size+1+1+1,0,none⟩),.slice none 0 0,.slice (some ⟨ib,0,none⟩) ni ic,.pointer (some ⟨xb,0,none⟩),bo,.pointer (some ⟨ob,0,none⟩),.slice ba bn bc,.int .i64 (m:Int),bF,bG,bH,bI,bJ,bK,bL,bM,bN,bO,bP,bQ,bp,bq,br,bt,bu,bv,bw,bx,bz,bA,bB,bC,bD,bE,dR,dS,dT,dU,dV,dW,dX,dY,dZ,ea,bR,bS,bT,bU,bV,bW,bX,bY,bZ,da,db,dc,dd,de,df,dg,dh,di,dj,dk,dl,dm,dn,dp,dq,dr,dt,du,dv,dw,dx,dy,dz,dA,dB,dC,dD,dE,dF,dG,dH,dI,dJ,dK,dL,dM,dN,dO,dP,dQ,aa,ab,ac,ad,ae,af,ag,ah,ai,aj,ak,al,am,an,ao,ap,aq,ar,au,av,aw,ax,ay,az,aA,aB,aC,aD,aE,aF,aG,aH,aI,aJ,aK,aL,aM,aN,aO,aP,aQ,aR,aS,aT,aU,aV,aW,aX,aY,aZ,bb,bd,be,bf,bg,bh,bi,bj,bk,bl,bm,undef,undef,undef,undef,undef,undef],[]⟩ wr:=by
 have hg:=HS.out.g
 have r1: ∃ base,MR base wr (.slice a1 n1 k1) Xs:=by
  obtain ⟨b,h⟩:=R1.out
  exact ⟨b,World.ownsRow.kept h hg (.inr (yN h HO2.out (by decide)))⟩
 have x1: ∀ X∈Xs,XRd wr X:=fun X hX=>(G1.out X hX).off HO2.out hg
 have T1:Hid (∀ W,Below wr.heap.size wr W→Calls Tryz.prog 24 #[.agg #[.slice a1 n1 k1],.string id] W fun r w'=>r= .returned (.string (eOp (lkC (Xs.map EX.E) id)))∧Below W.heap.size W w'):=fun W hW=>by
  obtain ⟨b,h⟩:=r1
  exact zib b id _ Xs W (h.far (fun k _ hk=>hW.block k hk)) (by omega) (fun X hX=>(x1 X hX).step hW) hs1
 have e1: ∀ E,lkC (Xs.map EX.E) id=some E→EW E∧E.ds.length≤20:=fun E q=>by
  obtain ⟨X,hX,rfl⟩:=List.mem_map.1 (yM q).1
  exact ⟨(x1 X hX).2.2.2.2,(x1 X hX).2.2.2.1⟩
 have r2: ∃ base,MR base wr (.slice a2 n2 k2) Ys:=by
  obtain ⟨b,h⟩:=R2.out
  exact ⟨b,World.ownsRow.kept h hg (.inr (yN h HO2.out (by decide)))⟩
 have x2: ∀ X∈Ys,XRd wr X:=fun X hX=>(G2.out X hX).off HO2.out hg
 have T2:Hid (∀ W,Below wr.heap.size wr W→Calls Tryz.prog 24 #[.agg #[.slice a2 n2 k2],.string id] W fun r w'=>r= .returned (.string (eOp (lkC (Ys.map EX.E) id)))∧Below W.heap.size W w'):=fun W hW=>by
  obtain ⟨b,h⟩:=r2
  exact zib b id _ Ys W (h.far (fun k _ hk=>hW.block k hk)) (by omega) (fun X hX=>(x2 X hX).step hW) hs2
 have e2: ∀ E,lkC (Ys.map EX.E) id=some E→EW E∧E.ds.length≤20:=fun E q=>by
  obtain ⟨X,hX,rfl⟩:=List.mem_map.1 (yM q).1
  exact ⟨(x2 X hX).2.2.2.2,(x2 X hX).2.2.2.1⟩
 have r3: ∃ base,MR base wr (.slice a3 n3 k3) Zs:=by
  obtain ⟨b,h⟩:=R3.out
  exact ⟨b,World.ownsRow.kept h hg (.inr (yN h HO2.out (by decide)))⟩
 have x3: ∀ X∈Zs,XRd wr X:=fun X hX=>(G3.out X hX).off HO2.out hg
 have T3:Hid (∀ W,Below wr.heap.size wr W→Calls Tryz.prog 24 #[.agg #[.slice a3 n3 k3],.string id] W fun r w'=>r= .returned (.string (eOp (lkC (Zs.map EX.E) id)))∧Below W.heap.size W w'):=fun W hW=>by
  obtain ⟨b,h⟩:=r3
  exact zib b id _ Zs W (h.far (fun k _ hk=>hW.block k hk)) (by omega) (fun X hX=>(x3 X hX).step hW) hs3
 have e3: ∀ E,lkC (Zs.map EX.E) id=some E→EW E∧E.ds.length≤20:=fun E q=>by
  obtain ⟨X,hX,rfl⟩:=List.mem_map.1 (yM q).1
  exact ⟨(x3 X hX).2.2.2.2,(x3 X hX).2.2.2.1⟩
 have PT: ∀ W,Calls Tryz.prog 25 #[.string (eOp (lkC (Xs.map EX.E) id)),.string (eOp (lkC (Ys.map EX.E) id)),.string (eOp (lkC (Zs.map EX.E) id))] W fun rr w'=>rr= .returned (.tuple #[.string (pkT (eOp (lkC (Xs.map EX.E) id)) (eOp (lkC (Ys.map EX.E) id)) (eOp (lkC (Zs.map EX.E) id))).1,.bool (pkT (eOp (lkC (Xs.map EX.E) id)) (eOp (lkC (Ys.map EX.E) id)) (eOp (lkC (Zs.map EX.E) id))).2])∧w'=W:=fun W=>zaH _ _ _ W
 rcases zm7 (lkC (Xs.map EX.E) id) (lkC (Ys.map EX.E) id) (lkC (Zs.map EX.E) id) with ⟨o,hp,hj,ho⟩|⟨hp,hj⟩
 ·rw [hp] at PT
  cases o with
  |none=>exact moR (Xs.map EX.E) (Ys.map EX.E) (Zs.map EX.E) w w2 wr ob xb ib m ni ic a1 a2 a3 oa ba n1 k1 n2 k2 n3 k3 on oc bn bc id _ _ _ Os cl HS HBN hbl hol hmn hni KB HB2 T1 T2 T3 (.inl ⟨PT,by show _=_;rw [xd,hj];rfl⟩) bo bp bq br bt bu bv bw bx bz bA bB bC bD bE dR dS dT dU dV dW dX dY dZ ea bF bG bH bI bJ bK bL bM bN bO bP bQ bR bS bT bU bV bW bX bY bZ da db dc dd de df dg dh di dj dk dl dm dn dp dq dr dt du dv dw dx dy dz dA dB dC dD dE dF dG dH dI dJ dK dL dM dN dO dP dQ aa ab ac ad ae af ag ah ai aj ak al am an ao ap aq ar au av aw ax ay az aA aB aC aD aE aF aG aH aI aJ aK aL aM aN aO aP aQ aR aS aT aU aV aW aX aY aZ bb bd be bf bg bh bi bj bk bl bm Q HQ
  |some E=>
   have hE:EW E∧E.ds.length≤20:=by
    rcases ho with ho|ho
    ·exact e2 E ho.symm
    ·exact e3 E ho.symm
   exact moR (Xs.map EX.E) (Ys.map EX.E) (Zs.map EX.E) w w2 wr ob xb ib m ni ic a1 a2 a3 oa ba n1 k1 n2 k2 n3 k3 on oc bn bc id _ _ _ Os cl HS HBN hbl hol hmn hni KB HB2 T1 T2 T3 (.inr (.inl ⟨E,bs (eT E),zeH,PT,(fun W=>by
    refine Calls.mono (zcK E W hE.1 hE.2) ?_
    rintro rr w' ⟨sl,skv,mvv,rfl,o1,o2,o3,hb⟩
    obtain ⟨ra,rc,rfl⟩:=zQ o1
    obtain ⟨sa,sc,rfl⟩:=zQ o2
    obtain ⟨ma,mc,rfl⟩:=zQ o3
    exact ⟨_,_,_,_,_,_,_,_,_,rfl,o1,o2,o3,hb⟩),hE,(fun q=>by rw [xd,hj];exact zfy q),(fun q=>by rw [xd,hj];exact zig q)⟩)) bo bp bq br bt bu bv bw bx bz bA bB bC bD bE dR dS dT dU dV dW dX dY dZ ea bF bG bH bI bJ bK bL bM bN bO bP bQ bR bS bT bU bV bW bX bY bZ da db dc dd de df dg dh di dj dk dl dm dn dp dq dr dt du dv dw dx dy dz dA dB dC dD dE dF dG dH dI dJ dK dL dM dN dO dP dQ aa ab ac ad ae af ag ah ai aj ak al am an ao ap aq ar au av aw ax ay az aA aB aC aD aE aF aG aH aI aJ aK aL aM aN aO aP aQ aR aS aT aU aV aW aX aY aZ bb bd be bf bg bh bi bj bk bl bm Q HQ
 ·rw [hp] at PT
  cases q1:lkC (Xs.map EX.E) id with
  |none=>
   rw [q1] at hj T1 PT
   exact moR (Xs.map EX.E) (Ys.map EX.E) (Zs.map EX.E) w w2 wr ob xb ib m ni ic a1 a2 a3 oa ba n1 k1 n2 k2 n3 k3 on oc bn bc id _ _ _ Os cl HS HBN hbl hol hmn hni KB HB2 T1 T2 T3 (.inr (.inr (.inl ⟨PT,(.inl rfl),by show _=_;rw [xd,q1,hj];rfl⟩))) bo bp bq br bt bu bv bw bx bz bA bB bC bD bE dR dS dT dU dV dW dX dY dZ ea bF bG bH bI bJ bK bL bM bN bO bP bQ bR bS bT bU bV bW bX bY bZ da db dc dd de df dg dh di dj dk dl dm dn dp dq dr dt du dv dw dx dy dz dA dB dC dD dE dF dG dH dI dJ dK dL dM dN dO dP dQ aa ab ac ad ae af ag ah ai aj ak al am an ao ap aq ar au av aw ax ay az aA aB aC aD aE aF aG aH aI aJ aK aL aM aN aO aP aQ aR aS aT aU aV aW aX aY aZ bb bd be bf bg bh bi bj bk bl bm Q HQ
  |some E1=>
   cases q2:lkC (Ys.map EX.E) id with
   |none=>
    rw [q1,q2] at hj
    rw [q1] at T1 PT
    rw [q2] at T2 PT
    exact moR (Xs.map EX.E) (Ys.map EX.E) (Zs.map EX.E) w w2 wr ob xb ib m ni ic a1 a2 a3 oa ba n1 k1 n2 k2 n3 k3 on oc bn bc id _ _ _ Os cl HS HBN hbl hol hmn hni KB HB2 T1 T2 T3 (.inr (.inr (.inl ⟨PT,(.inr (.inl ⟨zeH,rfl⟩)),by show _=_;rw [xd,q1,q2,hj];rfl⟩))) bo bp bq br bt bu bv bw bx bz bA bB bC bD bE dR dS dT dU dV dW dX dY dZ ea bF bG bH bI bJ bK bL bM bN bO bP bQ bR bS bT bU bV bW bX bY bZ da db dc dd de df dg dh di dj dk dl dm dn dp dq dr dt du dv dw dx dy dz dA dB dC dD dE dF dG dH dI dJ dK dL dM dN dO dP dQ aa ab ac ad ae af ag ah ai aj ak al am an ao ap aq ar au av aw ax ay az aA aB aC aD aE aF aG aH aI aJ aK aL aM aN aO aP aQ aR aS aT aU aV aW aX aY aZ bb bd be bf bg bh bi bj bk bl bm Q HQ
   |some E2=>
    cases q3:lkC (Zs.map EX.E) id with
    |none=>
     rw [q1,q2,q3] at hj
     rw [q1] at T1 PT
     rw [q2] at T2 PT
     rw [q3] at T3 PT
     exact moR (Xs.map EX.E) (Ys.map EX.E) (Zs.map EX.E) w w2 wr ob xb ib m ni ic a1 a2 a3 oa ba n1 k1 n2 k2 n3 k3 on oc bn bc id _ _ _ Os cl HS HBN hbl hol hmn hni KB HB2 T1 T2 T3 (.inr (.inr (.inl ⟨PT,(.inr (.inr ⟨zeH,zeH,rfl⟩)),by show _=_;rw [xd,q1,q2,q3,hj];rfl⟩))) bo bp bq br bt bu bv bw bx bz bA bB bC bD bE dR dS dT dU dV dW dX dY dZ ea bF bG bH bI bJ bK bL bM bN bO bP bQ bR bS bT bU bV bW bX bY bZ da db dc dd de df dg dh di dj dk dl dm dn dp dq dr dt du dv dw dx dy dz dA dB dC dD dE dF dG dH dI dJ dK dL dM dN dO dP dQ aa ab ac ad ae af ag ah ai aj ak al am an ao ap aq ar au av aw ax ay az aA aB aC aD aE aF aG aH aI aJ aK aL aM aN aO aP aQ aR aS aT aU aV aW aX aY aZ bb bd be bf bg bh bi bj bk bl bm Q HQ
    |some E3=>
     rw [q1,q2,q3] at hj
     rw [q1] at T1 PT
     rw [q2] at T2 PT
     rw [q3] at T3 PT
     obtain ⟨y1,m1⟩:=r1
     obtain ⟨y2,m2⟩:=r2
     obtain ⟨y3,m3⟩:=r3
     obtain ⟨j1,b1,ra1,sa1,ma1,rn1,rc1,sn1,sc1,mn1,mc1,ha1,hj1,hc1,hx1,hi1,FD1⟩:=zii m1 (by omega) x1 hs1 q1
     obtain ⟨j2,b2,ra2,sa2,ma2,rn2,rc2,sn2,sc2,mn2,mc2,ha2,hj2,hc2,hx2,hi2,FD2⟩:=zii m2 (by omega) x2 hs2 q2
     obtain ⟨j3,b3,ra3,sa3,ma3,rn3,rc3,sn3,sc3,mn3,mc3,ha3,hj3,hc3,hx3,hi3,FD3⟩:=zii m3 (by omega) x3 hs3 q3
     obtain ⟨kJ,hkJ⟩:=vV (jE E1 E2 E3)
     have hds:(jE E1 E2 E3).ds.length≤20:=zkR (e2 E2 q2).2 (e3 E3 q3).2
     have KE:Hid (∀ W,Below wr.heap.size wr W→W.cell? ⟨w.heap.size,0,none⟩=some (.slice a1 n1 k1)∧W.cell? ⟨w.heap.size+1,0,none⟩=some (.slice a2 n2 k2)∧W.cell? ⟨w.heap.size+1+1,0,none⟩=some (.slice a3 n3 k3)∧W.cell? ⟨b1,j1*11,none⟩=some (.string E1.id)∧W.cell? ⟨b1,j1*11+1,none⟩=some (.string E1.ti)∧W.cell? ⟨b1,j1*11+2,none⟩=some (.int .i64 E1.st)∧W.cell? ⟨b1,j1*11+3,none⟩=some (.int .i64 E1.lg)∧W.cell? ⟨b1,j1*11+4,none⟩=some (.string E1.f)∧W.cell? ⟨b1,j1*11+5,none⟩=some (.int .i64 E1.e)∧W.cell? ⟨b1,j1*11+6,none⟩=some (.slice ra1 rn1 rc1)∧W.cell? ⟨b1,j1*11+7,none⟩=some (.int .i64 E1.c)∧W.cell? ⟨b1,j1*11+8,none⟩=some (.int .i64 E1.u)∧W.cell? ⟨b1,j1*11+9,none⟩=some (.slice sa1 sn1 sc1)∧W.cell? ⟨b1,j1*11+10,none⟩=some (.slice ma1 mn1 mc1)∧W.cell? ⟨b2,j2*11,none⟩=some (.string E2.id)∧W.cell? ⟨b2,j2*11+1,none⟩=some (.string E2.ti)∧W.cell? ⟨b2,j2*11+2,none⟩=some (.int .i64 E2.st)∧W.cell? ⟨b2,j2*11+3,none⟩=some (.int .i64 E2.lg)∧W.cell? ⟨b2,j2*11+4,none⟩=some (.string E2.f)∧W.cell? ⟨b2,j2*11+5,none⟩=some (.int .i64 E2.e)∧W.cell? ⟨b2,j2*11+6,none⟩=some (.slice ra2 rn2 rc2)∧W.cell? ⟨b2,j2*11+7,none⟩=some (.int .i64 E2.c)∧W.cell? ⟨b2,j2*11+8,none⟩=some (.int .i64 E2.u)∧W.cell? ⟨b2,j2*11+9,none⟩=some (.slice sa2 sn2 sc2)∧W.cell? ⟨b2,j2*11+10,none⟩=some (.slice ma2 mn2 mc2)∧W.cell? ⟨b3,j3*11,none⟩=some (.string E3.id)∧W.cell? ⟨b3,j3*11+1,none⟩=some (.string E3.ti)∧W.cell? ⟨b3,j3*11+2,none⟩=some (.int .i64 E3.st)∧W.cell? ⟨b3,j3*11+3,none⟩=some (.int .i64 E3.lg)∧W.cell? ⟨b3,j3*11+4,none⟩=some (.string E3.f)∧W.cell? ⟨b3,j3*11+5,none⟩=some (.int .i64 E3.e)∧W.cell? ⟨b3,j3*11+6,none⟩=some (.slice ra3 rn3 rc3)∧W.cell? ⟨b3,j3*11+7,none⟩=some (.int .i64 E3.c)∧W.cell? ⟨b3,j3*11+8,none⟩=some (.int .i64 E3.u)∧W.cell? ⟨b3,j3*11+9,none⟩=some (.slice sa3 sn3 sc3)∧W.cell? ⟨b3,j3*11+10,none⟩=some (.slice ma3 mn3 mc3)):=fun W hW=>by
      have hg':=(HS.out.step hW).g
      obtain ⟨k1_,k2_,k3_,k4_,_,_⟩:=KB.out
      obtain ⟨bo,ed,ee,ef,eg,eh,ei,ej,ek,el,c1a⟩:=hc1
      obtain ⟨em,en,eo,ep,eq,er,bp,bq,br,bt,c2a⟩:=hc2
      obtain ⟨bu,bv,bw,bx,bz,bA,bB,bC,bD,bE,c3a⟩:=hc3
      refine ⟨zR ((hg'.block _ (Array.getElem?_eq_some_iff.1 k1_).1 (fun z=> ?_)).trans k1_),zR ((hg'.block _ (Array.getElem?_eq_some_iff.1 k2_).1 (fun z=> ?_)).trans k2_),zR ((hg'.block _ (Array.getElem?_eq_some_iff.1 k3_).1 (fun z=> ?_)).trans k3_),zD bo hW,zD ed hW,zD ee hW,zD ef hW,zD eg hW,zD eh hW,zD ei hW,zD ej hW,zD ek hW,zD el hW,zD c1a hW,zD em hW,zD en hW,zD eo hW,zD ep hW,zD eq hW,zD er hW,zD bp hW,zD bq hW,zD br hW,zD bt hW,zD c2a hW,zD bu hW,zD bv hW,zD bw hW,zD bx hW,zD bz hW,zD bA hW,zD bB hW,zD bC hW,zD bD hW,zD bE hW,zD c3a hW⟩
      ·have:w.heap.size=ob:=Option.some.inj z
       omega
      ·have:w.heap.size+1=ob:=Option.some.inj z
       omega
      ·have:w.heap.size+1+1=ob:=Option.some.inj z
       omega
     clear hc1 hc2 hc3
     have hCVn:(open Classical in (if jCs E1 E2 E3 6=[] then (if kJ=0 then [] else [⟨#[97,108,108]⟩]) else jCs E1 E2 E3 6:List ByteArray))=[]→jCs E1 E2 E3 6=[]∧kJ=0:=fun q=>by
      by_cases z:jCs E1 E2 E3 6=[]
      ·rw [if_pos z] at q
       by_cases z2:kJ=0
       ·exact ⟨z,z2⟩
       ·rw [if_neg z2] at q
        cases q
      ·rw [if_neg z] at q
       exact absurd q z
     have hjE:kJ=0→EW (jE E1 E2 E3):=fun z=>(jM hkJ).1 z
     have ME: ∀ W,Below wr.heap.size wr W→Calls Tryz.prog 27 #[.agg (eW E1.id E1.ti E1.st E1.lg E1.f E1.e ra1 rn1 rc1 E1.c E1.u sa1 sn1 sc1 ma1 mn1 mc1),.agg (eW E2.id E2.ti E2.st E2.lg E2.f E2.e ra2 rn2 rc2 E2.c E2.u sa2 sn2 sc2 ma2 mn2 mc2),.agg (eW E3.id E3.ti E3.st E3.lg E3.f E3.e ra3 rn3 rc3 E3.c E3.u sa3 sn3 sc3 ma3 mn3 mc3)] W _:=fun W hW=>zbM E1 E2 E3 ra1 sa1 ma1 ra2 sa2 ma2 ra3 sa3 ma3 rn1 rc1 sn1 sc1 mn1 mc1 rn2 rc2 sn2 sc2 mn2 mc2 rn3 rc3 sn3 sc3 mn3 mc3 W wr hW hx1.1 hx1.2.1 hx1.2.2.1 hx2.1 hx2.2.1 hx2.2.2.1 hx3.1 hx3.2.1 hx3.2.2.1 (e1 E1 q1).1 (e2 E2 q2).1 (e3 E3 q3).1 (e1 E1 q1).2 (e2 E2 q2).2 (e3 E3 q3).2 (hi1.trans hi2.symm) kJ hkJ _ rfl (jCs E1 E2 E3 6=[]) Iff.rfl
     have hCJ:(if jCs E1 E2 E3 6=[] then (if kJ=0 then [] else [⟨#[97,108,108]⟩]) else jCs E1 E2 E3 6:List ByteArray)≠[]→jR (some E1) (some E2) (some E3)= .inr (if jCs E1 E2 E3 6=[] then (if kJ=0 then [] else [⟨#[97,108,108]⟩]) else jCs E1 E2 E3 6):=fun q=>by
      rw [hj]
      dsimp only
      by_cases z:jCs E1 E2 E3 6=[]
      ·rw [if_pos z,if_pos z]
       rw [if_pos z] at q
       by_cases z2:kJ=0
       ·rw [if_pos z2] at q
        exact absurd rfl q
       ·rw [if_neg z2,if_neg (fun z3=>z2 ((jM hkJ).2 z3))]
        rfl
      ·rw [if_neg z,if_neg z]
     have hCK:jCs E1 E2 E3 6=[]→kJ=0→jR (some E1) (some E2) (some E3)= .inl (some (jE E1 E2 E3)):=fun z z2=>by
      rw [hj]
      dsimp only
      rw [if_pos z,if_pos (hjE z2)]
     have hcl:(if jCs E1 E2 E3 6=[] then (if kJ=0 then [] else [⟨#[97,108,108]⟩]) else jCs E1 E2 E3 6:List ByteArray).length≤10:=by
      by_cases z:jCs E1 E2 E3 6=[]
      ·rw [if_pos z]
       by_cases z2:kJ=0
       ·rw [if_pos z2];exact Nat.zero_le _
       ·rw [if_neg z2];decide
      ·rw [if_neg z]
       exact Nat.le_trans (zbr _ _ _ _) (by decide)
     generalize (if jCs E1 E2 E3 6=[] then (if kJ=0 then [] else [⟨#[97,108,108]⟩]) else jCs E1 E2 E3 6:List ByteArray)=CVL at ME hCJ hcl hCVn
     exact moR (Xs.map EX.E) (Ys.map EX.E) (Zs.map EX.E) w w2 wr ob xb ib m ni ic a1 a2 a3 oa ba n1 k1 n2 k2 n3 k3 on oc bn bc id _ _ _ Os cl HS HBN hbl hol hmn hni KB HB2 T1 T2 T3 (.inr (.inr (.inr ⟨zeH,zeH,zeH,PT,E1,E2,E3,jE E1 E2 E3,ra1,sa1,ma1,ra2,sa2,ma2,ra3,sa3,ma3,rn1,rc1,sn1,sc1,mn1,mc1,rn2,rc2,sn2,sc2,mn2,mc2,rn3,rc3,sn3,sc3,mn3,mc3,b1,b2,b3,j1,j2,j3,CVL.length,CVL,ha1,ha2,ha3,hj1,hj2,hj3,rfl,KE,FD1,FD2,FD3,(fun W hW=>by
      refine Calls.mono (ME W hW) ?_
      rintro rr w' ⟨id_,ti_,f_,st_,lg_,e_,c_,u_,ra_,sa_,ma_,rn_,rc_,sn_,sc_,mn_,mc_,cv,rfl,hn,hm,hb⟩
      obtain ⟨ca,cc,rfl⟩:=zQ hn
      exact ⟨id_,ti_,f_,st_,lg_,e_,c_,u_,ra_,sa_,ma_,rn_,rc_,sn_,sc_,mn_,mc_,ca,cc,rfl,hn,fun q=>hm (hCVn q).1,hb⟩),
      (fun q=>by rw [xd,q1,q2,q3,hCJ q];rfl),(fun q=>⟨hjE (hCVn q).2,hds⟩),(fun q f=>by rw [xd,q1,q2,q3,hCK (hCVn q).1 (hCVn q).2];exact zfy f),(fun q f=>by rw [xd,q1,q2,q3,hCK (hCVn q).1 (hCVn q).2];exact zig f),hcl⟩))) bo bp bq br bt bu bv bw bx bz bA bB bC bD bE dR dS dT dU dV dW dX dY dZ ea bF bG bH bI bJ bK bL bM bN bO bP bQ bR bS bT bU bV bW bX bY bZ da db dc dd de df dg dh di dj dk dl dm dn dp dq dr dt du dv dw dx dy dz dA dB dC dD dE dF dG dH dI dJ dK dL dM dN dO dP dQ aa ab ac ad ae af ag ah ai aj ak al am an ao ap aq ar au av aw ax ay az aA aB aC aD aE aF aG aH aI aJ aK aL aM aN aO aP aQ aR aS aT aU aV aW aX aY aZ bb bd be bf bg bh bi bj bk bl bm Q HQ
end Go.Proofs.YtpeafgddbbojaaaGreatDoor
namespace Go.Proofs.YtpeafgddbbojaaaGreatDoor
open Go Go.RowKit Go.Maps Go.Sort Cal
attribute [local go_sem] Oper.semAt_some
structure MXW(w W:World)(v1 v2 v3 xv:Value)(xb:Nat)(Ts:List EX):Prop where
 c1:W.heap[w.heap.size]? =some (.cells #[v1] 27 (0,0))
 c2:W.heap[w.heap.size+1]? =some (.cells #[v2] 27 (0,0))
 c3:W.heap[w.heap.size+1+1]? =some (.cells #[v3] 27 (0,0))
 c4:W.heap[w.heap.size+1+1+1]? =some (.cells #[.slice none 0 0] 27 (0,0))
 x:W.heap[xb]? =some (.cells #[xv] 27 (0,0))
 r: ∃ base,MR base W xv Ts
 b:Below w.heap.size w W
 s:w.heap.size+4≤xb
theorem MXW.step{w W W':World}{v1 v2 v3 xv:Value}{xb:Nat}{Ts:List EX}(h:MXW w W v1 v2 v3 xv xb Ts)(hb:Below W.heap.size W W'):MXW w W' v1 v2 v3 xv xb Ts:=by
 obtain ⟨base,hr⟩:=h.r
 exact ⟨zq hb h.c1,zq hb h.c2,zq hb h.c3,zq hb h.c4,zq hb h.x,⟨base,hr.far (fun k _ hk=>hb.block k hk)⟩,zB h.b hb,h.s⟩
theorem MXW.put{w W:World}{v1 v2 v3 xv v':Value}{xb base:Nat}{Ts Zs:List EX}(h:MXW w W v1 v2 v3 xv xb Ts)(hr:MR base W v' Zs):MXW w (W.setCell ⟨xb,0,none⟩ v') v1 v2 v3 v' xb Zs:=by
 have hs:=h.s
 have g:=zG W ⟨xb,0,none⟩ v'
 have o: ∀ {i:Nat} {ob:Obj},i<xb→W.heap[i]? =some ob→(W.setCell ⟨xb,0,none⟩ v').heap[i]? =some ob:=fun {i ob} hi q=>(g.block i (Array.getElem?_eq_some_iff.1 q).1 (fun z=>by have z':i=xb:=Option.some.inj z;omega)).trans q
 exact ⟨o (by omega) h.c1,o (by omega) h.c2,o (by omega) h.c3,o (by omega) h.c4,zM (i:=0) v' h.x,⟨base,World.ownsRow.kept hr g (.inr (yN hr h.x (by decide)))⟩,zy h.b g (show w.heap.size≤xb by omega),h.s⟩
theorem zic{W:World}(ob:Nat)(h:W.heap[ob]? =some (.cells #[.slice none 0 0] 27 (0,0))):MOW W W ob (.slice none 0 0) (.slice none 0 0) [] []:=
 ⟨⟨rfl,rfl,rfl,Nat.le_refl _,fun _ _ _=>rfl⟩,h,⟨0,MR.nil _ _⟩,fun _ hX=>absurd hX List.not_mem_nil,fun _ _ hX=>absurd hX List.not_mem_nil,World.ownsRow_nil _ _ _ _,(Array.getElem?_eq_some_iff.1 h).1⟩
def zmu(lo:Nat)(a:List EV×List (ByteArray×ByteArray))(r:Ending)(w':World):Prop:=
 ∃ (va:Option Addr) (vn vc:Nat) (ca:Option Addr) (cn cc:Nat),r= .returned (.tuple #[.agg #[.slice va vn vc],.slice ca cn cc])∧zh9 lo w' (.slice ca cn cc) a.2∧cn=a.2.length∧(a.2=[]→ ∃ base Os,MR base w' (.slice va vn vc) Os∧Os.map EX.E=a.1∧ ∀ X∈Os,XRd w' X)
set_option maxHeartbeats 16000000 in
set_option maxRecDepth 100000 in
theorem zeI(y1 y2 y3:Nat)(a1 a2 a3:Option Addr)(n1 k1 n2 k2 n3 k3:Nat)(Xs Ys Zs:List EX)(w:World)(h1:MR y1 w (.slice a1 n1 k1) Xs)(h2:MR y2 w (.slice a2 n2 k2) Ys)(h3:MR y3 w (.slice a3 n3 k3) Zs)(x1: ∀ X∈Xs,XRd w X)(x2: ∀ X∈Ys,XRd w X)(x3: ∀ X∈Zs,XRd w X)(s1:Rises (Xs.map EX.E))(s2:Rises (Ys.map EX.E))(s3:Rises (Zs.map EX.E))(l1:Xs.length≤60)(l2:Ys.length≤60)(l3:Zs.length≤60):
  Calls Tryz.prog 8 #[.agg #[.slice a1 n1 k1],.agg #[.slice a2 n2 k2],.agg #[.slice a3 n3 k3]] w fun r w'=>Below w.heap.size w w'∧zmu w.heap.size (thr (Xs.map EX.E) (Ys.map EX.E) (Zs.map EX.E) (zai (Ys.map EX.E) (Zs.map EX.E))) r w':=by
 have A1:Hid (∀ W,Below w.heap.size w W→Calls Tryz.prog 22 #[.agg #[.slice a1 n1 k1],.agg #[.slice a2 n2 k2]] W fun r w'=> ∃ v',r= .returned v'∧Txs w' v' ((Ys.foldl wX Xs).map fun X=>X.E.id)∧Below W.heap.size W w'):=fun W hW=>zb6 y1 y2 _ _ Xs Ys W (h1.far (fun k _ hk=>hW.block k hk)) (h2.far (fun k _ hk=>hW.block k hk)) (by omega) (by omega) (fun X hX=>(x1 X hX).got.ok) (fun X hX=>(x2 X hX).got.ok)
 have A2:Hid (∀ W (base:Nat) (xv:Value),Below w.heap.size w W→MR base W xv (Ys.foldl wX Xs)→(∀ X∈Ys.foldl wX Xs,X.ok)→Calls Tryz.prog 22 #[.agg #[xv],.agg #[.slice a3 n3 k3]] W fun r w'=> ∃ v',r= .returned v'∧Txs w' v' (zcV Xs Ys Zs)∧Below W.heap.size W w'):=fun W base xv hW hr hk=>zb6 base y3 _ _ _ Zs W hr (h3.far (fun k _ hk=>hW.block k hk)) (by have:=foldl_wX_len Ys Xs;omega) (by omega) hk (fun X hX=>(x3 X hX).got.ok)
 have HR:Hid (MR y1 w (.slice a1 n1 k1) Xs∧MR y2 w (.slice a2 n2 k2) Ys∧MR y3 w (.slice a3 n3 k3) Zs):=⟨h1,h2,h3⟩
 have HX:Hid ((∀ X∈Xs,XRd w X)∧(∀ X∈Ys,XRd w X)∧(∀ X∈Zs,XRd w X)):=⟨x1,x2,x3⟩
 have HN2:Hid (n2=Ys.length):=by
  obtain ⟨a,c,e,_⟩:=h2.form
  cases e
  rfl
 have hn2:(n2:Int)≤60:=by have:=HN2.out;omega
 have HTH:Hid (thr (Xs.map EX.E) (Ys.map EX.E) (Zs.map EX.E) (zcV Xs Ys Zs)=thr (Xs.map EX.E) (Ys.map EX.E) (Zs.map EX.E) (zai (Ys.map EX.E) (Zs.map EX.E))):=zju Xs Ys Zs s1
 have HIL:Hid ((zcV Xs Ys Zs).length≤180):=by
  have z:=zjs Xs Ys Zs
  show _≤_
  omega
 have HTL:Hid (∀ m,m≤(zcV Xs Ys Zs).length→(thr (Xs.map EX.E) (Ys.map EX.E) (Zs.map EX.E) ((zcV Xs Ys Zs).take m)).2.length≤6*m∧(thr (Xs.map EX.E) (Ys.map EX.E) (Zs.map EX.E) ((zcV Xs Ys Zs).take m)).1.length≤60):=zjv _ _ _ _
 have H0:Hid (MXW w ((((w.alloc (.cells #[.slice a1 n1 k1] 27)).alloc (.cells #[.slice a2 n2 k2] 27)).alloc (.cells #[.slice a3 n3 k3] 27)).alloc (.cells #[.slice none 0 0] 27)) (.slice a1 n1 k1) (.slice a2 n2 k2) (.slice a3 n3 k3) (.slice none 0 0) (w.heap.size+4) []∨True):= .inr trivial
 have S0:Hid ((((w.alloc (.cells #[.slice a1 n1 k1] 27)).alloc (.cells #[.slice a2 n2 k2] 27)).alloc (.cells #[.slice a3 n3 k3] 27)).heap.size=w.heap.size+1+1+1):=by
  show _=_
  rw [World.size_alloc,World.size_alloc,World.size_alloc]
 have S1:Hid (∀ W:World,W=((((w.alloc (.cells #[.slice a1 n1 k1] 27)).alloc (.cells #[.slice a2 n2 k2] 27)).alloc (.cells #[.slice a3 n3 k3] 27)).alloc (.cells #[.slice none 0 0] 27))→W.heap[w.heap.size]? =some (.cells #[.slice a1 n1 k1] 27 (0,0))∧W.heap[w.heap.size+1]? =some (.cells #[.slice a2 n2 k2] 27 (0,0))∧W.heap[w.heap.size+1+1]? =some (.cells #[.slice a3 n3 k3] 27 (0,0))∧W.heap[w.heap.size+1+1+1]? =some (.cells #[.slice none 0 0] 27 (0,0))∧Below w.heap.size w W∧W.heap.size=w.heap.size+4):=fun W e=>by
  have z1:(w.alloc (.cells #[.slice a1 n1 k1] 27)).heap.size=w.heap.size+1:=World.size_alloc _ _
  have z2:((w.alloc (.cells #[.slice a1 n1 k1] 27)).alloc (.cells #[.slice a2 n2 k2] 27)).heap.size=w.heap.size+1+1:=by rw [World.size_alloc,z1]
  subst e
  exact ⟨zH _ (zH _ (zH _ (zJ _ rfl))),zH _ (zH _ (zJ _ z1)),zH _ (zJ _ z2),zJ _ S0.out,zB (zC _ _) (zB (zC _ _) (zB (zC _ _) (zC _ _))),by rw [World.size_alloc,S0.out]⟩
 clear h1 h2 h3 x1 x2 x3 H0
 go_enter Tryz.func8,Tryz.ntmps8
 go_upto_region 1 with fail
 generalize hw0:((((w.alloc (.cells #[.slice a1 n1 k1] 27)).alloc (.cells #[.slice a2 n2 k2] 27)).alloc (.cells #[.slice a3 n3 k3] 27)).alloc (.cells #[.slice none 0 0] 27))=w0
 have F0:Hid (_∧_):=S1.out w0 hw0.symm
 clear hw0 S1 S0
 have c1:=zR F0.out.1
 have c2:=zR F0.out.2.1
 go_upto_region 2 with (go_at_call 22;refine Calls.mono (A1.out _ F0.out.2.2.2.2.1) ?_;rintro r w1 ⟨v',rfl,_,hb1⟩;have HB1:=hid hb1;clear hb1)
 clear c1 c2
 have c1:=zR (zq HB1.out F0.out.1)
 go_upto_region 3 with fail
 have HX0:Hid (MXW w (w1.alloc (.cells #[.slice a1 n1 k1] 27)) (.slice a1 n1 k1) (.slice a2 n2 k2) (.slice a3 n3 k3) (.slice a1 n1 k1) w1.heap.size Xs):=by
  obtain ⟨f1,f2,f3,f4,f5,f6⟩:=F0.out
  have hb:=zB HB1.out (zC w1 (.cells #[.slice a1 n1 k1] 27))
  have hs:=HB1.out.size
  refine ⟨zq hb f1,zq hb f2,zq hb f3,zq hb f4,zJ _ rfl,⟨y1,HR.out.1.far (fun k _ hk=>(zB f5 hb).block k hk)⟩,zB f5 hb,?_⟩
  omega
 clear c1 F0 HB1 A1
 generalize w1.alloc (.cells #[.slice a1 n1 k1] 27)=w3 at HX0 ⊢
 generalize w1.heap.size=xb at HX0 ⊢
 go_wp2
 go_loopw [10] (fun iv wr=> ∃ m:Nat,m≤n2∧iv= .int .i64 m∧Hid (∃ xa xn xc,MXW w wr (.slice a1 n1 k1) (.slice a2 n2 k2) (.slice a3 n3 k3) (.slice xa xn xc) xb ((Ys.take m).foldl wX Xs)∧(∀ X∈(Ys.take m).foldl wX Xs,X.ok)∧((Ys.take m).foldl wX Xs).length≤60+m)) (fun iv _=>n2 - (intOf iv).toNat)
 case atStart=>exact ⟨0,Nat.zero_le _,rfl,_,_,_,HX0.out,fun X hX=>(HX.out.1 X hX).got.ok,l1⟩
 case round=>
  obtain ⟨m,hm,rfl,HM⟩:=hrel
  obtain ⟨xa,xn,xc,ha,hok,hlen⟩:=HM.out
  clear HM
  have HA:=hid ha
  have HK:Hid ((∀ X∈(Ys.take m).foldl wX Xs,X.ok)∧((Ys.take m).foldl wX Xs).length≤60+m):=⟨hok,hlen⟩
  have cb2:wr.cell? ⟨w.heap.size+1,0,none⟩=some (.slice a2 n2 k2):=zR ha.c2
  have cx:wr.cell? ⟨xb,0,none⟩=some (.slice xa xn xc):=zR ha.x
  have fx:wr.frozen? ⟨xb,0,none⟩=false:=zF ha.x 0
  by_cases hlt:m<n2
  ·have hmX:m<Ys.length:=by rw [←HN2.out];exact hlt
   obtain ⟨X,hX⟩: ∃ X,Ys[m]=X:=⟨_,rfl⟩
   have HT:Hid ((Ys.take (m+1)).foldl wX Xs=wX ((Ys.take m).foldl wX Xs) X):=by
    show _=_
    rw [List.take_succ_eq_append_getElem hmX,List.foldl_append,←hX]
    rfl
   have hXo:X.ok:=by rw [←hX];exact (HX.out.2.1 _ (List.getElem_mem hmX)).got.ok
   obtain ⟨e_a,e_c,e2,_,h3⟩:=(HR.out.2.1.far (W':=wr) (fun k _ hk=>ha.b.block k hk)).form
   obtain ⟨b,q1,q2⟩:=h3 m hmX
   have q2:EvAt wr b (m*11) X.E X.sl X.skv X.mvv:=by rw [←hX];exact q2
   injection e2 with e1 e3 e4
   clear e3 e4
   rw [q1] at e1
   subst e1
   obtain ⟨⟨ra,rn,rc,er⟩,⟨sa,sn,sc,es⟩,⟨ma,mn,mc,em⟩⟩:=hXo
   have WI:Hid (∀ W,Below wr.heap.size wr W→Calls Tryz.prog 23 #[.agg #[.slice xa xn xc],.agg #[.string X.E.id,.string X.E.ti,.int .i64 X.E.st,.int .i64 X.E.lg,.string X.E.f,.int .i64 X.E.e,.slice ra rn rc,.int .i64 X.E.c,.int .i64 X.E.u,.slice sa sn sc,.slice ma mn mc]] W fun r w'=> ∃ ya yn yc,r= .returned (.agg #[.slice ya yn yc])∧MR W.heap.size w' (.slice ya yn yc) (wX ((Ys.take m).foldl wX Xs) X)∧Below W.heap.size W w'):=fun W hW=>by
    obtain ⟨base,hr⟩:=(HA.out.step hW).r
    refine Calls.mono (zcn base X.E ra rn rc sa sn sc ma mn mc _ _ W hr (by have:=HK.out.2;omega) HK.out.1) ?_
    rintro r w' ⟨v',rfl,hmr,hb'⟩
    have eX:(⟨X.E,.slice ra rn rc,.slice sa sn sc,.slice ma mn mc⟩:EX)=X:=by rw [←er,←es,←em]
    rw [eX] at hmr
    have hmr2:MR W.heap.size w' v' (wX ((Ys.take m).foldl wX Xs) X):=hmr
    obtain ⟨ya,yc,rfl,_⟩:=hmr2.form
    exact ⟨_,_,_,rfl,hmr2,hb'⟩
   obtain ⟨k0,k1_,k2_,k3_,k4,k5,k6,k7,k8,k9,k10⟩:=q2
   rw [er] at k6
   rw [es] at k9
   rw [em] at k10
   have HOKX:Hid (X.ok):=⟨⟨ra,rn,rc,er⟩,⟨sa,sn,sc,es⟩,⟨ma,mn,mc,em⟩⟩
   have g1:(0:Int)≤(m:Int):=by omega
   have g2:(m:Int)<(n2:Int):=by omega
   clear ha hok hlen q1 h3 hX er es em
   go_upto_region 6 with fail
   go_region_with (go_at_call 23;refine Calls.mono (WI.out _ ?_) ?_;(first|with_reducible exact zI _|with_reducible assumption|exact Below.refl _ _);rintro r w21 ⟨ya,yn,yc,rfl,hmr,hb21⟩;have hw21:Below wr.heap.size wr w21:=(by first|with_reducible exact zB (zI _) hb21|exact hb21);have HMR:Hid (∃ base,MR base w21 (.slice ya yn yc) (wX ((Ys.take m).foldl wX Xs) X)):=⟨_,hmr⟩;clear hmr;have A21:Hid (MXW w w21 (.slice a1 n1 k1) (.slice (some ⟨b,0,none⟩) n2 k2) (.slice a3 n3 k3) (.slice xa xn xc) xb ((Ys.take m).foldl wX Xs)):=HA.out.step hw21;have cz:w21.cell? ⟨xb,0,none⟩=some (.slice xa xn xc):=zR A21.out.x;have fz:w21.frozen? ⟨xb,0,none⟩=false:=zF A21.out.x 0)
   all_goals
    go_wp2
    obtain ⟨base,hmr⟩:=HMR.out
    refine ⟨⟨m+1,by omega,by go_num,ya,yn,yc,?_,?_,?_⟩,?_⟩
    ·rw [HT.out];exact A21.out.put hmr
    ·rw [HT.out];exact zmr HK.out.1 HOKX.out
    ·rw [HT.out];have:=zh8 ((Ys.take m).foldl wX Xs) X;have:=HK.out.2;omega
    ·simp [intOf];omega
  ·have hmn:m=n2:=by omega
   have g2:(n2:Int)≤(m:Int):=by omega
   have HE:Hid ((Ys.take m).foldl wX Xs=Ys.foldl wX Xs):=by show _=_;rw [hmn,HN2.out,List.take_length]
   have HA':Hid (MXW w wr (.slice a1 n1 k1) (.slice a2 n2 k2) (.slice a3 n3 k3) (.slice xa xn xc) xb (Ys.foldl wX Xs)):=by rw [←HE.out];exact ha
   have AI:Hid (Calls Tryz.prog 22 #[.agg #[.slice xa xn xc],.agg #[.slice a3 n3 k3]] wr fun r w'=> ∃ v',r= .returned v'∧Txs w' v' (zcV Xs Ys Zs)∧Below wr.heap.size wr w'):=by
    obtain ⟨base,hr⟩:=HA'.out.r
    exact A2.out wr base _ HA'.out.b hr (by rw [←HE.out];exact hok)
   clear hmn hok hlen ha HK HA HE A2
   have cb3:wr.cell? ⟨w.heap.size+1+1,0,none⟩=some (.slice a3 n3 k3):=zR HA'.out.c3
   go_upto_region 8 with (go_at_call 22;refine Calls.mono AI.out ?_;rintro r w5 ⟨v5,rfl,htx,hb5⟩;have HTX:=hid htx;have HB5:=hid hb5;clear htx hb5)
   clear cb2 cb3 cx fx AI
   generalize hids:zcV Xs Ys Zs=ids at HTX HTH HIL HTL
   clear hids
   obtain ⟨ia,ic,e5,_,hic,hiat⟩:=HTX.out
   subst e5
   clear HTX
   obtain ⟨ni,hni⟩: ∃ n,ids.length=n:=⟨_,rfl⟩
   have HNI:=hid hni
   rw [hni]
   have hni':ni≤180:=by rw [←hni];exact HIL.out
   have HIA:=hid hiat
   clear hiat hic hni HIL
   go_upto_region 9 with fail
   have HX9:Hid (MXW w (w5.alloc (.cells #[.slice none 0 0] 27)) (.slice a1 n1 k1) (.slice a2 n2 k2) (.slice a3 n3 k3) (.slice xa xn xc) xb (Ys.foldl wX Xs)):=HA'.out.step (zB HB5.out (zC _ _))
   have HO9:Hid ((w5.alloc (.cells #[.slice none 0 0] 27)).heap[w5.heap.size]? =some (.cells #[.slice none 0 0] 27 (0,0))):=zJ _ rfl
   have HIA9:Hid (∀ (j:Nat) (h:j<ids.length),∃ b:Nat,ia=some ⟨b,0,none⟩∧b≠w5.heap.size∧(w5.alloc (.cells #[.slice none 0 0] 27)).cell? ⟨b,j,none⟩=some (.string ids[j])):=fun j h=>by
    obtain ⟨b,e,hb,hc⟩:=HIA.out j h
    exact ⟨b,e,Nat.ne_of_lt hb,zD hc (zC _ _)⟩
   have HOX:Hid (w.heap.size+4≤w5.heap.size):=by
    have z1:=HA'.out.s
    have z2:=(Array.getElem?_eq_some_iff.1 HA'.out.x).1
    have z3:=HB5.out.size
    show _≤_
    omega
   clear HIA HA' HB5
   generalize w5.alloc (.cells #[.slice none 0 0] 27)=w2 at HX9 HO9 HIA9 ⊢
   generalize w5.heap.size=ob at HO9 HIA9 HOX ⊢
   have MS:Hid (MOW w2 w2 ob (.slice none 0 0) (.slice none 0 0) [] []):=zic ob HO9.out
   have KB:Hid (w2.heap[w.heap.size]? =some (.cells #[.slice a1 n1 k1] 27 (0,0))∧w2.heap[w.heap.size+1]? =some (.cells #[.slice a2 n2 k2] 27 (0,0))∧w2.heap[w.heap.size+1+1]? =some (.cells #[.slice a3 n3 k3] 27 (0,0))∧w.heap.size+4≤ob∧Below w.heap.size w w2∧w2.heap[w.heap.size+1+1+1]? =some (.cells #[.slice none 0 0] 27 (0,0))):=⟨HX9.out.c1,HX9.out.c2,HX9.out.c3,HOX.out,HX9.out.b,HX9.out.c4⟩
   have R1:Hid (∃ base,MR base w2 (.slice a1 n1 k1) Xs):=⟨y1,HR.out.1.far (fun k _ hk=>HX9.out.b.block k hk)⟩
   have R2:Hid (∃ base,MR base w2 (.slice a2 n2 k2) Ys):=⟨y2,HR.out.2.1.far (fun k _ hk=>HX9.out.b.block k hk)⟩
   have R3:Hid (∃ base,MR base w2 (.slice a3 n3 k3) Zs):=⟨y3,HR.out.2.2.far (fun k _ hk=>HX9.out.b.block k hk)⟩
   have G1:Hid (∀ X∈Xs,XRd w2 X):=fun X hX=>(HX.out.1 X hX).step HX9.out.b
   have G2:Hid (∀ X∈Ys,XRd w2 X):=fun X hX=>(HX.out.2.1 X hX).step HX9.out.b
   have G3:Hid (∀ X∈Zs,XRd w2 X):=fun X hX=>(HX.out.2.2 X hX).step HX9.out.b
   clear HX9 HOX HR HX HN2 hn2 g2 hm hlt HX0
   go_wp2
   go_loopw [12,13] (fun bv iv wr=> ∃ (m bn:Nat) (ba:Option Addr) (bc:Nat),m≤ni∧iv= .int .i64 m∧bv= .slice ba bn bc∧Hid (∃ (oa:Option Addr) (on oc:Nat) (Os:List EX) (cl:List (ByteArray×ByteArray)),MOW w2 wr ob (.slice oa on oc) (.slice ba bn bc) Os cl∧bn=cl.length∧(Os.map EX.E,cl)=thr (Xs.map EX.E) (Ys.map EX.E) (Zs.map EX.E) (ids.take m))) (fun _ iv _=>ni - (intOf iv).toNat)
   case atStart=>exact ⟨0,0,none,0,Nat.zero_le _,rfl,rfl,none,0,0,[],[],MS.out,rfl,rfl⟩
   case round=>
    obtain ⟨m2,bn,ba,bc,hm2,rfl,rfl,HL⟩:=hrel
    obtain ⟨oa,on,oc,Os,cl,hmo,hbn,hth⟩:=HL.out
    clear HL
    have HMO:=hid hmo
    have HBN:=hid hbn
    have HTM:=hid hth
    have hbl:bn≤5000∧Os.length≤60:=by
     obtain ⟨z1,z2⟩:=HTL.out m2 (by rw [HNI.out];exact hm2)
     rw [←hth] at z1 z2
     dsimp only at z1 z2
     rw [List.length_map] at z2
     exact ⟨by omega,z2⟩
    clear hmo hbn hth
    by_cases hlt:m2<ni
    ·have hmi:m2<ids.length:=by rw [HNI.out];exact hlt
     obtain ⟨ib,rfl,hib,hci⟩:=HIA9.out m2 hmi
     have HTS:Hid (thr (Xs.map EX.E) (Ys.map EX.E) (Zs.map EX.E) (ids.take (m2+1))=jSp (Xs.map EX.E) (Ys.map EX.E) (Zs.map EX.E) (Os.map EX.E,cl) ids[m2]):=by
      show _=_
      rw [jy _ _ _ ids m2 hmi,←HTM.out]
     have KB2:Hid (w2.heap[w.heap.size]? =some (.cells #[.slice a1 n1 k1] 27 (0,0))∧w2.heap[w.heap.size+1]? =some (.cells #[.slice a2 n2 k2] 27 (0,0))∧w2.heap[w.heap.size+1+1]? =some (.cells #[.slice a3 n3 k3] 27 (0,0))∧w.heap.size+4≤ob∧ib≠ob∧w2.cell? ⟨ib,m2,none⟩=some (.string ids[m2])):=⟨KB.out.1,KB.out.2.1,KB.out.2.2.1,KB.out.2.2.2.1,hib,hci⟩
     refine moA Xs Ys Zs w w2 wr ob xb ib m2 ni ic a1 a2 a3 oa ba n1 k1 n2 k2 n3 k3 on oc bn bc ids[m2] Os cl HMO HBN hbl.1 hbl.2 hlt (by omega) KB2 KB.out.2.2.2.2.1 HO9 R1 G1 s1 l1 R2 G2 s2 l2 R3 G3 s3 l3 _ _ _ _ _ _ _ _ _ _ _ _ _ _ _ _ _ _ _ _ _ _ _ _ _ _ _ _ _ _ _ _ _ _ _ _ _ _ _ _ _ _ _ _ _ _ _ _ _ _ _ _ _ _ _ _ _ _ _ _ _ _ _ _ _ _ _ _ _ _ _ _ _ _ _ _ _ _ _ _ _ _ _ _ _ _ _ _ _ _ _ _ _ _ _ _ _ _ _ _ _ _ _ _ _ _ _ _ _ _ _ _ _ _ _ _ _ _ _ _ _ _ _ _ _ _ _ _ _ _ _ _ _ _ _ _ _ _ _ _ _ _ _ _ _ _ _ _ _ ?_
     intro bo bp bq br bs bt bu bw bx bz bA bB bC bD bE bF bG bH bI bJ bK bL bM bN bO bP bQ bR bS bT bU bV bW bX bY bZ da db dc dd de df dg dh di dj dk dl dm dn dp dq dr ds dt du dv dw dx dy dz dA dB dC aa ab ac ad ae af ag ah ai aj ak al am an ao ap aq ar au av aw ax ay az aA aB aC aD aE aF aG aH aI aJ aK aL aM aN aO aP aQ aR aS aT aU aV aW aX aY aZ bb bd be bf bg bh bi bj bk bl bm W' hr
     obtain ⟨ba',bn',bc',vo',Os',cl',e12,e13,hr1,hr2⟩:=hr
     obtain ⟨base',hmr⟩:=hr1.m
     obtain ⟨oa',oc',rfl,_⟩:=hmr.form
     have hbn':bn'=cl'.length:=by
      obtain ⟨_,_,e⟩:=zQ hr1.c
      cases e
      rfl
     refine ⟨⟨bo,bp,bq,br,bs,bt,bu,bw,bx,bz,bA,bB,bC,bD,bE,bF,bG,bH,bI,bJ,bK,bL,bM,bN,bO,bP,bQ,bR,bS,bT,bU,bV,bW,bX,bY,bZ,da,db,dc,dd,de,df,dg,dh,di,dj,dk,dl,dm,dn,dp,dq,dr,ds,dt,du,dv,dw,dx,dy,dz,dA,dB,dC,aa,ab,ac,ad,ae,af,ag,ah,ai,aj,ak,al,am,an,ao,ap,aq,ar,au,av,aw,ax,ay,az,aA,aB,aC,aD,aE,aF,aG,aH,aI,aJ,aK,aL,aM,aN,aO,aP,aQ,aR,aS,aT,aU,aV,aW,aX,aY,aZ,bb,bd,be,bf,bg,bh,bi,bj,bk,bl,bm,?_,rfl⟩,?_⟩
     ·exact ⟨m2+1,bn',ba',bc',by omega,by rw [e13];go_num,e12,oa',_,oc',Os',cl',hr1,hbn',hr2.trans HTS.out.symm⟩
     ·rw [e13];simp [intOf];omega
    ·have hmn:m2=ni:=by omega
     have HTF:Hid ((Os.map EX.E,cl)=thr (Xs.map EX.E) (Ys.map EX.E) (Zs.map EX.E) (zai (Ys.map EX.E) (Zs.map EX.E))):=by
      show _=_
      rw [HTM.out,←HTH.out,hmn,←HNI.out,List.take_length]
     have HC4:Hid (wr.heap[w.heap.size+1+1+1]? =some (.cells #[.slice none 0 0] 27 (0,0))):=by
      obtain ⟨_,_,_,z4,_,z6⟩:=KB.out
      exact (HMO.out.g.block _ (Array.getElem?_eq_some_iff.1 z6).1 (fun z=>by have z':w.heap.size+1+1+1=ob:=Option.some.inj z;omega)).trans z6
     have HBW:Hid (Below w.heap.size w wr):=HMO.out.bel KB.out.2.2.2.2.1 (by have:=KB.out.2.2.2.1;omega)
     have HWS:Hid (w.heap.size≤w2.heap.size):=KB.out.2.2.2.2.1.size
     have g3:(ni:Int)≤(m2:Int):=by omega
     clear hmn HTM HTH KB R1 R2 R3 G1 G2 G3 HIA9 HTL
     have c4:=zR HC4.out
     have f4:=zF HC4.out 0
     by_cases hc:cl=[]
     ·have hb0:bn=0:=by rw [HBN.out,hc];rfl
      have HCL:=hid hc
      subst hb0
      have cO:=zR HMO.out.o
      clear hc
      go_wp2
      have G9:=zG wr ⟨w.heap.size+1+1+1,0,none⟩ (.slice oa on oc)
      have nB:(wr.setCell ⟨w.heap.size+1+1+1,0,none⟩ (.slice oa on oc)).heap[w.heap.size+1+1+1]? =some (.cells #[.slice oa on oc] 27 (0,0)):=zM (i:=0) _ HC4.out
      have c9:=zR nB
      refine bodyPost_ret (v:= .tuple #[.agg #[.slice oa on oc],.slice none 0 0]) (by simp [results,Tryz.f8,go_sem,c9]) rfl ⟨zy HBW.out G9 (show w.heap.size≤w.heap.size+1+1+1 by omega),?_⟩
      rw [←HTF.out]
      refine ⟨_,_,_,_,_,_,rfl,?_,?_,fun _=> ?_⟩
      ·rw [HCL.out];exact World.ownsRow_nil _ _ _ _
      ·rw [HCL.out];rfl
      ·obtain ⟨base,hm⟩:=HMO.out.m
       exact ⟨base,Os,World.ownsRow.kept hm G9 (.inr (yN hm HC4.out (by decide))),rfl,fun X hX=>(HMO.out.x HCL.out X hX).off HC4.out G9⟩
     ·have hb0:(0:Int)<(bn:Int):=by
       have:=List.length_pos_iff.2 hc
       have:=HBN.out
       omega
      have HCL:=hid hc
      clear hc
      go_wp2
      have G9:=zG wr ⟨w.heap.size+1+1+1,0,none⟩ (.slice none 0 0)
      have nB:(wr.setCell ⟨w.heap.size+1+1+1,0,none⟩ (.slice none 0 0)).heap[w.heap.size+1+1+1]? =some (.cells #[.slice none 0 0] 27 (0,0)):=zM (i:=0) _ HC4.out
      have c9:=zR nB
      refine bodyPost_ret (v:= .tuple #[.agg #[.slice none 0 0],.slice ba bn bc]) (by simp [results,Tryz.f8,go_sem,c9]) rfl ⟨zy HBW.out G9 (show w.heap.size≤w.heap.size+1+1+1 by omega),?_⟩
      rw [←HTF.out]
      exact ⟨_,_,_,_,_,_,rfl,zW (World.ownsRow.kept HMO.out.c G9 (.inr (yN HMO.out.c HC4.out (by decide)))) HWS.out,HBN.out,fun q=>absurd q HCL.out⟩
structure GLs(W:World)(E:EV)(sl skv mvv:Value):Prop where
 d:Got W sl E.ds
 s:Got W skv E.sk
 m:GotM W mvv E.mv
theorem GLs.step{W W':World}{E:EV}{sl skv mvv:Value}(h:GLs W E sl skv mvv)(hb:Below W.heap.size W W'):GLs W' E sl skv mvv:=⟨h.d.step hb,h.s.step hb,h.m.step hb⟩
theorem zeR{W:World}{v:Value}{l:List ByteArray}{nl:Nat}(h:Txs W v l)(hn:l.length=nl): ∃ a c,v= .slice a nl c:=by
 obtain ⟨a,c,e,_⟩:=h
 subst hn
 exact ⟨a,c,e⟩
set_option maxHeartbeats 4000000 in
set_option maxRecDepth 100000 in
theorem zbO(lo bb n:Nat)(mo:Option Nat)(C:List EV)(base:Nat)(v:Value)(Xs:List EX)(s:Nat→Addr)(w w0:World)(hB0:Below w0.heap.size w0 w)(gk:GlobK s w)(g:GlobR w)(hb:BookAt lo w bb mo n C)(hn:n≤1000)(hC:C.length≤60)(hR:MR base w v Xs)(hg: ∀ X∈Xs,XGot w0 X)(hs:Xs.map EX.E=C):
  Calls Tryz.prog 10 #[.pointer (some ⟨bb,0,none⟩),.agg #[v]] w fun r w'=>r= .returned (.int .i64 1)∧Below w.heap.size w w':=by
 have hXl:Xs.length=C.length:=by rw [←hs,List.length_map]
 have hEW: ∀ X∈Xs,EW X.E:=fun X hX=>hb.rises.2 X.E (by rw [←hs];exact List.mem_map_of_mem hX)
 obtain ⟨l,hl⟩: ∃ l,C.map EV.id=l:=⟨_,rfl⟩
 obtain ⟨nl,hnl⟩: ∃ nl,l.length=nl:=⟨_,rfl⟩
 have hl80:l.length≤80000:=by rw [←hl,List.length_map];omega
 have hids:(Xs.map fun X=>X.E.id)=l:=by
  rw [←hl,←hs,List.map_map]
  rfl
 have ID:Hid (∀ W,Below w.heap.size w W→Calls Tryz.prog 15 #[.pointer (some ⟨bb,0,none⟩)] W fun r w'=> ∃ a c,r= .returned (.slice a nl c)∧Txs w' (.slice a nl c) l∧Below W.heap.size W w'):=fun W hW=>by
  refine Calls.mono (zgV lo bb n mo C W (hb.step hW) (Nat.le_trans hn (by decide))) ?_
  rintro r w' ⟨v1,rfl,hr,hb1⟩
  rw [hl] at hr
  have ht:=hr.txs hl80
  obtain ⟨a,c,rfl⟩:=zeR ht hnl
  exact ⟨a,c,rfl,ht,hb1⟩
 have MI:Hid (∀ W,Below w.heap.size w W→Calls Tryz.prog 29 #[.agg #[v]] W fun r w'=> ∃ a c,r= .returned (.slice a nl c)∧Txs w' (.slice a nl c) l∧Below W.heap.size W w'):=fun W hW=>by
  refine Calls.mono (zeQ base v Xs W (hR.far (fun k _ hk=>hW.block k hk)) (by omega)) ?_
  rintro r w' ⟨v1,rfl,ht,hb1⟩
  rw [hids] at ht
  obtain ⟨a,c,rfl⟩:=zeR ht hnl
  exact ⟨a,c,rfl,ht,hb1⟩
 have BT:Hid (∀ W,Below w.heap.size w W→Calls Tryz.prog 30 #[.pointer (some ⟨bb,0,none⟩)] W fun r w'=>r= .returned (.string (bs (bkT C)))∧Below W.heap.size W w'):=fun W hW=>zki lo bb n mo C s W (gk.step hW) (g.step hW) (hb.step hW) (Nat.le_trans hn (by decide)) hC
 have MT:Hid (∀ W,Below w.heap.size w W→Calls Tryz.prog 31 #[.agg #[v]] W fun r w'=>r= .returned (.string (bs (bkT C)))∧Below W.heap.size W w'):=fun W hW=>by
  have:=zgE base v Xs W w0 (zB hB0 hW) (hR.far (fun k _ hk=>hW.block k hk)) (by omega) hg hEW
  rw [hs] at this
  exact this
 obtain ⟨a,cap,rfl,hcap,_⟩:=hR.form
 have hA:=zC w (.cells #[.slice a Xs.length cap] 27)
 have HA:Hid (_):=hA
 have cB:=zR (zJ (W:=w) (.cells #[.slice a Xs.length cap] 27) rfl)
 clear hA hR hg hs hb gk g hids hEW
 generalize bs (bkT C)=tx at BT MT
 generalize Xs.length=xl at MI MT cB HA ⊢
 generalize hw1:w.alloc (.cells #[.slice a xl cap] 27)=w1 at HA cB
 have CB:Hid (∀ W,Below w1.heap.size w1 W→W.cell? ⟨w.heap.size,0,none⟩=some (.slice a xl cap)):=fun W hW=>zD cB hW
 go_enter Tryz.func10,Tryz.ntmps10
 go_upto_region 3 with (fail)
 go_region_with (first
  |(go_at_call 14;refine Calls.mono (zaE (l:=l) (by first|exact HTI.out|exact HTI.out.step hbM) (by first|exact HTM.out|exact HTM.out.step hbI)) ?_;rintro r wS ⟨rfl,hbS⟩;have kS:Below w1.heap.size w1 wS:=(by first|with_reducible exact zB kM hbS|with_reducible exact zB kI hbS);have cS:=CB.out _ kS)
  |(go_at_call 30;refine Calls.mono (BT.out _ (zB HA.out ?_)) ?_;(first|with_reducible assumption|with_reducible exact zI _);rintro r wT ⟨rfl,hbT⟩;have kT:Below w1.heap.size w1 wT:=(by first|with_reducible exact zB kS hbT|with_reducible exact zB kU hbT);have cT:=CB.out _ kT)
  |(go_at_call 31;refine Calls.mono (MT.out _ (zB HA.out ?_)) ?_;(first|with_reducible assumption|with_reducible exact zI _);rintro r wU ⟨rfl,hbU⟩;have kU:Below w1.heap.size w1 wU:=(by first|with_reducible exact zB kT hbU|with_reducible exact zB kS hbU);have cU:=CB.out _ kU)
  |(go_at_call 15;refine Calls.mono (ID.out _ (zB HA.out ?_)) ?_;(first|with_reducible assumption|with_reducible exact zI _);rintro r wI ⟨aI,cI,rfl,htI,hbI⟩;have HTI:=hid htI;have kI:Below w1.heap.size w1 wI:=(by first|with_reducible exact zB (zI _) hbI|with_reducible exact zB kM hbI);have cI1:=CB.out _ kI;clear htI)
  |(go_at_call 29;refine Calls.mono (MI.out _ (zB HA.out ?_)) ?_;(first|with_reducible assumption|with_reducible exact zI _);rintro r wM ⟨aM,cM,rfl,htM,hbM⟩;have HTM:=hid htM;have kM:Below w1.heap.size w1 wM:=(by first|with_reducible exact zB (zI _) hbM|with_reducible exact zB kI hbM);have cM1:=CB.out _ kM;clear htM))
 all_goals
  go_wp2
  go_ret
  first
   |exact ⟨rfl,zB HA.out kT⟩
   |exact ⟨rfl,zB HA.out kU⟩
end Go.Proofs.YtpeafgddbbojaaaGreatDoor
