import Derived.Test.YtpeafgddbbojaaaGreatDoorJqAX
import Derived.Test.YtpeafgddbbojaaaGreatDoorJqAA
namespace Go.Proofs.YtpeafgddbbojaaaGreatDoor
open Go Go.RowKit Go.Maps Go.Sort Cal
attribute [local go_sem] Oper.semAt_some
theorem zeC(W:World)(x:ByteArray): ∀ (j:Nat) (v:Value),[Value.string x][j]? =some v→(W.alloc (.cells #[.string x] 9)).cell? ((⟨W.heap.size,0,none⟩:Addr).add j)=some v:=fun j v hv=>by
 match j,hv with
 |0,hv=>simp at hv;subst hv;simp [Addr.add]
theorem zh7{W:World}{b1 b2:Nat}{e1 e2:TypeId}{s1 s2 n1 n2:Nat}{v1 v2:Value}{xs ys:List Value}(h1:W.ownsRow b1 e1 s1 v1 n1 xs)(h2:W.ownsRow b2 e2 s2 v2 n2 ys){z:Nat}(hz1:v1.ownBlock=some z)(hz2:v2.ownBlock=some z):e1=e2:=by
 rcases h2.2 with ⟨q,_⟩|⟨g,cap,cur,hv,_,hh,_⟩
 ·rw [q] at hz2;cases hz2
 ·rw [hv] at hz2
  have:g=z:=Option.some.inj hz2
  subst this
  apply Classical.byContradiction
  intro hne
  exact xT h1 hh hne hz1
theorem zla{W:World}{b1 b2:Nat}{e1 e2:TypeId}{s1 s2 n1 n2:Nat}{v1:Value}{a:Option Addr}{n c:Nat}{xs ys:List Value}(h1:W.ownsRow b1 e1 s1 v1 n1 xs)(h2:W.ownsRow b2 e2 s2 (.slice a n c) n2 ys)(hne:e1≠e2)(z:v1.ownBlock=(Value.slice a n c).ownBlock):v1.ownBlock=none∨False:=by
 cases hb:v1.ownBlock with
 |none=>exact .inl rfl
 |some g=>exact .inr (hne (zh7 h1 h2 hb (z.symm.trans hb)))
theorem zcL{W W':World}{b1 b2:Nat}{e1 e2:TypeId}{s1 s2 n1 n2:Nat}{v1:Value}{a:Option Addr}{n c:Nat}{xs ys:List Value}(h1:W.ownsRow b1 e1 s1 v1 n1 xs)(h2:W.ownsRow b2 e2 s2 (.slice a n c) n2 ys)(g:W.grownBy W' (Value.slice a n c).ownBlock)(hne:e1≠e2):W'.ownsRow b1 e1 s1 v1 n1 xs:=by
 by_cases hz:v1.ownBlock=(Value.slice a n c).ownBlock
 ·rcases zla h1 h2 hne hz with q|q
  ·exact World.ownsRow.kept h1 g (.inl q)
  ·exact q.elim
 ·exact World.ownsRow.kept h1 g (.inr hz)
theorem yp{base B:Nat}{W W':World}{v:Value}{l:List ByteArray}(h:NmR base W v l)(g:W.grownBy W' (some B))(hB:B<base):NmR base W' v l:=World.ownsRow.kept h g (.inr (fun q=>by have:=(World.ownsRow.lt h _ q).1;omega))
theorem zfw{base n:Nat}{W:World}{v:Value}{l:List ByteArray}{x:ByteArray}(h:W.ownsRow base 9 1 v (n+1) (l.map Value.string++[.string x]))(hn:n=l.length):NmR base W v (l++[x]):=by
 unfold NmR
 rw [List.length_append,List.map_append,←hn]
 exact h
theorem zeD{E1 E2 E3:EV}{k:Nat}(hk:k<6)(hp:xV E1 E2 E3 k=E2)(hs:(yD (bs (fT E1 k)) (bs (fT E2 k)) (bs (fT E3 k))).isSome=true):zP E1 E2 E3 (k+1)=zP E1 E2 E3 k:=by
 match k,hk with
 |0,_=>
  have e:(jE E1 E2 E3).ti=E2.ti:=by show (xV E1 E2 E3 _).ti=_;rw [hp]
  simp [zP,e]
 |1,_=>
  have e:(jE E1 E2 E3).st=E2.st:=by show (xV E1 E2 E3 _).st=_;rw [hp]
  simp [zP,e]
 |2,_=>
  have e:(jE E1 E2 E3).lg=E2.lg:=by show (xV E1 E2 E3 _).lg=_;rw [hp]
  simp [zP,e]
 |3,_=>
  have e1:(jE E1 E2 E3).f=E2.f:=by show (xV E1 E2 E3 _).f=_;rw [hp]
  have e2:(jE E1 E2 E3).e=E2.e:=by show (xV E1 E2 E3 _).e=_;rw [hp]
  have e3:(jE E1 E2 E3).ds=E2.ds:=by show (xV E1 E2 E3 _).ds=_;rw [hp]
  have e4:(jE E1 E2 E3).c=E2.c:=by show (xV E1 E2 E3 _).c=_;rw [hp]
  have e5:(jE E1 E2 E3).u=E2.u:=by show (xV E1 E2 E3 _).u=_;rw [hp]
  simp [zP,e1,e2,e3,e4,e5]
 |4,_=>
  have e:(jE E1 E2 E3).sk=E2.sk:=by
   show (if (yD _ _ _).isSome then (xV E1 E2 E3 4).sk else _)=_
   rw [if_pos hs,hp]
  simp [zP,e]
 |5,_=>
  have e:(jE E1 E2 E3).mv=E2.mv:=by
   show (if (yD _ _ _).isSome then (xV E1 E2 E3 5).mv else _)=_
   rw [if_pos hs,hp]
  simp [zP,e]
abbrev eA(E:EV)(ra:Option Addr)(rn rc:Nat)(sa:Option Addr)(sn sc:Nat)(ma:Option Addr)(mn mc:Nat):Array Value:= #[.string E.id,.string E.ti,.int .i64 E.st,.int .i64 E.lg,.string E.f,.int .i64 E.e,.slice ra rn rc,.int .i64 E.c,.int .i64 E.u,.slice sa sn sc,.slice ma mn mc]
abbrev eV(id ti:ByteArray)(st lg:Int)(f:ByteArray)(e:Int)(ra:Option Addr)(rn rc:Nat)(c u:Int)(sa:Option Addr)(sn sc:Nat)(ma:Option Addr)(mn mc:Nat):Array Value:= #[.string id,.string ti,.int .i64 st,.int .i64 lg,.string f,.int .i64 e,.slice ra rn rc,.int .i64 c,.int .i64 u,.slice sa sn sc,.slice ma mn mc]
def zac:Code→Option Code
 | .block _ c=>zac c
 | .scope c=>zac c
 | .cond _ a b=>(zac a).orElse fun _=>zac b
 | .seq a b=>(zac a).orElse fun _=>zac b
 | .loop c=>some c
 |_=>none
noncomputable def zmq:Code:=((Tryz.f27.body.bind zac).getD .skip)
set_option maxHeartbeats 16000000 in
set_option maxRecDepth 100000 in
theorem meR(E1 E2 E3:EV)(ra1 sa1 ma1 ra2 sa2 ma2 ra3 sa3 ma3:Option Addr)(rn1 rc1 sn1 sc1 mn1 mc1 rn2 rc2 sn2 sc2 mn2 mc2 rn3 rc3 sn3 sc3 mn3 mc3:Nat)(w w0 wr:World)(HB0:Hid (Below w0.heap.size w0 w))(k n:Nat)(hlt:k<6)(id ti f:ByteArray)(st lg e c u:Int)(ra sa ma ba:Option Addr)(rn rc sn sc mn mc bc:Nat)
  (HW0:Hid (MEW w wr (eA E1 ra1 rn1 rc1 sa1 sn1 sc1 ma1 mn1 mc1) (eA E2 ra2 rn2 rc2 sa2 sn2 sc2 ma2 mn2 mc2) (eA E3 ra3 rn3 rc3 sa3 sn3 sc3 ma3 mn3 mc3) (eV id ti st lg f e ra rn rc c u sa sn sc ma mn mc))) (HN:Hid (NmR (w.heap.size+6) wr (.slice ba n bc) (jCs E1 E2 E3 k))) (HM:Hid (jCs E1 E2 E3 k=[]→MEL w0 wr (zP E1 E2 E3 k) id ti f st lg e c u (.slice ra rn rc) (.slice sa sn sc) (.slice ma mn mc))) (HNN:Hid (n=(jCs E1 E2 E3 k).length)) (hcl:n≤k)
  (FX1:Hid (∀ W,Below w.heap.size w W→Calls Tryz.prog 53 #[.agg (eA E1 ra1 rn1 rc1 sa1 sn1 sc1 ma1 mn1 mc1),.string (zt k)] W fun r w'=>r= .returned (.string (bs (fT E1 k)))∧Below W.heap.size W w')) (FX2:Hid (∀ W,Below w.heap.size w W→Calls Tryz.prog 53 #[.agg (eA E2 ra2 rn2 rc2 sa2 sn2 sc2 ma2 mn2 mc2),.string (zt k)] W fun r w'=>r= .returned (.string (bs (fT E2 k)))∧Below W.heap.size W w')) (FX3:Hid (∀ W,Below w.heap.size w W→Calls Tryz.prog 53 #[.agg (eA E3 ra3 rn3 rc3 sa3 sn3 sc3 ma3 mn3 mc3),.string (zt k)] W fun r w'=>r= .returned (.string (bs (fT E3 k)))∧Below W.heap.size W w')) (SO:Hid (∀ W,Below w.heap.size w W→Calls Tryz.prog 54 #[.slice sa1 sn1 sc1,.slice sa2 sn2 sc2,.slice sa3 sn3 sc3] W fun r w'=> ∃ v,r= .returned v∧Ow W.heap.size w' v (jSk E1.sk E2.sk E3.sk)∧Below W.heap.size W w')) (MO:Hid (∀ W,Below w.heap.size w W→Calls Tryz.prog 55 #[.slice ma1 mn1 mc1,.slice ma2 mn2 mc2,.slice ma3 mn3 mc3] W fun r w'=> ∃ v,r= .returned (.tuple #[v,.bool (jMv E1.mv E2.mv E3.mv).isSome])∧OwM W.heap.size w' v ((jMv E1.mv E2.mv E3.mv).getD [])∧Below W.heap.size W w')) (PT:Hid (∀ (x y z:ByteArray) (W:World),Calls Tryz.prog 25 #[.string x,.string y,.string z] W fun r w'=>r= .returned (.tuple #[.string (pkT x y z).1,.bool (pkT x y z).2])∧w'=W)) (G3:Hid (Got w0 (.slice ra3 rn3 rc3) E3.ds∧Got w0 (.slice sa3 sn3 sc3) E3.sk∧GotM w0 (.slice ma3 mn3 mc3) E3.mv))
  (db dc dd de df dg dh di dj dk dl dm dn dp dr dt du dv dw dx dy dz dA dB dC dD dE dF dG dH dI dJ dK dL dM dN dO dP dQ dR dS dT dU dV dW dX dY dZ ea eb ec ed ee ef eg eh ei ej ek el em en eo ep eq er es et eu ev ew ex ey ez eB eC eD eE eF eG eH eI eJ eK eL eM aa ab ac ad ae af ag ah ai aj ak al am an ao ap aq ar au av aw ax ay az aA aB aC aD aE aF aG aH aI aJ aK aL aM aN aO aP aQ aR aS aT aU aV aW aX aY aZ bb bd be bf bg bh bi bj bk bl bm bn bo bp bq br bt bu bw bx bz bA bB bC bD bE bF bG bH bI bJ bK bL bM bN bO bP bQ bR bS bT bU bV bW bX bY bZ:Value) (Q:Exit→Act→World→Prop)
  (HQ:Hid (∀ (u9 da db dc dd de df dg dh di dj dk dl dm dn dp dr dt du dv dw dx dy dz dA dB dC dD dE dF dG dH dI dJ dK dL dM dN dO dP dQ dR dS dT dU dV dW dX dY dZ ea eb ec ed ee ef eg eh ei ej ek el em en eo ep eq er es et eu ev ew ex ey ez eB eC eD eE eF eG eH eI eJ eK eL eM aa ab ac ad ae af ag ah ai aj ak al am an ao ap aq ar au av aw ax ay az aA aB aC aD aE aF aG aH aI aJ aK aL aM aN aO aP aQ aR aS aT aU aV aW aX aY aZ bb bd be bf bg bh bi bj bk bl bm bn bo bp bq br bt bu bw bx bz bA bB bC bD bE bF bG bH bI bJ bK bL bM bN bO bP bQ bR bS bT bU bV bW bX bY bZ:Value) (W':World),((∃ (k:Nat) (bv:Value),k≤6∧da= .int .i64 k∧u9=bv∧Hid (∃ (id ti f:ByteArray) (st lg e c u:Int) (ra sa ma:Option Addr) (rn rc sn sc mn mc:Nat),MEW w W' (eA E1 ra1 rn1 rc1 sa1 sn1 sc1 ma1 mn1 mc1) (eA E2 ra2 rn2 rc2 sa2 sn2 sc2 ma2 mn2 mc2) (eA E3 ra3 rn3 rc3 sa3 sn3 sc3 ma3 mn3 mc3) (eV id ti st lg f e ra rn rc c u sa sn sc ma mn mc)∧NmR (w.heap.size+6) W' bv (jCs E1 E2 E3 k)∧(jCs E1 E2 E3 k=[]→MEL w0 W' (zP E1 E2 E3 k) id ti f st lg e c u (.slice ra rn rc) (.slice sa sn sc) (.slice ma mn mc))))∧6 - (intOf da).toNat<6 - (intOf (.int .i64 (k:Int))).toNat)→Q .normal ⟨#[.agg (eA E1 ra1 rn1 rc1 sa1 sn1 sc1 ma1 mn1 mc1),.agg (eA E2 ra2 rn2 rc2 sa2 sn2 sc2 ma2 mn2 mc2),.agg (eA E3 ra3 rn3 rc3 sa3 sn3 sc3 ma3 mn3 mc3),.pointer (some ⟨w.heap.size,0,none⟩),.pointer (some ⟨w.heap.size+1,0,none⟩),.pointer (some ⟨w.heap.size+1+1,0,none⟩),.pointer (some ⟨w.heap.size+1+1+1,0,none⟩),.slice none 0 0,.pointer (some ⟨w.heap.size+1+1+1+1,0,none⟩),u9,.slice (some ⟨w.heap.size+1+1+1+1+1,0,none⟩) 6 6,da,db,dc,dd,de,df,dg,dh,di,dj,.agg (eA E2 ra2 rn2 rc2 sa2 sn2 sc2 ma2 mn2 mc2),.slice (some ⟨w.heap.size+1+1+1+1+1,0,none⟩) 6 6,dk,dl,dm,dn,dp,dr,dt,du,dv,dw,dx,dy,dz,dA,dB,dC,dD,dE,dF,dG,dH,dI,dJ,dK,dL,dM,dN,dO,dP,dQ,dR,dS,dT,dU,dV,dW,dX,dY,dZ,ea,eb,ec,ed,ee,ef,eg,eh,ei,ej,ek,el,em,en,eo,ep,eq,er,es,et,eu,ev,ew,ex,ey,ez,eB,eC,eD,eE,eF,eG,eH,eI,eJ,eK,eL,eM,aa,ab,ac,ad,ae,af,ag,ah,ai,aj,ak,al,am,an,ao,ap,aq,ar,au,av,aw,ax,ay,az,aA,aB,aC,aD,aE,aF,aG,aH,aI,aJ,aK,aL,aM,aN,aO,aP,aQ,aR,aS,aT,aU,aV,aW,aX,aY,aZ,bb,bd,be,bf,bg,bh,bi,bj,bk,bl,bm,bn,bo,bp,bq,br,bt,bu,bw,bx,bz,bA,bB,bC,bD,bE,bF,bG,bH,bI,bJ,bK,bL,bM,bN,bO,bP,bQ,bR,bS,bT,bU,bV,bW,bX,bY,bZ,undef,undef,undef,undef,undef,undef,undef,undef,undef,undef,undef,undef,undef],[]⟩ W')):
  Code.wp Tryz.prog zmq Q ⟨#[.agg (eA E1 ra1 rn1 rc1 sa1 sn1 sc1 ma1 mn1 mc1),.agg (eA E2 ra2 rn2 rc2 sa2 sn2 sc2 ma2 mn2 mc2),.agg (eA E3 ra3 rn3 rc3 sa3 sn3 sc3 ma3 mn3 mc3),.pointer (some ⟨w.heap.size,0,none⟩),.pointer (some ⟨w.heap.size+1,0,none⟩),.pointer (some ⟨w.heap.size+1+1,0,none⟩),.pointer (some ⟨w.heap.size+1+1+1,0,none⟩),.slice none 0 0,.pointer (some ⟨w.heap.size+1+1+1+1,0,none⟩),.slice ba n bc,.slice (some ⟨w.heap.size+1+1+1+1+1,0,none⟩) 6 6,.int .i64 (k:Int),db,dc,dd,de,df,dg,dh,di,dj,.agg (eA E2 ra2 rn2 rc2 sa2 sn2 sc2 ma2 mn2 mc2),.slice (some ⟨w.heap.size+1+1+1+1+1,0,none⟩) 6 6,dk,dl,dm,dn,dp,dr,dt,du,dv,dw,dx,dy,dz,dA,dB,dC,dD,dE,dF,dG,dH,dI,dJ,dK,dL,dM,dN,dO,dP,dQ,dR,dS,dT,dU,dV,dW,dX,dY,dZ,ea,eb,ec,ed,ee,ef,eg,eh,ei,ej,ek,el,em,en,eo,ep,eq,er,es,et,eu,ev,ew,ex,ey,ez,eB,eC,eD,eE,eF,eG,eH,eI,eJ,eK,eL,eM,aa,ab,ac,ad,ae,af,ag,ah,ai,aj,ak,al,am,an,ao,ap,aq,ar,au,av,aw,ax,ay,az,aA,aB,aC,aD,aE,aF,aG,aH,aI,aJ,aK,aL,aM,aN,aO,aP,aQ,aR,aS,aT,aU,aV,aW,aX,aY,aZ,bb,bd,be,bf,bg,bh,bi,bj,bk,bl,bm,bn,bo,bp,bq,br,bt,bu,bw,bx,bz,bA,bB,bC,bD,bE,bF,bG,bH,bI,bJ,bK,bL,bM,bN,bO,bP,bQ,bR,bS,bT,bU,bV,bW,bX,bY,bZ,undef,undef,undef,undef,undef,undef,undef,undef,undef,undef,undef,undef,undef],[]⟩ wr:=by
 have hun:True:=(fun _ _ _ _ _ _=>trivial) SO MO G3 HNN hcl HB0
 clear hun
 obtain ⟨i0,hi,hz0,hz1,hz2⟩:=info_parts ye
 have hw0:=HW0.out
 conv=>arg 2;whnf
 have g1:(0:Int)≤(k:Int):=by omega
 have g2:(k:Int)<6:=by omega
 have C1:Hid (∀ d os,Calls Tryz.prog 53 #[.agg (eA E1 ra1 rn1 rc1 sa1 sn1 sc1 ma1 mn1 mc1),.string (zt k)] (grow (redrawn wr d) os) fun r w''=>r= .returned (.string (bs (fT E1 k)))∧ ∃ p:Regrown,w''=grow (redrawn wr p.d) p.os):=fun d os=>Calls.regrown_of (FX1.out _ (zB hw0.b (below_regrown _ _ _)))
 have fk:=hw0.fw k hlt
 have HFB:Hid (∀ W,MEW w W (eA E1 ra1 rn1 rc1 sa1 sn1 sc1 ma1 mn1 mc1) (eA E2 ra2 rn2 rc2 sa2 sn2 sc2 ma2 mn2 mc2) (eA E3 ra3 rn3 rc3 sa3 sn3 sc3 ma3 mn3 mc3) (eV id ti st lg f e ra rn rc c u sa sn sc ma mn mc)→W.cell? ⟨w.heap.size+1+1+1+1+1,k,none⟩=some (.string (zt k))):=fun W h=>h.fw k hlt
 clear fk FX1
 have HFL:=hid (zjr E1 E2 E3 k)
 obtain ⟨fb,hfb⟩: ∃ fb,zt k=fb:=⟨_,rfl⟩
 have HFBE:=hid hfb
 rw [hfb] at C1 FX2 FX3 HFB HFL
 clear hfb
 have TB0:(fb.toList==[116,105,116,108,101])=decide (0=k):=by
  have z:=zaB 0 k (by omega) hlt
  rw [show (zt 0).toList=[116,105,116,108,101] from by unfold zt;rw [ByteArray.toList_eq];rfl,HFBE.out] at z
  exact z
 have TB1:(fb.toList==[115,116,97,114,116])=decide (1=k):=by
  have z:=zaB 1 k (by omega) hlt
  rw [show (zt 1).toList=[115,116,97,114,116] from by unfold zt;rw [ByteArray.toList_eq];rfl,HFBE.out] at z
  exact z
 have TB2:(fb.toList==[108,111,110,103])=decide (2=k):=by
  have z:=zaB 2 k (by omega) hlt
  rw [show (zt 2).toList=[108,111,110,103] from by unfold zt;rw [ByteArray.toList_eq];rfl,HFBE.out] at z
  exact z
 have TB3:(fb.toList==[114,117,108,101])=decide (3=k):=by
  have z:=zaB 3 k (by omega) hlt
  rw [show (zt 3).toList=[114,117,108,101] from by unfold zt;rw [ByteArray.toList_eq];rfl,HFBE.out] at z
  exact z
 have TB4:(fb.toList==[115,107,105,112,115])=decide (4=k):=by
  have z:=zaB 4 k (by omega) hlt
  rw [show (zt 4).toList=[115,107,105,112,115] from by unfold zt;rw [ByteArray.toList_eq];rfl,HFBE.out] at z
  exact z
 have TB5:(fb.toList==[109,111,118,101,115])=decide (5=k):=by
  have z:=zaB 5 k (by omega) hlt
  rw [show (zt 5).toList=[109,111,118,101,115] from by unfold zt;rw [ByteArray.toList_eq];rfl,HFBE.out] at z
  exact z
 obtain ⟨x0,x1,x2,x3,x4,x5,x6,x7,x8,x9,x10⟩:=zK HW0.out.a1
 have fk1:=HFB.out _ HW0.out
 have X0:=cell_regrown x0
 have X1:=cell_regrown x1
 have X2:=cell_regrown x2
 have X3:=cell_regrown x3
 have X4:=cell_regrown x4
 have X5:=cell_regrown x5
 have X6:=cell_regrown x6
 have X7:=cell_regrown x7
 have X8:=cell_regrown x8
 have X9:=cell_regrown x9
 have X10:=cell_regrown x10
 have XF:=cell_regrown fk1
 go_upto_region 7 with (fail)
 refine wp_region_quiet_below (by kernel_rfl) (by kernel_rfl) ?_
 repeat (quiet_step (fail))
 quiet_step ((go_at_call 53;exact C1.out _ _))
 repeat (quiet_step (fail))
 refine wpQuiet_nil ?_
 intro W7 hw'
 have HB7:Hid (Below wr.heap.size wr W7):=by
  obtain ⟨⟨dq,osq⟩,hw''⟩:=hw'
  subst hw''
  exact below_regrown _ _ _
 have HW7:=hid (HW0.out.step HB7.out)
 clear hw' X0 X1 X2 X3 X4 X5 X6 X7 X8 X9 X10 XF x0 x1 x2 x3 x4 x5 x6 x7 x8 x9 x10 fk1 C1
 have C2:Hid (∀ d os,Calls Tryz.prog 53 #[.agg (eA E2 ra2 rn2 rc2 sa2 sn2 sc2 ma2 mn2 mc2),.string fb] (grow (redrawn W7 d) os) fun r w''=>r= .returned (.string (bs (fT E2 k)))∧ ∃ p:Regrown,w''=grow (redrawn W7 p.d) p.os):=fun d os=>Calls.regrown_of (FX2.out _ (zB HW7.out.b (below_regrown _ _ _)))
 obtain ⟨x0,x1,x2,x3,x4,x5,x6,x7,x8,x9,x10⟩:=zK HW7.out.a2
 have fk2:=HFB.out _ HW7.out
 have X0:=cell_regrown x0
 have X1:=cell_regrown x1
 have X2:=cell_regrown x2
 have X3:=cell_regrown x3
 have X4:=cell_regrown x4
 have X5:=cell_regrown x5
 have X6:=cell_regrown x6
 have X7:=cell_regrown x7
 have X8:=cell_regrown x8
 have X9:=cell_regrown x9
 have X10:=cell_regrown x10
 have XF:=cell_regrown fk2
 go_upto_region 8 with (fail)
 refine wp_region_quiet_below (by kernel_rfl) (by kernel_rfl) ?_
 repeat (quiet_step (fail))
 quiet_step ((go_at_call 53;exact C2.out _ _))
 repeat (quiet_step (fail))
 refine wpQuiet_nil ?_
 intro W8 hw'
 have HB8:Hid (Below W7.heap.size W7 W8):=by
  obtain ⟨⟨dq,osq⟩,hw''⟩:=hw'
  subst hw''
  exact below_regrown _ _ _
 have HW8:=hid (HW7.out.step HB8.out)
 clear hw' X0 X1 X2 X3 X4 X5 X6 X7 X8 X9 X10 XF x0 x1 x2 x3 x4 x5 x6 x7 x8 x9 x10 fk2 C2
 have C3:Hid (∀ d os,Calls Tryz.prog 53 #[.agg (eA E3 ra3 rn3 rc3 sa3 sn3 sc3 ma3 mn3 mc3),.string fb] (grow (redrawn W8 d) os) fun r w''=>r= .returned (.string (bs (fT E3 k)))∧ ∃ p:Regrown,w''=grow (redrawn W8 p.d) p.os):=fun d os=>Calls.regrown_of (FX3.out _ (zB HW8.out.b (below_regrown _ _ _)))
 obtain ⟨x0,x1,x2,x3,x4,x5,x6,x7,x8,x9,x10⟩:=zK HW8.out.a3
 have fk3:=HFB.out _ HW8.out
 have X0:=cell_regrown x0
 have X1:=cell_regrown x1
 have X2:=cell_regrown x2
 have X3:=cell_regrown x3
 have X4:=cell_regrown x4
 have X5:=cell_regrown x5
 have X6:=cell_regrown x6
 have X7:=cell_regrown x7
 have X8:=cell_regrown x8
 have X9:=cell_regrown x9
 have X10:=cell_regrown x10
 have XF:=cell_regrown fk3
 go_upto_region 9 with (fail)
 refine wp_region_quiet_below (by kernel_rfl) (by kernel_rfl) ?_
 repeat (quiet_step (fail))
 quiet_step ((go_at_call 53;exact C3.out _ _))
 repeat (quiet_step (fail))
 refine wpQuiet_nil ?_
 intro W9 hw'
 have HB9:Hid (Below W8.heap.size W8 W9):=by
  obtain ⟨⟨dq,osq⟩,hw''⟩:=hw'
  subst hw''
  exact below_regrown _ _ _
 have HW9:=hid (HW8.out.step HB9.out)
 clear hw' X0 X1 X2 X3 X4 X5 X6 X7 X8 X9 X10 XF x0 x1 x2 x3 x4 x5 x6 x7 x8 x9 x10 fk3 C3
 have HB:=hid (zB HB7.out (zB HB8.out HB9.out))
 have HN9:=hid (zU HN.out HB.out)
 have HM9:Hid (jCs E1 E2 E3 k=[]→MEL w0 W9 (zP E1 E2 E3 k) id ti f st lg e c u (.slice ra rn rc) (.slice sa sn sc) (.slice ma mn mc)):=fun q=>(HM.out q).step HB.out
 go_upto_region 11 with (go_at_call 25;refine Calls.mono (PT.out _ _ _ _) ?_;rintro r w' ⟨rfl,hq⟩;have hq:=hq.symm;subst hq)
 clear HW0 HW7 HW8 HB7 HB8 HB9 HN HM PT FX2 FX3 hw0
 rcases zm6 E1 E2 E3 k with ⟨p1,⟨⟨p2,p3⟩,p4⟩,p5⟩|⟨p1,⟨p2,p4⟩,p5⟩|⟨p1,p5⟩
 ·rw [p1]
  have tA:((bs (fT E2 k)).toList==(bs (fT E1 k)).toList)=true:=zex.2 p2
  have tB:((bs (fT E3 k)).toList==(bs (fT E2 k)).toList)=false:=zhZ p3
  have HJ:Hid (jCs E1 E2 E3 (k+1)=jCs E1 E2 E3 k):=by
   show _=_
   obtain ⟨t,ht⟩:=Option.isSome_iff_exists.1 p5
   rw [HFL.out,zeu ht]
   simp
  have HPK:=hid p4
  have HSM:=hid p5
  clear p1 p2 p3 p4 p5 HFL SO MO
  generalize hX:bs (fT E1 k)=X at tA tB ⊢
  generalize hY:bs (fT E2 k)=Y at tA tB ⊢
  generalize hZ:bs (fT E3 k)=Z at tA tB ⊢
  clear hX hY hZ
  rcases (by omega:k=0∨k=1∨k=2∨k=3∨k=4∨k=5) with hkk|hkk|hkk|hkk|hkk|hkk
  ·have U0:(fb.toList==[116,105,116,108,101])=true:=by rw [TB0];exact decide_eq_true (by omega)
   have U1:(fb.toList==[115,116,97,114,116])=false:=by rw [TB1];exact decide_eq_false (by omega)
   have U2:(fb.toList==[108,111,110,103])=false:=by rw [TB2];exact decide_eq_false (by omega)
   have U3:(fb.toList==[114,117,108,101])=false:=by rw [TB3];exact decide_eq_false (by omega)
   have U4:(fb.toList==[115,107,105,112,115])=false:=by rw [TB4];exact decide_eq_false (by omega)
   have U5:(fb.toList==[109,111,118,101,115])=false:=by rw [TB5];exact decide_eq_false (by omega)
   have HKK:=hid hkk
   clear hkk
   clear TB0 TB1 TB2 TB3 TB4 TB5
   obtain ⟨e0,e1,e2,e3,e4,e5,e6,e7,e8,e9,e10⟩:=zK HW9.out.e
   obtain ⟨t0,t1,t2,t3,t4,t5,t6,t7,t8,t9,t10⟩:=zK HW9.out.a3
   have fkk:=HFB.out _ HW9.out
   have f1_:=zF HW9.out.e 1
   go_wp2
   have G9:=zG W9 ⟨w.heap.size+1+1+1+1,1,none⟩ (.string E3.ti)
   refine HQ.out _ _ _ _ _ _ _ _ _ _ _ _ _ _ _ _ _ _ _ _ _ _ _ _ _ _ _ _ _ _ _ _ _ _ _ _ _ _ _ _ _ _ _ _ _ _ _ _ _ _ _ _ _ _ _ _ _ _ _ _ _ _ _ _ _ _ _ _ _ _ _ _ _ _ _ _ _ _ _ _ _ _ _ _ _ _ _ _ _ _ _ _ _ _ _ _ _ _ _ _ _ _ _ _ _ _ _ _ _ _ _ _ _ _ _ _ _ _ _ _ _ _ _ _ _ _ _ _ _ _ _ _ _ _ _ _ _ _ _ _ _ _ _ _ _ _ _ _ _ _ _ _ _ _ _ _ _ _ _ _ _ _ _ _ _ _ _ _ _ _ _ _ _ _ _ _ _ _ _ _ _ _ _ _ _ _ ?_
   refine ⟨⟨k+1,.slice ba n bc,by omega,by go_num,rfl,id,E3.ti,f,st,lg,e,c,u,ra,sa,ma,rn,rc,sn,sc,mn,mc,HW9.out.to G9 (zM (i:=1) _ HW9.out.e),?_,fun q=> ?_⟩,?_⟩
   ·rw [HJ.out];exact yp (B:=w.heap.size+1+1+1+1) HN9.out G9 (by omega)
   ·obtain ⟨a1,a2,a3,a4,a5,a6,a7,a8,a9,a10,a11⟩:=(HM9.out (by rw [←HJ.out];exact q)).put HW9.out.e (by decide) (by decide) G9
    have hkk:=HKK.out
    subst hkk
    exact ⟨(by simpa [zP] using a1),(by show E3.ti=if 1≤0+1 then (jE E1 E2 E3).ti else E2.ti;rw [if_pos (by omega)];show E3.ti=(xV E1 E2 E3 _).ti;rw [HPK.out]),(by simpa [zP] using a3),(by simpa [zP] using a4),(by simpa [zP] using a5),(by simpa [zP] using a6),(by simpa [zP] using a7),(by simpa [zP] using a8),(by simpa [zP] using a9),(by simpa [zP] using a10),(by simpa [zP] using a11)⟩
   ·simp [intOf];omega
  ·have U0:(fb.toList==[116,105,116,108,101])=false:=by rw [TB0];exact decide_eq_false (by omega)
   have U1:(fb.toList==[115,116,97,114,116])=true:=by rw [TB1];exact decide_eq_true (by omega)
   have U2:(fb.toList==[108,111,110,103])=false:=by rw [TB2];exact decide_eq_false (by omega)
   have U3:(fb.toList==[114,117,108,101])=false:=by rw [TB3];exact decide_eq_false (by omega)
   have U4:(fb.toList==[115,107,105,112,115])=false:=by rw [TB4];exact decide_eq_false (by omega)
   have U5:(fb.toList==[109,111,118,101,115])=false:=by rw [TB5];exact decide_eq_false (by omega)
   have HKK:=hid hkk
   clear hkk
   clear TB0 TB1 TB2 TB3 TB4 TB5
   obtain ⟨e0,e1,e2,e3,e4,e5,e6,e7,e8,e9,e10⟩:=zK HW9.out.e
   obtain ⟨t0,t1,t2,t3,t4,t5,t6,t7,t8,t9,t10⟩:=zK HW9.out.a3
   have fkk:=HFB.out _ HW9.out
   have f2_:=zF HW9.out.e 2
   go_wp2
   have G9:=zG W9 ⟨w.heap.size+1+1+1+1,2,none⟩ (.int .i64 E3.st)
   refine HQ.out _ _ _ _ _ _ _ _ _ _ _ _ _ _ _ _ _ _ _ _ _ _ _ _ _ _ _ _ _ _ _ _ _ _ _ _ _ _ _ _ _ _ _ _ _ _ _ _ _ _ _ _ _ _ _ _ _ _ _ _ _ _ _ _ _ _ _ _ _ _ _ _ _ _ _ _ _ _ _ _ _ _ _ _ _ _ _ _ _ _ _ _ _ _ _ _ _ _ _ _ _ _ _ _ _ _ _ _ _ _ _ _ _ _ _ _ _ _ _ _ _ _ _ _ _ _ _ _ _ _ _ _ _ _ _ _ _ _ _ _ _ _ _ _ _ _ _ _ _ _ _ _ _ _ _ _ _ _ _ _ _ _ _ _ _ _ _ _ _ _ _ _ _ _ _ _ _ _ _ _ _ _ _ _ _ _ ?_
   refine ⟨⟨k+1,.slice ba n bc,by omega,by go_num,rfl,id,ti,f,E3.st,lg,e,c,u,ra,sa,ma,rn,rc,sn,sc,mn,mc,HW9.out.to G9 (zM (i:=2) _ HW9.out.e),?_,fun q=> ?_⟩,?_⟩
   ·rw [HJ.out];exact yp (B:=w.heap.size+1+1+1+1) HN9.out G9 (by omega)
   ·obtain ⟨a1,a2,a3,a4,a5,a6,a7,a8,a9,a10,a11⟩:=(HM9.out (by rw [←HJ.out];exact q)).put HW9.out.e (by decide) (by decide) G9
    have hkk:=HKK.out
    subst hkk
    exact ⟨(by simpa [zP] using a1),(by simpa [zP] using a2),(by simpa [zP] using a3),(by show E3.st=if 2≤1+1 then (jE E1 E2 E3).st else E2.st;rw [if_pos (by omega)];show E3.st=(xV E1 E2 E3 _).st;rw [HPK.out]),(by simpa [zP] using a5),(by simpa [zP] using a6),(by simpa [zP] using a7),(by simpa [zP] using a8),(by simpa [zP] using a9),(by simpa [zP] using a10),(by simpa [zP] using a11)⟩
   ·simp [intOf];omega
  ·have U0:(fb.toList==[116,105,116,108,101])=false:=by rw [TB0];exact decide_eq_false (by omega)
   have U1:(fb.toList==[115,116,97,114,116])=false:=by rw [TB1];exact decide_eq_false (by omega)
   have U2:(fb.toList==[108,111,110,103])=true:=by rw [TB2];exact decide_eq_true (by omega)
   have U3:(fb.toList==[114,117,108,101])=false:=by rw [TB3];exact decide_eq_false (by omega)
   have U4:(fb.toList==[115,107,105,112,115])=false:=by rw [TB4];exact decide_eq_false (by omega)
   have U5:(fb.toList==[109,111,118,101,115])=false:=by rw [TB5];exact decide_eq_false (by omega)
   have HKK:=hid hkk
   clear hkk
   clear TB0 TB1 TB2 TB3 TB4 TB5
   obtain ⟨e0,e1,e2,e3,e4,e5,e6,e7,e8,e9,e10⟩:=zK HW9.out.e
   obtain ⟨t0,t1,t2,t3,t4,t5,t6,t7,t8,t9,t10⟩:=zK HW9.out.a3
   have fkk:=HFB.out _ HW9.out
   have f3_:=zF HW9.out.e 3
   go_wp2
   have G9:=zG W9 ⟨w.heap.size+1+1+1+1,3,none⟩ (.int .i64 E3.lg)
   refine HQ.out _ _ _ _ _ _ _ _ _ _ _ _ _ _ _ _ _ _ _ _ _ _ _ _ _ _ _ _ _ _ _ _ _ _ _ _ _ _ _ _ _ _ _ _ _ _ _ _ _ _ _ _ _ _ _ _ _ _ _ _ _ _ _ _ _ _ _ _ _ _ _ _ _ _ _ _ _ _ _ _ _ _ _ _ _ _ _ _ _ _ _ _ _ _ _ _ _ _ _ _ _ _ _ _ _ _ _ _ _ _ _ _ _ _ _ _ _ _ _ _ _ _ _ _ _ _ _ _ _ _ _ _ _ _ _ _ _ _ _ _ _ _ _ _ _ _ _ _ _ _ _ _ _ _ _ _ _ _ _ _ _ _ _ _ _ _ _ _ _ _ _ _ _ _ _ _ _ _ _ _ _ _ _ _ _ _ ?_
   refine ⟨⟨k+1,.slice ba n bc,by omega,by go_num,rfl,id,ti,f,st,E3.lg,e,c,u,ra,sa,ma,rn,rc,sn,sc,mn,mc,HW9.out.to G9 (zM (i:=3) _ HW9.out.e),?_,fun q=> ?_⟩,?_⟩
   ·rw [HJ.out];exact yp (B:=w.heap.size+1+1+1+1) HN9.out G9 (by omega)
   ·obtain ⟨a1,a2,a3,a4,a5,a6,a7,a8,a9,a10,a11⟩:=(HM9.out (by rw [←HJ.out];exact q)).put HW9.out.e (by decide) (by decide) G9
    have hkk:=HKK.out
    subst hkk
    exact ⟨(by simpa [zP] using a1),(by simpa [zP] using a2),(by simpa [zP] using a3),(by simpa [zP] using a4),(by show E3.lg=if 3≤2+1 then (jE E1 E2 E3).lg else E2.lg;rw [if_pos (by omega)];show E3.lg=(xV E1 E2 E3 _).lg;rw [HPK.out]),(by simpa [zP] using a6),(by simpa [zP] using a7),(by simpa [zP] using a8),(by simpa [zP] using a9),(by simpa [zP] using a10),(by simpa [zP] using a11)⟩
   ·simp [intOf];omega
  ·have U0:(fb.toList==[116,105,116,108,101])=false:=by rw [TB0];exact decide_eq_false (by omega)
   have U1:(fb.toList==[115,116,97,114,116])=false:=by rw [TB1];exact decide_eq_false (by omega)
   have U2:(fb.toList==[108,111,110,103])=false:=by rw [TB2];exact decide_eq_false (by omega)
   have U3:(fb.toList==[114,117,108,101])=true:=by rw [TB3];exact decide_eq_true (by omega)
   have U4:(fb.toList==[115,107,105,112,115])=false:=by rw [TB4];exact decide_eq_false (by omega)
   have U5:(fb.toList==[109,111,118,101,115])=false:=by rw [TB5];exact decide_eq_false (by omega)
   have HKK:=hid hkk
   clear hkk
   clear TB0 TB1 TB2 TB3 TB4 TB5
   obtain ⟨e0,e1,e2,e3,e4,e5,e6,e7,e8,e9,e10⟩:=zK HW9.out.e
   obtain ⟨t0,t1,t2,t3,t4,t5,t6,t7,t8,t9,t10⟩:=zK HW9.out.a3
   have fkk:=HFB.out _ HW9.out
   have f4_:=zF HW9.out.e 4
   have f5_:=zF HW9.out.e 5
   have f6_:=zF HW9.out.e 6
   have f7_:=zF HW9.out.e 7
   have f8_:=zF HW9.out.e 8
   go_wp2
   rw [jd]
   have G9:=xj W9 (w.heap.size+1+1+1+1) (.string E3.f) (.int .i64 E3.e) (.slice ra3 rn3 rc3) (.int .i64 E3.c) (.int .i64 E3.u)
   refine HQ.out _ _ _ _ _ _ _ _ _ _ _ _ _ _ _ _ _ _ _ _ _ _ _ _ _ _ _ _ _ _ _ _ _ _ _ _ _ _ _ _ _ _ _ _ _ _ _ _ _ _ _ _ _ _ _ _ _ _ _ _ _ _ _ _ _ _ _ _ _ _ _ _ _ _ _ _ _ _ _ _ _ _ _ _ _ _ _ _ _ _ _ _ _ _ _ _ _ _ _ _ _ _ _ _ _ _ _ _ _ _ _ _ _ _ _ _ _ _ _ _ _ _ _ _ _ _ _ _ _ _ _ _ _ _ _ _ _ _ _ _ _ _ _ _ _ _ _ _ _ _ _ _ _ _ _ _ _ _ _ _ _ _ _ _ _ _ _ _ _ _ _ _ _ _ _ _ _ _ _ _ _ _ _ _ _ _ ?_
   refine ⟨⟨k+1,.slice ba n bc,by omega,by go_num,rfl,id,ti,E3.f,st,lg,E3.e,E3.c,E3.u,ra3,sa,ma,rn3,rc3,sn,sc,mn,mc,HW9.out.to G9 (zaQ _ _ _ _ _ HW9.out.e),?_,fun q=> ?_⟩,?_⟩
   ·rw [HJ.out];exact yp (B:=w.heap.size+1+1+1+1) HN9.out G9 (by omega)
   ·obtain ⟨a1,a2,a3,a4,a5,a6,a7,a8,a9,a10,a11⟩:=(HM9.out (by rw [←HJ.out];exact q)).put HW9.out.e (by decide) (by decide) G9
    have hkk:=HKK.out
    subst hkk
    exact ⟨(by simpa [zP] using a1),(by simpa [zP] using a2),(by show E3.f=if 4≤3+1 then (jE E1 E2 E3).f else E2.f;rw [if_pos (by omega)];show E3.f=(xV E1 E2 E3 _).f;rw [HPK.out]),(by simpa [zP] using a4),(by simpa [zP] using a5),(by show E3.e=if 4≤3+1 then (jE E1 E2 E3).e else E2.e;rw [if_pos (by omega)];show E3.e=(xV E1 E2 E3 _).e;rw [HPK.out]),(by show E3.c=if 4≤3+1 then (jE E1 E2 E3).c else E2.c;rw [if_pos (by omega)];show E3.c=(xV E1 E2 E3 _).c;rw [HPK.out]),(by show E3.u=if 4≤3+1 then (jE E1 E2 E3).u else E2.u;rw [if_pos (by omega)];show E3.u=(xV E1 E2 E3 _).u;rw [HPK.out]),(by have z:(zP E1 E2 E3 (3+1)).ds=E3.ds:=(by show (if 4≤3+1 then (jE E1 E2 E3).ds else E2.ds)=_;rw [if_pos (by omega)];show (xV E1 E2 E3 _).ds=_;rw [HPK.out]);rw [z];exact G3.out.1),(by simpa [zP] using a10),(by simpa [zP] using a11)⟩
   ·simp [intOf];omega
  ·have U0:(fb.toList==[116,105,116,108,101])=false:=by rw [TB0];exact decide_eq_false (by omega)
   have U1:(fb.toList==[115,116,97,114,116])=false:=by rw [TB1];exact decide_eq_false (by omega)
   have U2:(fb.toList==[108,111,110,103])=false:=by rw [TB2];exact decide_eq_false (by omega)
   have U3:(fb.toList==[114,117,108,101])=false:=by rw [TB3];exact decide_eq_false (by omega)
   have U4:(fb.toList==[115,107,105,112,115])=true:=by rw [TB4];exact decide_eq_true (by omega)
   have U5:(fb.toList==[109,111,118,101,115])=false:=by rw [TB5];exact decide_eq_false (by omega)
   have HKK:=hid hkk
   clear hkk
   clear TB0 TB1 TB2 TB3 TB4 TB5
   obtain ⟨e0,e1,e2,e3,e4,e5,e6,e7,e8,e9,e10⟩:=zK HW9.out.e
   obtain ⟨t0,t1,t2,t3,t4,t5,t6,t7,t8,t9,t10⟩:=zK HW9.out.a3
   have fkk:=HFB.out _ HW9.out
   have f9_:=zF HW9.out.e 9
   go_wp2
   have G9:=zG W9 ⟨w.heap.size+1+1+1+1,9,none⟩ (.slice sa3 sn3 sc3)
   refine HQ.out _ _ _ _ _ _ _ _ _ _ _ _ _ _ _ _ _ _ _ _ _ _ _ _ _ _ _ _ _ _ _ _ _ _ _ _ _ _ _ _ _ _ _ _ _ _ _ _ _ _ _ _ _ _ _ _ _ _ _ _ _ _ _ _ _ _ _ _ _ _ _ _ _ _ _ _ _ _ _ _ _ _ _ _ _ _ _ _ _ _ _ _ _ _ _ _ _ _ _ _ _ _ _ _ _ _ _ _ _ _ _ _ _ _ _ _ _ _ _ _ _ _ _ _ _ _ _ _ _ _ _ _ _ _ _ _ _ _ _ _ _ _ _ _ _ _ _ _ _ _ _ _ _ _ _ _ _ _ _ _ _ _ _ _ _ _ _ _ _ _ _ _ _ _ _ _ _ _ _ _ _ _ _ _ _ _ ?_
   refine ⟨⟨k+1,.slice ba n bc,by omega,by go_num,rfl,id,ti,f,st,lg,e,c,u,ra,sa3,ma,rn,rc,sn3,sc3,mn,mc,HW9.out.to G9 (zM (i:=9) _ HW9.out.e),?_,fun q=> ?_⟩,?_⟩
   ·rw [HJ.out];exact yp (B:=w.heap.size+1+1+1+1) HN9.out G9 (by omega)
   ·obtain ⟨a1,a2,a3,a4,a5,a6,a7,a8,a9,a10,a11⟩:=(HM9.out (by rw [←HJ.out];exact q)).put HW9.out.e (by decide) (by decide) G9
    have hkk:=HKK.out
    subst hkk
    exact ⟨(by simpa [zP] using a1),(by simpa [zP] using a2),(by simpa [zP] using a3),(by simpa [zP] using a4),(by simpa [zP] using a5),(by simpa [zP] using a6),(by simpa [zP] using a7),(by simpa [zP] using a8),(by simpa [zP] using a9),.inl (by have z:(zP E1 E2 E3 (4+1)).sk=E3.sk:=(by show (if 5≤4+1 then (jE E1 E2 E3).sk else E2.sk)=_;rw [if_pos (by omega)];show (if (yD _ _ _).isSome then (xV E1 E2 E3 4).sk else _)=_;rw [if_pos HSM.out,HPK.out]);rw [z];exact G3.out.2.1),(by simpa [zP] using a11)⟩
   ·simp [intOf];omega
  ·have U0:(fb.toList==[116,105,116,108,101])=false:=by rw [TB0];exact decide_eq_false (by omega)
   have U1:(fb.toList==[115,116,97,114,116])=false:=by rw [TB1];exact decide_eq_false (by omega)
   have U2:(fb.toList==[108,111,110,103])=false:=by rw [TB2];exact decide_eq_false (by omega)
   have U3:(fb.toList==[114,117,108,101])=false:=by rw [TB3];exact decide_eq_false (by omega)
   have U4:(fb.toList==[115,107,105,112,115])=false:=by rw [TB4];exact decide_eq_false (by omega)
   have U5:(fb.toList==[109,111,118,101,115])=true:=by rw [TB5];exact decide_eq_true (by omega)
   have HKK:=hid hkk
   clear hkk
   clear TB0 TB1 TB2 TB3 TB4 TB5
   obtain ⟨e0,e1,e2,e3,e4,e5,e6,e7,e8,e9,e10⟩:=zK HW9.out.e
   obtain ⟨t0,t1,t2,t3,t4,t5,t6,t7,t8,t9,t10⟩:=zK HW9.out.a3
   have fkk:=HFB.out _ HW9.out
   have f10_:=zF HW9.out.e 10
   go_wp2
   have G9:=zG W9 ⟨w.heap.size+1+1+1+1,10,none⟩ (.slice ma3 mn3 mc3)
   refine HQ.out _ _ _ _ _ _ _ _ _ _ _ _ _ _ _ _ _ _ _ _ _ _ _ _ _ _ _ _ _ _ _ _ _ _ _ _ _ _ _ _ _ _ _ _ _ _ _ _ _ _ _ _ _ _ _ _ _ _ _ _ _ _ _ _ _ _ _ _ _ _ _ _ _ _ _ _ _ _ _ _ _ _ _ _ _ _ _ _ _ _ _ _ _ _ _ _ _ _ _ _ _ _ _ _ _ _ _ _ _ _ _ _ _ _ _ _ _ _ _ _ _ _ _ _ _ _ _ _ _ _ _ _ _ _ _ _ _ _ _ _ _ _ _ _ _ _ _ _ _ _ _ _ _ _ _ _ _ _ _ _ _ _ _ _ _ _ _ _ _ _ _ _ _ _ _ _ _ _ _ _ _ _ _ _ _ _ ?_
   refine ⟨⟨k+1,.slice ba n bc,by omega,by go_num,rfl,id,ti,f,st,lg,e,c,u,ra,sa,ma3,rn,rc,sn,sc,mn3,mc3,HW9.out.to G9 (zM (i:=10) _ HW9.out.e),?_,fun q=> ?_⟩,?_⟩
   ·rw [HJ.out];exact yp (B:=w.heap.size+1+1+1+1) HN9.out G9 (by omega)
   ·obtain ⟨a1,a2,a3,a4,a5,a6,a7,a8,a9,a10,a11⟩:=(HM9.out (by rw [←HJ.out];exact q)).put HW9.out.e (by decide) (by decide) G9
    have hkk:=HKK.out
    subst hkk
    exact ⟨(by simpa [zP] using a1),(by simpa [zP] using a2),(by simpa [zP] using a3),(by simpa [zP] using a4),(by simpa [zP] using a5),(by simpa [zP] using a6),(by simpa [zP] using a7),(by simpa [zP] using a8),(by simpa [zP] using a9),(by simpa [zP] using a10),.inl (by have z:(zP E1 E2 E3 (5+1)).mv=E3.mv:=(by show (if 6≤5+1 then (jE E1 E2 E3).mv else E2.mv)=_;rw [if_pos (by omega)];show (if (yD _ _ _).isSome then (xV E1 E2 E3 5).mv else _)=_;rw [if_pos HSM.out,HPK.out]);rw [z];exact G3.out.2.2)⟩
   ·simp [intOf];omega
 ·rw [p1]
  have HJ:Hid (jCs E1 E2 E3 (k+1)=jCs E1 E2 E3 k):=by
   show _=_
   obtain ⟨t,ht⟩:=Option.isSome_iff_exists.1 p5
   rw [HFL.out,zeu ht]
   simp
  have HPS:=hid (zeD hlt p4 p5)
  clear p1 p4 p5 HFL SO MO TB0 TB1 TB2 TB3 TB4 TB5
  by_cases hyx:bs (fT E2 k)=bs (fT E1 k)
  ·have hzy:bs (fT E3 k)=bs (fT E2 k):=Classical.byContradiction (fun q=>p2 ⟨hyx,q⟩)
   have tA:=zex.2 hyx
   have tB:=zex.2 hzy
   clear p2 hyx hzy
   generalize bs (fT E1 k)=X at tA tB ⊢
   generalize bs (fT E2 k)=Y at tA tB ⊢
   generalize bs (fT E3 k)=Z at tA tB ⊢
   go_wp2
   refine HQ.out _ _ _ _ _ _ _ _ _ _ _ _ _ _ _ _ _ _ _ _ _ _ _ _ _ _ _ _ _ _ _ _ _ _ _ _ _ _ _ _ _ _ _ _ _ _ _ _ _ _ _ _ _ _ _ _ _ _ _ _ _ _ _ _ _ _ _ _ _ _ _ _ _ _ _ _ _ _ _ _ _ _ _ _ _ _ _ _ _ _ _ _ _ _ _ _ _ _ _ _ _ _ _ _ _ _ _ _ _ _ _ _ _ _ _ _ _ _ _ _ _ _ _ _ _ _ _ _ _ _ _ _ _ _ _ _ _ _ _ _ _ _ _ _ _ _ _ _ _ _ _ _ _ _ _ _ _ _ _ _ _ _ _ _ _ _ _ _ _ _ _ _ _ _ _ _ _ _ _ _ _ _ _ _ _ _ ?_
   refine ⟨⟨k+1,.slice ba n bc,by omega,by go_num,rfl,id,ti,f,st,lg,e,c,u,ra,sa,ma,rn,rc,sn,sc,mn,mc,HW9.out,?_,fun q=> ?_⟩,?_⟩
   ·rw [HJ.out];exact HN9.out
   ·rw [HPS.out];exact HM9.out (by rw [←HJ.out];exact q)
   ·simp [intOf];omega
  ·have tA:=zhZ hyx
   clear p2 hyx
   generalize bs (fT E1 k)=X at tA ⊢
   generalize bs (fT E2 k)=Y at tA ⊢
   generalize bs (fT E3 k)=Z
   go_wp2
   refine HQ.out _ _ _ _ _ _ _ _ _ _ _ _ _ _ _ _ _ _ _ _ _ _ _ _ _ _ _ _ _ _ _ _ _ _ _ _ _ _ _ _ _ _ _ _ _ _ _ _ _ _ _ _ _ _ _ _ _ _ _ _ _ _ _ _ _ _ _ _ _ _ _ _ _ _ _ _ _ _ _ _ _ _ _ _ _ _ _ _ _ _ _ _ _ _ _ _ _ _ _ _ _ _ _ _ _ _ _ _ _ _ _ _ _ _ _ _ _ _ _ _ _ _ _ _ _ _ _ _ _ _ _ _ _ _ _ _ _ _ _ _ _ _ _ _ _ _ _ _ _ _ _ _ _ _ _ _ _ _ _ _ _ _ _ _ _ _ _ _ _ _ _ _ _ _ _ _ _ _ _ _ _ _ _ _ _ _ ?_
   refine ⟨⟨k+1,.slice ba n bc,by omega,by go_num,rfl,id,ti,f,st,lg,e,c,u,ra,sa,ma,rn,rc,sn,sc,mn,mc,HW9.out,?_,fun q=> ?_⟩,?_⟩
   ·rw [HJ.out];exact HN9.out
   ·rw [HPS.out];exact HM9.out (by rw [←HJ.out];exact q)
   ·simp [intOf];omega
 ·rw [p1]
  have HON:=hid p5
  have HFBW:Hid (∀ W {cs:Array Value},MEW w W (eA E1 ra1 rn1 rc1 sa1 sn1 sc1 ma1 mn1 mc1) (eA E2 ra2 rn2 rc2 sa2 sn2 sc2 ma2 mn2 mc2) (eA E3 ra3 rn3 rc3 sa3 sn3 sc3 ma3 mn3 mc3) cs→W.cell? ⟨w.heap.size+1+1+1+1+1,k,none⟩=some (.string fb)):=fun W cs h=>by rw [←HFBE.out];exact h.fw k hlt
  clear p1 p5
  generalize hX:bs (fT E1 k)=X at HON ⊢
  generalize hY:bs (fT E2 k)=Y at HON ⊢
  generalize hZ:bs (fT E3 k)=Z at HON ⊢
  have HJF:Hid ((jF E1 E2 E3 k).2=if k=4 then true else if k=5 then (jMv E1.mv E2.mv E3.mv).isSome else false):=by
   show _=_
   unfold jF
   rw [hX,hY,hZ,HON.out]
   dsimp only
   split
   ·rfl
   ·split<;>rfl
  have HXE:Hid (bs (fT E1 k)=X∧bs (fT E2 k)=Y∧bs (fT E3 k)=Z):=⟨hX,hY,hZ⟩
  clear hX hY hZ
  rcases (by omega:k<4∨k=4∨k=5) with hkk|hkk|hkk
  ·have HJ:Hid (jCs E1 E2 E3 (k+1)=jCs E1 E2 E3 k++[fb]):=by
    show _=_
    have h2:(jF E1 E2 E3 k).2=false:=by rw [HJF.out,if_neg (by omega),if_neg (by omega)]
    rw [HFL.out,h2]
    simp
   have U4:(fb.toList==[115,107,105,112,115])=false:=by rw [TB4];exact decide_eq_false (by omega)
   have U5:(fb.toList==[109,111,118,101,115])=false:=by rw [TB5];exact decide_eq_false (by omega)
   clear TB0 TB1 TB2 TB3 TB4 TB5 SO MO HFL HJF HM9
   obtain ⟨e0,e1,e2,e3,e4,e5,e6,e7,e8,e9,e10⟩:=zK HW9.out.e
   obtain ⟨t0,t1,t2,t3,t4,t5,t6,t7,t8,t9,t10⟩:=zK HW9.out.a3
   have fkk:=HFB.out _ HW9.out
   have hA:=zC W9 (.cells #[.string fb] 9)
   have HROW:Hid (World.ownsRow (W9.alloc (.cells #[.string fb] 9)) (w.heap.size+6) 9 1 (.slice ba n bc) n ((jCs E1 E2 E3 k).map Value.string)):=by
    have z:World.ownsRow _ _ _ _ _ _ _:=zU HN9.out hA
    rw [←HNN.out] at z
    exact z
   have NC:=hid (zeC W9 fb)
   have HWA:=hid (HW9.out.step hA)
   clear hA
   go_wp2_with (at_builtin;refine wpList_append_own_at _ rfl _ _ 51 rfl (w.heap.size+6) 9 i0 (.string ⟨#[]⟩) 1 16 Tryz.underlying51 hi hz0 hz1 hz2 rfl (by decide) _ _ _ rfl HROW.out ⟨W9.heap.size,0,none⟩ 1 1 [.string fb] rfl rfl NC.out (fun v hv=>by rw [List.mem_singleton.1 hv];rfl) (by unfold maxLen;omega) (by omega) (HWA.out.s) ?_;intro v' w7 hown' hgrow _ hat;have HOWN:=hid hown';have HGR:=hid hgrow;clear hown' hgrow hat)
   refine HQ.out _ _ _ _ _ _ _ _ _ _ _ _ _ _ _ _ _ _ _ _ _ _ _ _ _ _ _ _ _ _ _ _ _ _ _ _ _ _ _ _ _ _ _ _ _ _ _ _ _ _ _ _ _ _ _ _ _ _ _ _ _ _ _ _ _ _ _ _ _ _ _ _ _ _ _ _ _ _ _ _ _ _ _ _ _ _ _ _ _ _ _ _ _ _ _ _ _ _ _ _ _ _ _ _ _ _ _ _ _ _ _ _ _ _ _ _ _ _ _ _ _ _ _ _ _ _ _ _ _ _ _ _ _ _ _ _ _ _ _ _ _ _ _ _ _ _ _ _ _ _ _ _ _ _ _ _ _ _ _ _ _ _ _ _ _ _ _ _ _ _ _ _ _ _ _ _ _ _ _ _ _ _ _ _ _ _ ?_
   refine ⟨⟨k+1,v',by omega,by go_num,rfl,id,ti,f,st,lg,e,c,u,ra,sa,ma,rn,rc,sn,sc,mn,mc,HWA.out.far HGR.out (fun kk q=>(World.ownsRow.lt HROW.out kk q).1),?_,fun q=> ?_⟩,?_⟩
   ·rw [HJ.out];exact zfw HOWN.out HNN.out
   ·rw [HJ.out] at q;simp at q
   ·simp [intOf];omega
  ·have HJ:Hid (jCs E1 E2 E3 (k+1)=jCs E1 E2 E3 k):=by
    show _=_
    have h2:(jF E1 E2 E3 k).2=true:=by rw [HJF.out,if_pos hkk]
    rw [HFL.out,h2]
    simp
   have U4:(fb.toList==[115,107,105,112,115])=true:=by rw [TB4];exact decide_eq_true (by omega)
   have HKK:=hid hkk
   clear TB0 TB1 TB2 TB3 TB4 TB5 MO HFL HJF hkk
   rw [←HXE.out.1,←HXE.out.2.1,←HXE.out.2.2] at HON
   obtain ⟨_,_,_,_,_,_,_,_,_,r9,_⟩:=zK HW9.out.a1
   obtain ⟨_,_,_,_,_,_,_,_,_,q9,_⟩:=zK HW9.out.a2
   obtain ⟨e0,e1,e2,e3,e4,e5,e6,e7,e8,e9,e10⟩:=zK HW9.out.e
   obtain ⟨t0,t1,t2,t3,t4,t5,t6,t7,t8,t9,t10⟩:=zK HW9.out.a3
   have fkk:=HFB.out _ HW9.out
   go_upto_region 26 with (go_at_call 54;refine Calls.mono (SO.out _ HW9.out.b) ?_;rintro r w2 ⟨v,rfl,how,hb2⟩;obtain ⟨na,nc,rfl⟩:=zQ how;have HOW:=hid how;have HW2:=hid (HW9.out.step hb2);have HN2:=hid (zU HN9.out hb2);have HB2:=hid hb2;clear how hb2)
   generalize (jSk E1.sk E2.sk E3.sk).length=nl at HOW ⊢
   clear e0 e1 e2 e3 e4 e5 e6 e7 e8 e9 e10 t0 t1 t2 t3 t4 t5 t6 t7 t8 t9 t10 fkk r9 q9
   obtain ⟨e0,e1,e2,e3,e4,e5,e6,e7,e8,e9,e10⟩:=zK HW2.out.e
   have f9_:=zF HW2.out.e 9
   go_wp2
   have G9:=zG w2 ⟨w.heap.size+1+1+1+1,9,none⟩ (.slice na nl nc)
   refine HQ.out _ _ _ _ _ _ _ _ _ _ _ _ _ _ _ _ _ _ _ _ _ _ _ _ _ _ _ _ _ _ _ _ _ _ _ _ _ _ _ _ _ _ _ _ _ _ _ _ _ _ _ _ _ _ _ _ _ _ _ _ _ _ _ _ _ _ _ _ _ _ _ _ _ _ _ _ _ _ _ _ _ _ _ _ _ _ _ _ _ _ _ _ _ _ _ _ _ _ _ _ _ _ _ _ _ _ _ _ _ _ _ _ _ _ _ _ _ _ _ _ _ _ _ _ _ _ _ _ _ _ _ _ _ _ _ _ _ _ _ _ _ _ _ _ _ _ _ _ _ _ _ _ _ _ _ _ _ _ _ _ _ _ _ _ _ _ _ _ _ _ _ _ _ _ _ _ _ _ _ _ _ _ _ _ _ _ ?_
   refine ⟨⟨k+1,.slice ba n bc,by omega,by go_num,rfl,id,ti,f,st,lg,e,c,u,ra,na,ma,rn,rc,nl,nc,mn,mc,HW2.out.to G9 (zM (i:=9) _ HW2.out.e),?_,fun q=> ?_⟩,?_⟩
   ·rw [HJ.out];exact yp (B:=w.heap.size+1+1+1+1) HN2.out G9 (by omega)
   ·obtain ⟨a1,a2,a3,a4,a5,a6,a7,a8,a9,a10,a11⟩:=((HM9.out (by rw [←HJ.out];exact q)).step HB2.out).put HW2.out.e (by decide) (by decide) G9
    have hkk:=HKK.out
    subst hkk
    exact ⟨(by simpa [zP] using a1),(by simpa [zP] using a2),(by simpa [zP] using a3),(by simpa [zP] using a4),(by simpa [zP] using a5),(by simpa [zP] using a6),(by simpa [zP] using a7),(by simpa [zP] using a8),(by simpa [zP] using a9),.inr (by have z:(zP E1 E2 E3 (4+1)).sk=jSk E1.sk E2.sk E3.sk:=(by show (if 5≤4+1 then (jE E1 E2 E3).sk else E2.sk)=_;rw [if_pos (by omega)];show (if (yD _ _ _).isSome then (xV E1 E2 E3 4).sk else _)=_;rw [HON.out];rfl);rw [z];exact zW (World.ownsRow.kept HOW.out G9 (.inr (xT HOW.out HW2.out.e (by decide)))) (Nat.le_trans HB0.out.size HW9.out.b.size)),(by simpa [zP] using a11)⟩
   ·simp [intOf];omega
  ·have U4:(fb.toList==[115,107,105,112,115])=false:=by rw [TB4];exact decide_eq_false (by omega)
   have U5:(fb.toList==[109,111,118,101,115])=true:=by rw [TB5];exact decide_eq_true (by omega)
   have HJF5:Hid ((jF E1 E2 E3 k).2=(jMv E1.mv E2.mv E3.mv).isSome):=by show _=_;rw [HJF.out,if_neg (by omega),if_pos hkk]
   have HKK:=hid hkk
   clear TB0 TB1 TB2 TB3 TB4 TB5 SO hkk
   rw [←HXE.out.1,←HXE.out.2.1,←HXE.out.2.2] at HON
   obtain ⟨_,_,_,_,_,_,_,_,_,_,r10⟩:=zK HW9.out.a1
   obtain ⟨_,_,_,_,_,_,_,_,_,_,q10⟩:=zK HW9.out.a2
   obtain ⟨e0,e1,e2,e3,e4,e5,e6,e7,e8,e9,e10⟩:=zK HW9.out.e
   obtain ⟨t0,t1,t2,t3,t4,t5,t6,t7,t8,t9,t10⟩:=zK HW9.out.a3
   have fkk:=HFB.out _ HW9.out
   go_upto_region 29 with (go_at_call 55;refine Calls.mono (MO.out _ HW9.out.b) ?_;rintro r w2 ⟨v,rfl,how,hb2⟩;obtain ⟨na,nc,rfl⟩:=zQ how;have HOW:=hid how;have HW2:=hid (HW9.out.step hb2);have HN2:=hid (zU HN9.out hb2);have HB2:=hid hb2;clear how hb2)
   generalize ((jMv E1.mv E2.mv E3.mv).getD []).length=nl at HOW ⊢
   clear e0 e1 e2 e3 e4 e5 e6 e7 e8 e9 e10 t0 t1 t2 t3 t4 t5 t6 t7 t8 t9 t10 fkk r10 q10
   obtain ⟨e0,e1,e2,e3,e4,e5,e6,e7,e8,e9,e10⟩:=zK HW2.out.e
   have f10_:=zF HW2.out.e 10
   have G9:=zG w2 ⟨w.heap.size+1+1+1+1,10,none⟩ (.slice na nl nc)
   have HW3:Hid (MEW w (w2.setCell ⟨w.heap.size+1+1+1+1,10,none⟩ (.slice na nl nc)) (eA E1 ra1 rn1 rc1 sa1 sn1 sc1 ma1 mn1 mc1) (eA E2 ra2 rn2 rc2 sa2 sn2 sc2 ma2 mn2 mc2) (eA E3 ra3 rn3 rc3 sa3 sn3 sc3 ma3 mn3 mc3) (eW id ti st lg f e ra rn rc c u sa sn sc na nl nc)):=HW2.out.to G9 (zM (i:=10) _ HW2.out.e)
   have HN3:=hid (yp (B:=w.heap.size+1+1+1+1) HN2.out G9 (by omega))
   have HM3:Hid (jCs E1 E2 E3 k=[]→MEL w0 (w2.setCell ⟨w.heap.size+1+1+1+1,10,none⟩ (.slice na nl nc)) (zP E1 E2 E3 (k+1)) id ti f st lg e c u (.slice ra rn rc) (.slice sa sn sc) (.slice na nl nc)):=fun q=>by
    obtain ⟨a1,a2,a3,a4,a5,a6,a7,a8,a9,a10,a11⟩:=((HM9.out q).step HB2.out).put HW2.out.e (by decide) (by decide) G9
    have hkc:=HKK.out
    subst hkc
    exact ⟨(by simpa [zP] using a1),(by simpa [zP] using a2),(by simpa [zP] using a3),(by simpa [zP] using a4),(by simpa [zP] using a5),(by simpa [zP] using a6),(by simpa [zP] using a7),(by simpa [zP] using a8),(by simpa [zP] using a9),(by simpa [zP] using a10),.inr (by have z:(zP E1 E2 E3 (5+1)).mv=(jMv E1.mv E2.mv E3.mv).getD []:=(by show (if 6≤5+1 then (jE E1 E2 E3).mv else E2.mv)=_;rw [if_pos (by omega)];show (if (yD _ _ _).isSome then (xV E1 E2 E3 5).mv else _)=_;rw [HON.out];rfl);rw [z];exact zW (World.ownsRow.kept HOW.out G9 (.inr (xT HOW.out HW2.out.e (by decide)))) (Nat.le_trans HB0.out.size HW9.out.b.size))⟩
   clear G9 HM9 HN9
   go_upto_region 30 with fail
   clear e0 e1 e2 e3 e4 e5 e6 e7 e8 e9 e10 f10_
   generalize w2.setCell ⟨w.heap.size+1+1+1+1,10,none⟩ (.slice na nl nc)=w3 at HW3 HN3 HM3 ⊢
   cases hjm:(jMv E1.mv E2.mv E3.mv).isSome with
   |true=>
    have HJ:Hid (jCs E1 E2 E3 (k+1)=jCs E1 E2 E3 k):=by show _=_;rw [HFL.out,HJF5.out,hjm];simp
    clear hjm
    go_wp2
    refine HQ.out _ _ _ _ _ _ _ _ _ _ _ _ _ _ _ _ _ _ _ _ _ _ _ _ _ _ _ _ _ _ _ _ _ _ _ _ _ _ _ _ _ _ _ _ _ _ _ _ _ _ _ _ _ _ _ _ _ _ _ _ _ _ _ _ _ _ _ _ _ _ _ _ _ _ _ _ _ _ _ _ _ _ _ _ _ _ _ _ _ _ _ _ _ _ _ _ _ _ _ _ _ _ _ _ _ _ _ _ _ _ _ _ _ _ _ _ _ _ _ _ _ _ _ _ _ _ _ _ _ _ _ _ _ _ _ _ _ _ _ _ _ _ _ _ _ _ _ _ _ _ _ _ _ _ _ _ _ _ _ _ _ _ _ _ _ _ _ _ _ _ _ _ _ _ _ _ _ _ _ _ _ _ _ _ _ _ ?_
    refine ⟨⟨k+1,.slice ba n bc,by omega,by go_num,rfl,id,ti,f,st,lg,e,c,u,ra,sa,na,rn,rc,sn,sc,nl,nc,HW3.out,?_,fun q=> ?_⟩,?_⟩
    ·rw [HJ.out];exact HN3.out
    ·exact HM3.out (by rw [←HJ.out];exact q)
    ·simp [intOf];omega
   |false=>
    have HJ:Hid (jCs E1 E2 E3 (k+1)=jCs E1 E2 E3 k++[fb]):=by show _=_;rw [HFL.out,HJF5.out,hjm];simp
    clear hjm
    have fkk:=HFBW.out _ HW3.out
    have hA:=zC w3 (.cells #[.string fb] 9)
    have HROW:Hid (World.ownsRow (w3.alloc (.cells #[.string fb] 9)) (w.heap.size+6) 9 1 (.slice ba n bc) n ((jCs E1 E2 E3 k).map Value.string)):=by
     have z:World.ownsRow _ _ _ _ _ _ _:=zU HN3.out hA
     rw [←HNN.out] at z
     exact z
    have NC:=hid (zeC w3 fb)
    have HWA:=hid (HW3.out.step hA)
    clear hA
    go_wp2_with (at_builtin;refine wpList_append_own_at _ rfl _ _ 51 rfl (w.heap.size+6) 9 i0 (.string ⟨#[]⟩) 1 16 Tryz.underlying51 hi hz0 hz1 hz2 rfl (by decide) _ _ _ rfl HROW.out ⟨w3.heap.size,0,none⟩ 1 1 [.string fb] rfl rfl NC.out (fun v hv=>by rw [List.mem_singleton.1 hv];rfl) (by unfold maxLen;omega) (by omega) (HWA.out.s) ?_;intro v' w7 hown' hgrow _ hat;have HOWN:=hid hown';have HGR:=hid hgrow;clear hown' hgrow hat)
    refine HQ.out _ _ _ _ _ _ _ _ _ _ _ _ _ _ _ _ _ _ _ _ _ _ _ _ _ _ _ _ _ _ _ _ _ _ _ _ _ _ _ _ _ _ _ _ _ _ _ _ _ _ _ _ _ _ _ _ _ _ _ _ _ _ _ _ _ _ _ _ _ _ _ _ _ _ _ _ _ _ _ _ _ _ _ _ _ _ _ _ _ _ _ _ _ _ _ _ _ _ _ _ _ _ _ _ _ _ _ _ _ _ _ _ _ _ _ _ _ _ _ _ _ _ _ _ _ _ _ _ _ _ _ _ _ _ _ _ _ _ _ _ _ _ _ _ _ _ _ _ _ _ _ _ _ _ _ _ _ _ _ _ _ _ _ _ _ _ _ _ _ _ _ _ _ _ _ _ _ _ _ _ _ _ _ _ _ _ ?_
    refine ⟨⟨k+1,v',by omega,by go_num,rfl,id,ti,f,st,lg,e,c,u,ra,sa,na,rn,rc,sn,sc,nl,nc,HWA.out.far HGR.out (fun kk q=>(World.ownsRow.lt HROW.out kk q).1),?_,fun q=> ?_⟩,?_⟩
    ·rw [HJ.out];exact zfw HOWN.out HNN.out
    ·rw [HJ.out] at q;simp at q
    ·simp [intOf];omega
end Go.Proofs.YtpeafgddbbojaaaGreatDoor
