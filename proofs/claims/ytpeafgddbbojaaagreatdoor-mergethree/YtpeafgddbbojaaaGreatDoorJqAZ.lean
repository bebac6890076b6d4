import Derived.Test.YtpeafgddbbojaaaGreatDoorJqAA
import Derived.Test.YtpeafgddbbojaaaGreatDoorJqAY
import Derived.Test.YtpeafgddbbojaaaGreatDoorJqAR
import Derived.BigRegion
import Derived.Test.YtpeafgddbbojaaaGreatDoorJqAT
import Derived.Test.YtpeafgddbbojaaaGreatDoorJqAU
import Derived.Test.YtpeafgddbbojaaaGreatDoorJqAN
namespace Go.Proofs.YtpeafgddbbojaaaGreatDoor
open Go Go.RowKit Go.Maps Go.Sort Cal
attribute [local go_sem] Oper.semAt_some
set_option maxHeartbeats 16000000 in
set_option maxRecDepth 100000 in
theorem zbM(E1 E2 E3:EV)(ra1 sa1 ma1 ra2 sa2 ma2 ra3 sa3 ma3:Option Addr)(rn1 rc1 sn1 sc1 mn1 mc1 rn2 rc2 sn2 sc2 mn2 mc2 rn3 rc3 sn3 sc3 mn3 mc3:Nat)(w w0:World)(HB0:Hid (Below w0.heap.size w0 w))
  (d1:Got w0 (.slice ra1 rn1 rc1) E1.ds) (s1:Got w0 (.slice sa1 sn1 sc1) E1.sk) (m1:GotM w0 (.slice ma1 mn1 mc1) E1.mv)
  (d2:Got w0 (.slice ra2 rn2 rc2) E2.ds) (s2:Got w0 (.slice sa2 sn2 sc2) E2.sk) (m2:GotM w0 (.slice ma2 mn2 mc2) E2.mv)
  (d3:Got w0 (.slice ra3 rn3 rc3) E3.ds) (s3:Got w0 (.slice sa3 sn3 sc3) E3.sk) (m3:GotM w0 (.slice ma3 mn3 mc3) E3.mv)
  (W1:EW E1) (W2:EW E2) (W3:EW E3) (h1:E1.ds.length≤20) (h2:E2.ds.length≤20) (h3:E3.ds.length≤20) (hid:E1.id=E2.id) (kJ:Int) (hkJ:EvK (jE E1 E2 E3) kJ) (CVL:List ByteArray) (hCV:CVL=if jCs E1 E2 E3 6=[] then (if kJ=0 then [] else [⟨#[97,108,108]⟩]) else jCs E1 E2 E3 6) (P6:Prop) (hP6:P6↔jCs E1 E2 E3 6=[]):
  Calls Tryz.prog 27 #[.agg (eA E1 ra1 rn1 rc1 sa1 sn1 sc1 ma1 mn1 mc1),.agg (eA E2 ra2 rn2 rc2 sa2 sn2 sc2 ma2 mn2 mc2),.agg (eA E3 ra3 rn3 rc3 sa3 sn3 sc3 ma3 mn3 mc3)] w fun r w'=> ∃ (id ti f:ByteArray) (st lg e c u:Int) (ra sa ma:Option Addr) (rn rc sn sc mn mc:Nat) (cv:Value),r= .returned (.tuple #[.agg (eV id ti st lg f e ra rn rc c u sa sn sc ma mn mc),cv])∧NmR w.heap.size w' cv CVL∧(P6→MEL w0 w' (jE E1 E2 E3) id ti f st lg e c u (.slice ra rn rc) (.slice sa sn sc) (.slice ma mn mc))∧Below w.heap.size w w':=by
 have HCV:Hid (CVL=if jCs E1 E2 E3 6=[] then (if kJ=0 then [] else [⟨#[97,108,108]⟩]) else jCs E1 E2 E3 6):=hCV
 have HP6:Hid (P6↔jCs E1 E2 E3 6=[]):=hP6
 clear hCV hP6
 obtain ⟨i0,hi,hz0,hz1,hz2⟩:=info_parts ye
 obtain ⟨k21,m21,_,mp1,kd1,md1,_⟩:=yX W1.ls
 obtain ⟨k22,m22,_,mp2,kd2,md2,_⟩:=yX W2.ls
 obtain ⟨k23,m23,_,mp3,kd3,md3,_⟩:=yX W3.ls
 have F1:Hid (∀ (k:Nat),k<6→ ∀ W,Below w.heap.size w W→Calls Tryz.prog 53 #[.agg (eA E1 ra1 rn1 rc1 sa1 sn1 sc1 ma1 mn1 mc1),.string (zt k)] W fun r w'=>r= .returned (.string (bs (fT E1 k)))∧Below W.heap.size W w'):=fun k hk W hW=>vL E1 _ _ _ k hk W (d1.step (zB HB0.out hW)) (s1.step (zB HB0.out hW)) (m1.step (zB HB0.out hW)) h1 W1
 have F2:Hid (∀ (k:Nat),k<6→ ∀ W,Below w.heap.size w W→Calls Tryz.prog 53 #[.agg (eA E2 ra2 rn2 rc2 sa2 sn2 sc2 ma2 mn2 mc2),.string (zt k)] W fun r w'=>r= .returned (.string (bs (fT E2 k)))∧Below W.heap.size W w'):=fun k hk W hW=>vL E2 _ _ _ k hk W (d2.step (zB HB0.out hW)) (s2.step (zB HB0.out hW)) (m2.step (zB HB0.out hW)) h2 W2
 have F3:Hid (∀ (k:Nat),k<6→ ∀ W,Below w.heap.size w W→Calls Tryz.prog 53 #[.agg (eA E3 ra3 rn3 rc3 sa3 sn3 sc3 ma3 mn3 mc3),.string (zt k)] W fun r w'=>r= .returned (.string (bs (fT E3 k)))∧Below W.heap.size W w'):=fun k hk W hW=>vL E3 _ _ _ k hk W (d3.step (zB HB0.out hW)) (s3.step (zB HB0.out hW)) (m3.step (zB HB0.out hW)) h3 W3
 have SO:Hid (∀ W,Below w.heap.size w W→Calls Tryz.prog 54 #[.slice sa1 sn1 sc1,.slice sa2 sn2 sc2,.slice sa3 sn3 sc3] W fun r w'=> ∃ v,r= .returned v∧Ow W.heap.size w' v (jSk E1.sk E2.sk E3.sk)∧Below W.heap.size W w'):=fun W hW=>zh3 _ _ _ _ _ _ W (s1.step (zB HB0.out hW)) (s2.step (zB HB0.out hW)) (s3.step (zB HB0.out hW)) (by omega) (by omega) (by omega) (fun x hx=>(kd1 x hx).1) (fun x hx=>(kd2 x hx).1) (fun x hx=>(kd3 x hx).1)
 have MO:Hid (∀ W,Below w.heap.size w W→Calls Tryz.prog 55 #[.slice ma1 mn1 mc1,.slice ma2 mn2 mc2,.slice ma3 mn3 mc3] W fun r w'=> ∃ v,r= .returned (.tuple #[v,.bool (jMv E1.mv E2.mv E3.mv).isSome])∧OwM W.heap.size w' v ((jMv E1.mv E2.mv E3.mv).getD [])∧Below W.heap.size W w'):=fun W hW=>zh6 _ _ _ _ _ _ W (m1.step (zB HB0.out hW)) (m2.step (zB HB0.out hW)) (m3.step (zB HB0.out hW)) (by omega) (by omega) (by omega) ⟨mp1,md1⟩ ⟨mp2,md2⟩ ⟨mp3,md3⟩
 have RF:Hid (∀ W:World,Calls Tryz.prog 51 #[] W fun r w'=>r= .returned (.slice (some ⟨W.heap.size,0,none⟩) 6 6)∧w'=W.alloc vD):=fun W=>jX W
 have PT:Hid (∀ (x y z:ByteArray) (W:World),Calls Tryz.prog 25 #[.string x,.string y,.string z] W fun r w'=>r= .returned (.tuple #[.string (pkT x y z).1,.bool (pkT x y z).2])∧w'=W):=fun x y z W=>zaH x y z W
 have L0:Hid (MEL w0 w (zP E1 E2 E3 0) E2.id E2.ti E2.f E2.st E2.lg E2.e E2.c E2.u (.slice ra2 rn2 rc2) (.slice sa2 sn2 sc2) (.slice ma2 mn2 mc2)):=⟨rfl,rfl,rfl,rfl,rfl,rfl,rfl,rfl,d2,.inl s2,.inl m2⟩
 have G2:Hid (Got w0 (.slice sa2 sn2 sc2) (zP E1 E2 E3 0).sk∧GotM w0 (.slice ma2 mn2 mc2) (zP E1 E2 E3 0).mv):=⟨s2,m2⟩
 have G3:Hid (Got w0 (.slice ra3 rn3 rc3) E3.ds∧Got w0 (.slice sa3 sn3 sc3) E3.sk∧GotM w0 (.slice ma3 mn3 mc3) E3.mv):=⟨d3,s3,m3⟩
 have EE:Hid (∀ (W:World) (sl skv mvv:Value),Got W sl (jE E1 E2 E3).ds→Got W skv (jE E1 E2 E3).sk→GotM W mvv (jE E1 E2 E3).mv→Calls Tryz.prog 39 #[ev (jE E1 E2 E3) sl skv mvv] W fun r w'=>r= .returned (.int .i64 kJ)∧Below W.heap.size W w'):=fun W sl skv mvv q1 q2 q3=>by
  have sw:=zmg W1 W2 W3
  obtain ⟨kr,hkr⟩:=jP (jE E1 E2 E3).f (jE E1 E2 E3).e (jE E1 E2 E3).ds (jE E1 E2 E3).c (jE E1 E2 E3).u
  have b1:=W1.id
  have b2:=W2.ti
  have b3:=W3.ti
  unfold zdX at b1
  unfold zfe at b2 b3
  refine yx (jE E1 E2 E3) sl skv mvv kJ kr W q1 q2 q3 ?_ ?_ ?_ ?_ hkr hkJ (fun W' hG=>yf _ _ _ _ _ _ kr W' hG (zkR h2 h3) hkr)
  ·show E1.id.size≤60
   omega
  ·show (xV E1 E2 E3 0).ti.size≤60
   rcases zat E1 E2 E3 0 with q|q<;>rw [q]<;>omega
  ·unfold jE
   dsimp only
   split
   ·rcases zat E1 E2 E3 4 with q|q<;>rw [q]<;>omega
   ·exact Nat.le_trans (zeq _ _ _) (by omega)
  ·unfold jE
   dsimp only
   split
   ·rcases zat E1 E2 E3 5 with q|q<;>rw [q]<;>omega
   ·exact Nat.le_trans (zcD _ _ _) (by omega)
 have HID:Hid (E1.id=E2.id):=hid
 clear hid
 clear d1 s1 m1 d2 s2 m2 d3 s3 m3 mp1 kd1 md1 mp2 kd2 md2 mp3 kd3 md3
 go_enter Tryz.func27,Tryz.ntmps27
 go_upto_region 3 with fail
 have H3:Hid ((((((w.alloc (.cells (eA E1 ra1 rn1 rc1 sa1 sn1 sc1 ma1 mn1 mc1) 48)).alloc (.cells (eA E2 ra2 rn2 rc2 sa2 sn2 sc2 ma2 mn2 mc2) 48)).alloc (.cells (eA E3 ra3 rn3 rc3 sa3 sn3 sc3 ma3 mn3 mc3) 48)).alloc (.cells #[.string ⟨#[]⟩,.string ⟨#[]⟩,.int .i64 0,.int .i64 0,.string ⟨#[]⟩,.int .i64 0,.slice none 0 0,.int .i64 0,.int .i64 0,.slice none 0 0,.slice none 0 0] 48)).alloc (.cells (eA E2 ra2 rn2 rc2 sa2 sn2 sc2 ma2 mn2 mc2) 48)).heap.size=w.heap.size+1+1+1+1+1∧MEW w ((((((w.alloc (.cells (eA E1 ra1 rn1 rc1 sa1 sn1 sc1 ma1 mn1 mc1) 48)).alloc (.cells (eA E2 ra2 rn2 rc2 sa2 sn2 sc2 ma2 mn2 mc2) 48)).alloc (.cells (eA E3 ra3 rn3 rc3 sa3 sn3 sc3 ma3 mn3 mc3) 48)).alloc (.cells #[.string ⟨#[]⟩,.string ⟨#[]⟩,.int .i64 0,.int .i64 0,.string ⟨#[]⟩,.int .i64 0,.slice none 0 0,.int .i64 0,.int .i64 0,.slice none 0 0,.slice none 0 0] 48)).alloc (.cells (eA E2 ra2 rn2 rc2 sa2 sn2 sc2 ma2 mn2 mc2) 48)).alloc vD) (eA E1 ra1 rn1 rc1 sa1 sn1 sc1 ma1 mn1 mc1) (eA E2 ra2 rn2 rc2 sa2 sn2 sc2 ma2 mn2 mc2) (eA E3 ra3 rn3 rc3 sa3 sn3 sc3 ma3 mn3 mc3) (eA E2 ra2 rn2 rc2 sa2 sn2 sc2 ma2 mn2 mc2)):=by
  have s1:(w.alloc (.cells (eA E1 ra1 rn1 rc1 sa1 sn1 sc1 ma1 mn1 mc1) 48)).heap.size=w.heap.size+1:=World.size_alloc _ _
  have s2:((w.alloc (.cells (eA E1 ra1 rn1 rc1 sa1 sn1 sc1 ma1 mn1 mc1) 48)).alloc (.cells (eA E2 ra2 rn2 rc2 sa2 sn2 sc2 ma2 mn2 mc2) 48)).heap.size=w.heap.size+1+1:=by rw [World.size_alloc,s1]
  have s3:(((w.alloc (.cells (eA E1 ra1 rn1 rc1 sa1 sn1 sc1 ma1 mn1 mc1) 48)).alloc (.cells (eA E2 ra2 rn2 rc2 sa2 sn2 sc2 ma2 mn2 mc2) 48)).alloc (.cells (eA E3 ra3 rn3 rc3 sa3 sn3 sc3 ma3 mn3 mc3) 48)).heap.size=w.heap.size+1+1+1:=by rw [World.size_alloc,s2]
  have s4:((((w.alloc (.cells (eA E1 ra1 rn1 rc1 sa1 sn1 sc1 ma1 mn1 mc1) 48)).alloc (.cells (eA E2 ra2 rn2 rc2 sa2 sn2 sc2 ma2 mn2 mc2) 48)).alloc (.cells (eA E3 ra3 rn3 rc3 sa3 sn3 sc3 ma3 mn3 mc3) 48)).alloc (.cells #[.string ⟨#[]⟩,.string ⟨#[]⟩,.int .i64 0,.int .i64 0,.string ⟨#[]⟩,.int .i64 0,.slice none 0 0,.int .i64 0,.int .i64 0,.slice none 0 0,.slice none 0 0] 48)).heap.size=w.heap.size+1+1+1+1:=by rw [World.size_alloc,s3]
  have s5:(((((w.alloc (.cells (eA E1 ra1 rn1 rc1 sa1 sn1 sc1 ma1 mn1 mc1) 48)).alloc (.cells (eA E2 ra2 rn2 rc2 sa2 sn2 sc2 ma2 mn2 mc2) 48)).alloc (.cells (eA E3 ra3 rn3 rc3 sa3 sn3 sc3 ma3 mn3 mc3) 48)).alloc (.cells #[.string ⟨#[]⟩,.string ⟨#[]⟩,.int .i64 0,.int .i64 0,.string ⟨#[]⟩,.int .i64 0,.slice none 0 0,.int .i64 0,.int .i64 0,.slice none 0 0,.slice none 0 0] 48)).alloc (.cells (eA E2 ra2 rn2 rc2 sa2 sn2 sc2 ma2 mn2 mc2) 48)).heap.size=w.heap.size+1+1+1+1+1:=by rw [World.size_alloc,s4]
  refine ⟨s5,⟨zH _ (zH _ (zH _ (zH _ (zH _ (zJ _ rfl))))),zH _ (zH _ (zH _ (zH _ (zJ _ s1)))),zH _ (zH _ (zH _ (zJ _ s2))),zH _ (zH _ (zJ _ s3)),zH _ (zJ _ s4),fun i hi=> ?_,zB (zC _ _) (zB (zC _ _) (zB (zC _ _) (zB (zC _ _) (zB (zC _ _) (zC _ _))))),by rw [World.size_alloc,s5];omega⟩⟩
  rw [←s5]
  exact vE _ i hi
 generalize (((((w.alloc (.cells (eA E1 ra1 rn1 rc1 sa1 sn1 sc1 ma1 mn1 mc1) 48)).alloc (.cells (eA E2 ra2 rn2 rc2 sa2 sn2 sc2 ma2 mn2 mc2) 48)).alloc (.cells (eA E3 ra3 rn3 rc3 sa3 sn3 sc3 ma3 mn3 mc3) 48)).alloc (.cells #[.string ⟨#[]⟩,.string ⟨#[]⟩,.int .i64 0,.int .i64 0,.string ⟨#[]⟩,.int .i64 0,.slice none 0 0,.int .i64 0,.int .i64 0,.slice none 0 0,.slice none 0 0] 48)).alloc (.cells (eA E2 ra2 rn2 rc2 sa2 sn2 sc2 ma2 mn2 mc2) 48))=w5 at H3 ⊢
 go_upto_region 4 with (go_at_call 51;refine Calls.mono (RF.out _) ?_;rintro r w6 ⟨rfl,hq⟩;have hq:=hq.symm;subst hq)
 rw [H3.out.1]
 have H4:Hid (MEW w (w5.alloc vD) (eA E1 ra1 rn1 rc1 sa1 sn1 sc1 ma1 mn1 mc1) (eA E2 ra2 rn2 rc2 sa2 sn2 sc2 ma2 mn2 mc2) (eA E3 ra3 rn3 rc3 sa3 sn3 sc3 ma3 mn3 mc3) (eA E2 ra2 rn2 rc2 sa2 sn2 sc2 ma2 mn2 mc2)):=H3.out.2
 clear H3 RF
 generalize w5.alloc vD=w6 at H4 ⊢
 go_wp2
 go_loopw [9,11,12,13,14,15,16,17,18,19,20,65,77,89,101,113,125,137,156,187] (fun bav iv _ _ _ _ _ _ _ _ _ _ _ _ _ _ _ _ _ _ wr=> ∃ (k:Nat) (bv:Value),k≤6∧iv= .int .i64 k∧bav=bv∧Hid (∃ (id ti f:ByteArray) (st lg e c u:Int) (ra sa ma:Option Addr) (rn rc sn sc mn mc:Nat),MEW w wr (eA E1 ra1 rn1 rc1 sa1 sn1 sc1 ma1 mn1 mc1) (eA E2 ra2 rn2 rc2 sa2 sn2 sc2 ma2 mn2 mc2) (eA E3 ra3 rn3 rc3 sa3 sn3 sc3 ma3 mn3 mc3) (eV id ti st lg f e ra rn rc c u sa sn sc ma mn mc)∧NmR (w.heap.size+6) wr bv (jCs E1 E2 E3 k)∧(jCs E1 E2 E3 k=[]→MEL w0 wr (zP E1 E2 E3 k) id ti f st lg e c u (.slice ra rn rc) (.slice sa sn sc) (.slice ma mn mc)))) (fun _ iv _ _ _ _ _ _ _ _ _ _ _ _ _ _ _ _ _ _ _=>6 - (intOf iv).toNat)
 case atStart=>exact ⟨0,.slice none 0 0,by omega,rfl,rfl,_,_,_,_,_,_,_,_,_,_,_,_,_,_,_,_,_,H4.out,World.ownsRow_nil _ _ _ _,fun _=>⟨L0.out.id,L0.out.ti,L0.out.f,L0.out.st,L0.out.lg,L0.out.e,L0.out.c,L0.out.u,L0.out.d,.inl G2.out.1,.inl G2.out.2⟩⟩
 case round=>
  obtain ⟨k,bv,hk,rfl,rfl,HX⟩:=hrel
  obtain ⟨id,ti,f,st,lg,e,c,u,ra,sa,ma,rn,rc,sn,sc,mn,mc,hw0,hnm,hml⟩:=HX.out
  clear HX
  obtain ⟨ba,bc,rfl⟩:=zQ hnm
  have HW0:Hid (MEW w wr (eA E1 ra1 rn1 rc1 sa1 sn1 sc1 ma1 mn1 mc1) (eA E2 ra2 rn2 rc2 sa2 sn2 sc2 ma2 mn2 mc2) (eA E3 ra3 rn3 rc3 sa3 sn3 sc3 ma3 mn3 mc3) (eV id ti st lg f e ra rn rc c u sa sn sc ma mn mc)):=hw0
  have HN:Hid (NmR (w.heap.size+6) wr (.slice ba (jCs E1 E2 E3 k).length bc) (jCs E1 E2 E3 k)):=hnm
  have HM:Hid (jCs E1 E2 E3 k=[]→MEL w0 wr (zP E1 E2 E3 k) id ti f st lg e c u (.slice ra rn rc) (.slice sa sn sc) (.slice ma mn mc)):=hml
  have hcl:=zmp E1 E2 E3 k
  obtain ⟨n,hn⟩: ∃ n,(jCs E1 E2 E3 k).length=n:=⟨_,rfl⟩
  rw [hn] at HN hcl ⊢
  have HNN:Hid (n=(jCs E1 E2 E3 k).length):=hn.symm
  clear hnm hml hn
  by_cases hlt:k<6
  ·have FX1:Hid (∀ W,Below w.heap.size w W→Calls Tryz.prog 53 #[.agg (eA E1 ra1 rn1 rc1 sa1 sn1 sc1 ma1 mn1 mc1),.string (zt k)] W fun r w'=>r= .returned (.string (bs (fT E1 k)))∧Below W.heap.size W w'):=F1.out k hlt
   have FX2:Hid (∀ W,Below w.heap.size w W→Calls Tryz.prog 53 #[.agg (eA E2 ra2 rn2 rc2 sa2 sn2 sc2 ma2 mn2 mc2),.string (zt k)] W fun r w'=>r= .returned (.string (bs (fT E2 k)))∧Below W.heap.size W w'):=F2.out k hlt
   have FX3:Hid (∀ W,Below w.heap.size w W→Calls Tryz.prog 53 #[.agg (eA E3 ra3 rn3 rc3 sa3 sn3 sc3 ma3 mn3 mc3),.string (zt k)] W fun r w'=>r= .returned (.string (bs (fT E3 k)))∧Below W.heap.size W w'):=F3.out k hlt
   clear F1 F2 F3 EE L0 H4 HID HCV HP6
   refine meR E1 E2 E3 ra1 sa1 ma1 ra2 sa2 ma2 ra3 sa3 ma3 rn1 rc1 sn1 sc1 mn1 mc1 rn2 rc2 sn2 sc2 mn2 mc2 rn3 rc3 sn3 sc3 mn3 mc3 w w0 wr HB0 k n hlt id ti f st lg e c u ra sa ma ba rn rc sn sc mn mc bc HW0 HN HM HNN hcl FX1 FX2 FX3 SO MO PT G3 _ _ _ _ _ _ _ _ _ _ _ _ _ _ _ _ _ _ _ _ _ _ _ _ _ _ _ _ _ _ _ _ _ _ _ _ _ _ _ _ _ _ _ _ _ _ _ _ _ _ _ _ _ _ _ _ _ _ _ _ _ _ _ _ _ _ _ _ _ _ _ _ _ _ _ _ _ _ _ _ _ _ _ _ _ _ _ _ _ _ _ _ _ _ _ _ _ _ _ _ _ _ _ _ _ _ _ _ _ _ _ _ _ _ _ _ _ _ _ _ _ _ _ _ _ _ _ _ _ _ _ _ _ _ _ _ _ _ _ _ _ _ _ _ _ _ _ _ _ _ _ _ _ _ _ _ _ _ _ _ _ _ _ _ _ _ _ _ _ _ _ _ _ _ _ _ _ _ _ _ _ _ _ _ ?_
   intro u9 db dc dd de df dg dh di dj dk dl dm dn dp dq dr dt du dv dw dx dy dz dA dB dC dD dE dF dG dH dI dJ dK dL dM dN dO dP dQ dR dS dT dU dV dW dX dY dZ ea eb ec ed ee ef eg eh ei ej ek el em en eo ep eq er es et eu ew ex ey ez eB eC eD eE eF eG eH eI eJ eK eL eM eN ab ac ad ae af ag ah ai aj ak al am an ao ap aq ar au av aw ax ay az aA aB aC aD aE aF aG aH aI aJ aK aL aM aN aO aP aQ aR aS aT aU aV aW aX aY aZ bb bd be bf bg bh bi bj bk bl bm bn bo bp bq br bt bu bw bx bz bA bB bC bD bE bF bG bH bI bJ bK bL bM bN bO bP bQ bR bS bT bU bV bW bX bY bZ da W' hr
   exact ⟨⟨u9,db,dc,dd,de,df,dg,dh,di,dj,dk,dl,dm,dn,dp,dq,dr,dt,du,dv,dw,dx,dy,dz,dA,dB,dC,dD,dE,dF,dG,dH,dI,dJ,dK,dL,dM,dN,dO,dP,dQ,dR,dS,dT,dU,dV,dW,dX,dY,dZ,ea,eb,ec,ed,ee,ef,eg,eh,ei,ej,ek,el,em,en,eo,ep,eq,er,es,et,eu,ew,ex,ey,ez,eB,eC,eD,eE,eF,eG,eH,eI,eJ,eK,eL,eM,eN,ab,ac,ad,ae,af,ag,ah,ai,aj,ak,al,am,an,ao,ap,aq,ar,au,av,aw,ax,ay,az,aA,aB,aC,aD,aE,aF,aG,aH,aI,aJ,aK,aL,aM,aN,aO,aP,aQ,aR,aS,aT,aU,aV,aW,aX,aY,aZ,bb,bd,be,bf,bg,bh,bi,bj,bk,bl,bm,bn,bo,bp,bq,br,bt,bu,bw,bx,bz,bA,bB,bC,bD,bE,bF,bG,bH,bI,bJ,bK,bL,bM,bN,bO,bP,bQ,bR,bS,bT,bU,bV,bW,bX,bY,bZ,da,hr.1,rfl⟩,hr.2⟩
  ·have hk6:k=6:=by omega
   have HC6:Hid (jCs E1 E2 E3 k=jCs E1 E2 E3 6):=by show _=_;rw [hk6]
   have HM6:Hid (jCs E1 E2 E3 6=[]→MEL w0 wr (jE E1 E2 E3) id ti f st lg e c u (.slice ra rn rc) (.slice sa sn sc) (.slice ma mn mc)):=fun q=>by
    have hm:=HM.out (by rw [HC6.out];exact q)
    rw [hk6] at hm
    obtain ⟨a1,a2,a3,a4,a5,a6,a7,a8,a9,a10,a11⟩:=hm
    exact ⟨(by rw [a1];show E2.id=E1.id;exact HID.out.symm),(by simpa [zP] using a2),(by simpa [zP] using a3),(by simpa [zP] using a4),(by simpa [zP] using a5),(by simpa [zP] using a6),(by simpa [zP] using a7),(by simpa [zP] using a8),(by simpa [zP] using a9),(by simpa [zP] using a10),(by simpa [zP] using a11)⟩
   have HN6:Hid (NmR (w.heap.size+6) wr (.slice ba n bc) (jCs E1 E2 E3 6)):=by rw [←HC6.out];exact HN.out
   have HNL:Hid (n=(jCs E1 E2 E3 6).length):=by rw [←HC6.out];exact HNN.out
   have g2:(6:Int)≤(k:Int):=by omega
   have hni:n≤6:=by omega
   clear hk6 HC6 HM HN HNN hcl F1 F2 F3 SO MO PT L0 G3 H4
   obtain ⟨e0,e1,e2,e3,e4,e5,e6,e7,e8,e9,e10⟩:=zK hw0.e
   clear hw0
   have HWR:Hid (MEW w wr (eA E1 ra1 rn1 rc1 sa1 sn1 sc1 ma1 mn1 mc1) (eA E2 ra2 rn2 rc2 sa2 sn2 sc2 ma2 mn2 mc2) (eA E3 ra3 rn3 rc3 sa3 sn3 sc3 ma3 mn3 mc3) (eV id ti st lg f e ra rn rc c u sa sn sc ma mn mc)):=HW0.out
   clear HW0
   by_cases hn0:n=0
   ·have HJ0:Hid (jCs E1 E2 E3 6=[]):=List.length_eq_zero_iff.1 (HNL.out.symm.trans hn0)
    have EEX:Hid (Calls Tryz.prog 39 #[.agg (eV id ti st lg f e ra rn rc c u sa sn sc ma mn mc)] wr fun r w'=>r= .returned (.int .i64 kJ)∧Below wr.heap.size wr w'):=by
     obtain ⟨q1,q2,q3,q4,q5,q6,q7,q8,qd,qs,qm⟩:=HM6.out HJ0.out
     have z:=EE.out wr _ _ _ (qd.step (zB HB0.out HWR.out.b)) (by rcases qs with q|q;exact q.step (zB HB0.out HWR.out.b);exact yq q) (by
      rcases qm with q|q
      ·exact q.step (zB HB0.out HWR.out.b)
      ·refine (zr q ?_).2
       unfold jE
       dsimp only
       split
       ·rcases zat E1 E2 E3 5 with q|q<;>rw [q]<;>omega
       ·exact Nat.le_trans (zcD _ _ _) (by omega))
     unfold ev at z
     rw [←q1,←q2,←q3,←q4,←q5,←q6,←q7,←q8] at z
     exact z
    subst hn0
    have hkb:=zjR hkJ
    by_cases hk0:kJ=0
    ·have HK0:Hid (kJ=0):=hk0
     rw [hk0] at EEX
     clear hk0 hkb
     go_upto_region 36 with (go_at_call 39;refine Calls.mono EEX.out ?_;rintro r w5 ⟨rfl,hb5⟩;have HB5:Hid (Below wr.heap.size wr w5):=hb5;clear hb5)
     have HW5:Hid (MEW w w5 (eA E1 ra1 rn1 rc1 sa1 sn1 sc1 ma1 mn1 mc1) (eA E2 ra2 rn2 rc2 sa2 sn2 sc2 ma2 mn2 mc2) (eA E3 ra3 rn3 rc3 sa3 sn3 sc3 ma3 mn3 mc3) (eV id ti st lg f e ra rn rc c u sa sn sc ma mn mc)):=HWR.out.step HB5.out
     have HN5:Hid (NmR (w.heap.size+6) w5 (.slice ba 0 bc) (jCs E1 E2 E3 6)):=zU HN6.out HB5.out
     have HM5:Hid (jCs E1 E2 E3 6=[]→MEL w0 w5 (jE E1 E2 E3) id ti f st lg e c u (.slice ra rn rc) (.slice sa sn sc) (.slice ma mn mc)):=fun q=>(HM6.out q).step HB5.out
     clear e0 e1 e2 e3 e4 e5 e6 e7 e8 e9 e10 EEX EE HN6 HM6
     obtain ⟨y0,y1,y2,y3,y4,y5,y6,y7,y8,y9,y10⟩:=zK HW5.out.e
     obtain ⟨t0,t1,t2,t3,t4,t5,t6,t7,t8,t9,t10⟩:=zK HW5.out.z
     obtain ⟨z0_,z1_,z2_,z3_,z4_,z5_,z6_,z7_,z8_,z9_,z10_⟩:=frz HW5.out.z
     go_wp2
     rw [zX]
     have G9:=zT w5 (w.heap.size+1+1+1) (.string id) (.string ti) (.int .i64 st) (.int .i64 lg) (.string f) (.int .i64 e) (.slice ra rn rc) (.int .i64 c) (.int .i64 u) (.slice sa sn sc) (.slice ma mn mc)
     have nB:=zk (.string id) (.string ti) (.int .i64 st) (.int .i64 lg) (.string f) (.int .i64 e) (.slice ra rn rc) (.int .i64 c) (.int .i64 u) (.slice sa sn sc) (.slice ma mn mc) HW5.out.z
     have NR:=yp (B:=w.heap.size+1+1+1) (HN5.out) G9 (by omega)
     have MR9:Hid (P6→MEL w0 (yI w5 (w.heap.size+1+1+1) (.string id) (.string ti) (.int .i64 st) (.int .i64 lg) (.string f) (.int .i64 e) (.slice ra rn rc) (.int .i64 c) (.int .i64 u) (.slice sa sn sc) (.slice ma mn mc)) (jE E1 E2 E3) id ti f st lg e c u (.slice ra rn rc) (.slice sa sn sc) (.slice ma mn mc)):=fun q=>(HM5.out (HP6.out.1 q)).put HW5.out.z (by decide) (by decide) G9
     have gB:=zy HW5.out.b G9 (by omega)
     have NR9:Hid (NmR w.heap.size (yI w5 (w.heap.size+1+1+1) (.string id) (.string ti) (.int .i64 st) (.int .i64 lg) (.string f) (.int .i64 e) (.slice ra rn rc) (.int .i64 c) (.int .i64 u) (.slice sa sn sc) (.slice ma mn mc)) (.slice ba 0 bc) CVL):=by
      show NmR _ _ _ _
      rw [HCV.out,if_pos HJ0.out,if_pos HK0.out,←HJ0.out]
      exact zW NR (by omega)
     clear z0_ t0 y0 z1_ t1 y1 z2_ t2 y2 z3_ t3 y3 z4_ t4 y4 z5_ t5 y5 z6_ t6 y6 z7_ t7 y7 z8_ t8 y8 z9_ t9 y9 z10_ t10 y10 G9 NR
     generalize yI w5 (w.heap.size+1+1+1) (.string id) (.string ti) (.int .i64 st) (.int .i64 lg) (.string f) (.int .i64 e) (.slice ra rn rc) (.int .i64 c) (.int .i64 u) (.slice sa sn sc) (.slice ma mn mc)=w9 at nB MR9 NR9 gB ⊢
     obtain ⟨c0,c1,c2,c3,c4,c5,c6,c7,c8,c9,aa⟩:=zK nB
     exact bodyPost_ret (v:= .tuple #[.agg (eV id ti st lg f e ra rn rc c u sa sn sc ma mn mc),(.slice ba 0 bc)]) (by simp [results,Tryz.f27,go_sem,c0,c1,c2,c3,c4,c5,c6,c7,c8,c9,aa]) rfl ⟨_,_,_,_,_,_,_,_,_,_,_,_,_,_,_,_,_,_,rfl,NR9.out,MR9.out,gB⟩
    ·have hk1:(0:Int)<kJ:=by omega
     have HK0:Hid (¬ kJ=0):=hk0
     clear hkb hk0
     go_upto_region 35 with (go_at_call 39;refine Calls.mono EEX.out ?_;rintro r w5 ⟨rfl,hb5⟩;have HB5:Hid (Below wr.heap.size wr w5):=hb5;clear hb5)
     have HW5:Hid (MEW w w5 (eA E1 ra1 rn1 rc1 sa1 sn1 sc1 ma1 mn1 mc1) (eA E2 ra2 rn2 rc2 sa2 sn2 sc2 ma2 mn2 mc2) (eA E3 ra3 rn3 rc3 sa3 sn3 sc3 ma3 mn3 mc3) (eV id ti st lg f e ra rn rc c u sa sn sc ma mn mc)):=HWR.out.step HB5.out
     have HN5:Hid (NmR (w.heap.size+6) w5 (.slice ba 0 bc) (jCs E1 E2 E3 6)):=zU HN6.out HB5.out
     have HM5:Hid (jCs E1 E2 E3 6=[]→MEL w0 w5 (jE E1 E2 E3) id ti f st lg e c u (.slice ra rn rc) (.slice sa sn sc) (.slice ma mn mc)):=fun q=>(HM6.out q).step HB5.out
     clear e0 e1 e2 e3 e4 e5 e6 e7 e8 e9 e10 EEX EE HN6 HM6
     have hA:=zC w5 (.cells #[.string ⟨#[97,108,108]⟩] 9)
     have HROW:Hid (World.ownsRow (w5.alloc (.cells #[.string ⟨#[97,108,108]⟩] 9)) (w.heap.size+6) 9 1 (.slice ba 0 bc) 0 []):=by
      have z:World.ownsRow _ _ _ _ _ _ _:=zU HN5.out hA
      rw [HJ0.out] at z
      exact z
     have NC:Hid (∀ (j:Nat) (v:Value),[Value.string ⟨#[97,108,108]⟩][j]? =some v→(w5.alloc (.cells #[.string ⟨#[97,108,108]⟩] 9)).cell? ((⟨w5.heap.size,0,none⟩:Addr).add j)=some v):=zeC w5 _
     have HWA:Hid (MEW w (w5.alloc (.cells #[.string ⟨#[97,108,108]⟩] 9)) (eA E1 ra1 rn1 rc1 sa1 sn1 sc1 ma1 mn1 mc1) (eA E2 ra2 rn2 rc2 sa2 sn2 sc2 ma2 mn2 mc2) (eA E3 ra3 rn3 rc3 sa3 sn3 sc3 ma3 mn3 mc3) (eV id ti st lg f e ra rn rc c u sa sn sc ma mn mc)):=HW5.out.step hA
     have HMA:Hid (jCs E1 E2 E3 6=[]→MEL w0 (w5.alloc (.cells #[.string ⟨#[97,108,108]⟩] 9)) (jE E1 E2 E3) id ti f st lg e c u (.slice ra rn rc) (.slice sa sn sc) (.slice ma mn mc)):=fun q=>(HM5.out q).step hA
     clear hA
     go_upto_region 36 with (at_builtin;refine wpList_append_own_at _ rfl _ _ 51 rfl (w.heap.size+6) 9 i0 (.string ⟨#[]⟩) 1 16 Tryz.underlying51 hi hz0 hz1 hz2 rfl (by decide) _ _ _ rfl HROW.out ⟨w5.heap.size,0,none⟩ 1 1 [.string ⟨#[97,108,108]⟩] rfl rfl NC.out (fun v hv=>by rw [List.mem_singleton.1 hv];rfl) (by unfold maxLen;omega) (by omega) (HWA.out.s) ?_;intro v' w7 hown' hgrow _ hat;have HOWN:Hid (World.ownsRow w7 (w.heap.size+6) 9 1 v' 1 [.string ⟨#[97,108,108]⟩]):=hown';have HGR:Hid (World.grownBy (w5.alloc (.cells #[.string ⟨#[97,108,108]⟩] 9)) w7 (Value.slice ba 0 bc).ownBlock):=hgrow;obtain ⟨na,nc,rfl⟩:=zQ hown';clear hown' hgrow hat)
     have HW7:Hid (MEW w w7 (eA E1 ra1 rn1 rc1 sa1 sn1 sc1 ma1 mn1 mc1) (eA E2 ra2 rn2 rc2 sa2 sn2 sc2 ma2 mn2 mc2) (eA E3 ra3 rn3 rc3 sa3 sn3 sc3 ma3 mn3 mc3) (eV id ti st lg f e ra rn rc c u sa sn sc ma mn mc)):=HWA.out.far HGR.out (fun kk q=>(World.ownsRow.lt HROW.out kk q).1)
     have HM7:Hid (jCs E1 E2 E3 6=[]→MEL w0 w7 (jE E1 E2 E3) id ti f st lg e c u (.slice ra rn rc) (.slice sa sn sc) (.slice ma mn mc)):=fun q=>by
      obtain ⟨a1,a2,a3,a4,a5,a6,a7,a8,a9,a10,a11⟩:=HMA.out q
      exact ⟨a1,a2,a3,a4,a5,a6,a7,a8,a9,a10.imp (fun q=>q) (fun q=>zcL q HROW.out HGR.out (by decide)),a11.imp (fun q=>q) (fun q=>zcL q HROW.out HGR.out (by decide))⟩
     obtain ⟨y0,y1,y2,y3,y4,y5,y6,y7,y8,y9,y10⟩:=zK HW7.out.e
     obtain ⟨t0,t1,t2,t3,t4,t5,t6,t7,t8,t9,t10⟩:=zK HW7.out.z
     obtain ⟨z0_,z1_,z2_,z3_,z4_,z5_,z6_,z7_,z8_,z9_,z10_⟩:=frz HW7.out.z
     go_wp2
     rw [zX]
     have G9:=zT w7 (w.heap.size+1+1+1) (.string id) (.string ti) (.int .i64 st) (.int .i64 lg) (.string f) (.int .i64 e) (.slice ra rn rc) (.int .i64 c) (.int .i64 u) (.slice sa sn sc) (.slice ma mn mc)
     have nB:=zk (.string id) (.string ti) (.int .i64 st) (.int .i64 lg) (.string f) (.int .i64 e) (.slice ra rn rc) (.int .i64 c) (.int .i64 u) (.slice sa sn sc) (.slice ma mn mc) HW7.out.z
     have NR:=yp (B:=w.heap.size+1+1+1) ((show NmR (w.heap.size+6) w7 (.slice na 1 nc) [⟨#[97,108,108]⟩] from HOWN.out)) G9 (by omega)
     have MR9:Hid (P6→MEL w0 (yI w7 (w.heap.size+1+1+1) (.string id) (.string ti) (.int .i64 st) (.int .i64 lg) (.string f) (.int .i64 e) (.slice ra rn rc) (.int .i64 c) (.int .i64 u) (.slice sa sn sc) (.slice ma mn mc)) (jE E1 E2 E3) id ti f st lg e c u (.slice ra rn rc) (.slice sa sn sc) (.slice ma mn mc)):=fun q=>(HM7.out (HP6.out.1 q)).put HW7.out.z (by decide) (by decide) G9
     have gB:=zy HW7.out.b G9 (by omega)
     have NR9:Hid (NmR w.heap.size (yI w7 (w.heap.size+1+1+1) (.string id) (.string ti) (.int .i64 st) (.int .i64 lg) (.string f) (.int .i64 e) (.slice ra rn rc) (.int .i64 c) (.int .i64 u) (.slice sa sn sc) (.slice ma mn mc)) (.slice na 1 nc) CVL):=by
      show NmR _ _ _ _
      rw [HCV.out,if_pos HJ0.out,if_neg HK0.out]
      exact zW NR (by omega)
     clear z0_ t0 y0 z1_ t1 y1 z2_ t2 y2 z3_ t3 y3 z4_ t4 y4 z5_ t5 y5 z6_ t6 y6 z7_ t7 y7 z8_ t8 y8 z9_ t9 y9 z10_ t10 y10 G9 NR
     generalize yI w7 (w.heap.size+1+1+1) (.string id) (.string ti) (.int .i64 st) (.int .i64 lg) (.string f) (.int .i64 e) (.slice ra rn rc) (.int .i64 c) (.int .i64 u) (.slice sa sn sc) (.slice ma mn mc)=w9 at nB MR9 NR9 gB ⊢
     obtain ⟨c0,c1,c2,c3,c4,c5,c6,c7,c8,c9,aa⟩:=zK nB
     exact bodyPost_ret (v:= .tuple #[.agg (eV id ti st lg f e ra rn rc c u sa sn sc ma mn mc),(.slice na 1 nc)]) (by simp [results,Tryz.f27,go_sem,c0,c1,c2,c3,c4,c5,c6,c7,c8,c9,aa]) rfl ⟨_,_,_,_,_,_,_,_,_,_,_,_,_,_,_,_,_,_,rfl,NR9.out,MR9.out,gB⟩
   ·have HJN:Hid (¬ jCs E1 E2 E3 6=[]):=fun q=>hn0 (by rw [HNL.out,q];rfl)
    have hn1: ¬ ((n:Int)=0):=by omega
    have hm0:Hid (jCs E1 E2 E3 6=[]→MEL w0 wr (jE E1 E2 E3) id ti f st lg e c u (.slice ra rn rc) (.slice sa sn sc) (.slice ma mn mc)):=HM6.out
    clear hn0
    go_upto_region 36 with fail
    clear e0 e1 e2 e3 e4 e5 e6 e7 e8 e9 e10 EE
    obtain ⟨y0,y1,y2,y3,y4,y5,y6,y7,y8,y9,y10⟩:=zK HWR.out.e
    obtain ⟨t0,t1,t2,t3,t4,t5,t6,t7,t8,t9,t10⟩:=zK HWR.out.z
    obtain ⟨z0_,z1_,z2_,z3_,z4_,z5_,z6_,z7_,z8_,z9_,z10_⟩:=frz HWR.out.z
    go_wp2
    rw [zX]
    have G9:=zT wr (w.heap.size+1+1+1) (.string id) (.string ti) (.int .i64 st) (.int .i64 lg) (.string f) (.int .i64 e) (.slice ra rn rc) (.int .i64 c) (.int .i64 u) (.slice sa sn sc) (.slice ma mn mc)
    have nB:=zk (.string id) (.string ti) (.int .i64 st) (.int .i64 lg) (.string f) (.int .i64 e) (.slice ra rn rc) (.int .i64 c) (.int .i64 u) (.slice sa sn sc) (.slice ma mn mc) HWR.out.z
    have NR:=yp (B:=w.heap.size+1+1+1) (HN6.out) G9 (by omega)
    have MR9:Hid (P6→MEL w0 (yI wr (w.heap.size+1+1+1) (.string id) (.string ti) (.int .i64 st) (.int .i64 lg) (.string f) (.int .i64 e) (.slice ra rn rc) (.int .i64 c) (.int .i64 u) (.slice sa sn sc) (.slice ma mn mc)) (jE E1 E2 E3) id ti f st lg e c u (.slice ra rn rc) (.slice sa sn sc) (.slice ma mn mc)):=fun q=>(hm0.out (HP6.out.1 q)).put HWR.out.z (by decide) (by decide) G9
    have gB:=zy HWR.out.b G9 (by omega)
    have NR9:Hid (NmR w.heap.size (yI wr (w.heap.size+1+1+1) (.string id) (.string ti) (.int .i64 st) (.int .i64 lg) (.string f) (.int .i64 e) (.slice ra rn rc) (.int .i64 c) (.int .i64 u) (.slice sa sn sc) (.slice ma mn mc)) (.slice ba n bc) CVL):=by
     show NmR _ _ _ _
     rw [HCV.out,if_neg HJN.out]
     exact zW NR (by omega)
    clear z0_ t0 y0 z1_ t1 y1 z2_ t2 y2 z3_ t3 y3 z4_ t4 y4 z5_ t5 y5 z6_ t6 y6 z7_ t7 y7 z8_ t8 y8 z9_ t9 y9 z10_ t10 y10 G9 NR
    generalize yI wr (w.heap.size+1+1+1) (.string id) (.string ti) (.int .i64 st) (.int .i64 lg) (.string f) (.int .i64 e) (.slice ra rn rc) (.int .i64 c) (.int .i64 u) (.slice sa sn sc) (.slice ma mn mc)=w9 at nB MR9 NR9 gB ⊢
    obtain ⟨c0,c1,c2,c3,c4,c5,c6,c7,c8,c9,aa⟩:=zK nB
    exact bodyPost_ret (v:= .tuple #[.agg (eV id ti st lg f e ra rn rc c u sa sn sc ma mn mc),(.slice ba n bc)]) (by simp [results,Tryz.f27,go_sem,c0,c1,c2,c3,c4,c5,c6,c7,c8,c9,aa]) rfl ⟨_,_,_,_,_,_,_,_,_,_,_,_,_,_,_,_,_,_,rfl,NR9.out,MR9.out,gB⟩
def zh9(base:Nat)(W:World)(v:Value)(cs:List (ByteArray×ByteArray)):Prop:=W.ownsRow base 70 2 v cs.length (cs.flatMap fun c=>[.string c.1,.string c.2])
theorem zfx: ∀ (cs:List (ByteArray×ByteArray))(j:Nat)(h:j<cs.length),(cs.flatMap fun c=>[Value.string c.1,.string c.2])[j*2]? =some (.string cs[j].1)∧(cs.flatMap fun c=>[Value.string c.1,.string c.2])[j*2+1]? =some (.string cs[j].2)
 |[],j,h=>absurd h (Nat.not_lt_zero _)
 |c::r,0,_=>⟨rfl,rfl⟩
 |c::r,j+1,h=>by
  have:=zfx r j (by simpa using h)
  rw [List.flatMap_cons]
  constructor
  ·rw [List.getElem?_append_right (by simp;omega)]
   have e:(j+1)*2 - [Value.string c.1,Value.string c.2].length=j*2:=by simp;omega
   rw [e]
   exact this.1
  ·rw [List.getElem?_append_right (by simp;omega)]
   have e:(j+1)*2+1 - [Value.string c.1,Value.string c.2].length=j*2+1:=by simp;omega
   rw [e]
   exact this.2
theorem zb7{base n:Nat}{W:World}{t:TypeId}{a:Option Addr}{c:Nat}{cs:List (ByteArray×ByteArray)}(h:W.ownsRow base t 2 (.slice a n c) n (cs.flatMap fun c=>[.string c.1,.string c.2]))(hn:n=cs.length){j:Nat}(hj:j<cs.length):
  ∃ g,a=some ⟨g,0,none⟩∧g<W.heap.size∧W.cell? ⟨g,j*2,none⟩=some (.string cs[j].1)∧W.cell? ⟨g,j*2+1,none⟩=some (.string cs[j].2):=by
 rcases h.2 with ⟨_,h0⟩|⟨g,cap,cur,hv,hb,hg,_,_,_,htake⟩
 ·omega
 ·injection hv with e1 e2 e3
  obtain ⟨q1,q2⟩:=zfx cs j hj
  rw [←htake,List.getElem?_take_of_lt (by omega),Array.getElem?_toList] at q1 q2
  refine ⟨g,e1,(Array.getElem?_eq_some_iff.1 hg).1,?_,?_⟩
  ·simp only [World.cell?,hg];simpa using q1
  ·simp only [World.cell?,hg];simpa using q2
set_option maxHeartbeats 2000000 in
set_option maxRecDepth 100000 in
theorem vf(b1 b2:Nat)(v1 v2:Value)(cs:List (ByteArray×ByteArray))(w:World)(h1:ClR b1 w v1 cs)(h2:zh9 b2 w v2 cs)(hl:cs.length≤10000):
  Calls Tryz.prog 9 #[v1,v2] w fun r w'=>r= .returned (.bool true)∧Below w.heap.size w w':=by
 obtain ⟨n,hn⟩: ∃ n,n=cs.length:=⟨_,rfl⟩
 unfold ClR at h1
 unfold zh9 at h2
 rw [←hn] at h1 h2
 obtain ⟨a1,c1,rfl⟩: ∃ a c,v1= .slice a n c:=by
  rcases h1.2 with ⟨e,h0⟩|⟨g,cap,cur,hv,_⟩
  ·exact ⟨none,0,by rw [e,h0]⟩
  ·exact ⟨_,_,hv⟩
 obtain ⟨a2,c2,rfl⟩: ∃ a c,v2= .slice a n c:=by
  rcases h2.2 with ⟨e,h0⟩|⟨g,cap,cur,hv,_⟩
  ·exact ⟨none,0,by rw [e,h0]⟩
  ·exact ⟨_,_,hv⟩
 have H1:Hid (∀ (j:Nat) (hj:j<cs.length),∃ g,a1=some ⟨g,0,none⟩∧g<w.heap.size∧w.cell? ⟨g,j*2,none⟩=some (.string cs[j].1)∧w.cell? ⟨g,j*2+1,none⟩=some (.string cs[j].2)):=fun j hj=>zb7 h1 hn hj
 have H2:Hid (∀ (j:Nat) (hj:j<cs.length),∃ g,a2=some ⟨g,0,none⟩∧g<w.heap.size∧w.cell? ⟨g,j*2,none⟩=some (.string cs[j].1)∧w.cell? ⟨g,j*2+1,none⟩=some (.string cs[j].2)):=fun j hj=>zb7 h2 hn hj
 have HN:=hid hn
 have hni:(n:Int)≤10000:=by omega
 clear h1 h2 hn
 go_enter Tryz.func9,Tryz.ntmps9
 go_wp2
 go_loopw [5] (fun iv wr=> ∃ m:Nat,m≤n∧iv= .int .i64 m∧Hid (Below w.heap.size w wr)) (fun iv _=>n - (intOf iv).toNat)
 case atStart=>exact ⟨0,Nat.zero_le _,rfl,Below.refl _ _⟩
 case round=>
  obtain ⟨m,hm,rfl,HB⟩:=hrel
  by_cases hlt:m<n
  ·have hmc:m<cs.length:=by have:=HN.out;omega
   obtain ⟨g1,rfl,hg1,x1,x2⟩:=H1.out m hmc
   obtain ⟨g2,rfl,hg2,y1,y2⟩:=H2.out m hmc
   have z1:wr.cell? ⟨g1,m*2,none⟩=some (.string cs[m].1):=(World.cell?_of_block (a:=⟨g1,m*2,none⟩) (HB.out.block _ hg1)).trans x1
   have z2:wr.cell? ⟨g1,m*2+1,none⟩=some (.string cs[m].2):=(World.cell?_of_block (a:=⟨g1,m*2+1,none⟩) (HB.out.block _ hg1)).trans x2
   have z3:wr.cell? ⟨g2,m*2,none⟩=some (.string cs[m].1):=(World.cell?_of_block (a:=⟨g2,m*2,none⟩) (HB.out.block _ hg2)).trans y1
   have z4:wr.cell? ⟨g2,m*2+1,none⟩=some (.string cs[m].2):=(World.cell?_of_block (a:=⟨g2,m*2+1,none⟩) (HB.out.block _ hg2)).trans y2
   generalize cs[m].1=s1 at z1 z3
   generalize cs[m].2=s2 at z2 z4
   have i1:(0:Int)≤(m:Int):=by omega
   have i2:(m:Int)<(n:Int):=by omega
   clear x1 x2 y1 y2
   go_upto_region 6 with fail
   have Z1:=cell_regrown z1
   have Z2:=cell_regrown z2
   have Z3:=cell_regrown z3
   have Z4:=cell_regrown z4
   refine wp_region_quiet_below (by kernel_rfl) (by kernel_rfl) ?_
   repeat (quiet_step (fail))
   refine wpQuiet_nil ?_
   intro W7 hw'
   have HB7:Hid (Below w.heap.size w W7):=by
    obtain ⟨⟨dq,osq⟩,hw''⟩:=hw'
    subst hw''
    exact zB HB.out (below_regrown _ _ _)
   clear hw' Z1 Z2 Z3 Z4 z1 z2 z3 z4
   go_wp2
   refine ⟨⟨m+1,by omega,by go_num,HB7.out⟩,?_⟩
   simp [intOf];omega
  ·have g2:(n:Int)≤(m:Int):=by omega
   go_wp2
   go_ret
   exact ⟨rfl,HB.out⟩
def zbx:Code→Option Code
 | .block _ c=>zbx c
 | .scope c=>zbx c
 | .seq a b=>if (zac a).isSome then (zbx a).orElse fun _=>zac b else zbx b
 |_=>none
noncomputable def zj6:Code:=((Tryz.f8.body.bind zbx).getD .skip)
theorem zeF:(Tryz.prog.info? 70).map (fun i=>(i.zero,i.size,i.bytes))=some (some (.agg #[.string ⟨#[]⟩,.string ⟨#[]⟩]),2,32):=by kernel_rfl
theorem yu(W:World)(x y:ByteArray): ∀ (j:Nat) (v:Value),[Value.string x,.string y][j]? =some v→(W.alloc (.cells #[.string x,.string y] 70)).cell? ((⟨W.heap.size,0,none⟩:Addr).add j)=some v:=fun j v hv=>by
 match j,hv with
 |0,hv=>simp at hv;subst hv;simp [Addr.add]
 |1,hv=>simp at hv;subst hv;simp [Addr.add]
theorem zb8{W:World}{a:Addr}{u v:Value}{t:TypeId}(h:W.cell? a=some u)(ho:W.heap[a.block]? =some (.cells #[v] t (0,0))):u=v:=by
 unfold World.cell? at h
 rw [ho] at h
 dsimp only at h
 split at h
 ·cases h
 ·cases hq:a.off with
  |zero=>rw [hq] at h;simpa using h.symm
  |succ k=>rw [hq] at h;simp at h
theorem Got.off{W W':World}{sl:Value}{ds:List Int}{ob:Nat}{a1:Option Addr}{n1 c1:Nat}{t:TypeId}(h:Got W sl ds)(ho:W.heap[ob]? =some (.cells #[.slice a1 n1 c1] t (0,0)))(g:W.grownBy W' (some ob)):Got W' sl ds:=by
 obtain ⟨a,cap,h1,h2,h3⟩:=h
 refine ⟨a,cap,h1,h2,fun ad e j hj=> ?_⟩
 obtain ⟨h4,h5⟩:=h3 ad e j hj
 refine ⟨Nat.lt_of_lt_of_le h4 g.size,(World.cell?_of_block (a:=ad.add j) (g.block _ (by rw [zi];exact h4) (fun q=> ?_))).trans h5⟩
 have q':(ad.add j).block=ob:=Option.some.inj q
 rw [←q'] at ho
 cases zb8 h5 ho
theorem GotM.off{W W':World}{sl:Value}{ms:List (Int×Int)}{ob:Nat}{a1:Option Addr}{n1 c1:Nat}{t:TypeId}(h:GotM W sl ms)(ho:W.heap[ob]? =some (.cells #[.slice a1 n1 c1] t (0,0)))(g:W.grownBy W' (some ob)):GotM W' sl ms:=by
 obtain ⟨a,cap,h1,h2,h3⟩:=h
 refine ⟨a,cap,h1,h2,fun ad e j hj=> ?_⟩
 obtain ⟨h4,h5,h6⟩:=h3 ad e j hj
 have hne:some ad.block≠some ob:=fun q=>by
  have q':(ad.add (j*2)).block=ob:=by rw [zi];exact Option.some.inj q
  rw [←q'] at ho
  cases zb8 h5 ho
 exact ⟨Nat.lt_of_lt_of_le h4 g.size,(World.cell?_of_block (a:=ad.add (j*2)) (g.block _ (by rw [zi];exact h4) (by rw [zi];exact hne))).trans h5,(World.cell?_of_block (a:=ad.add (j*2+1)) (g.block _ (by rw [zi];exact h4) (by rw [zi];exact hne))).trans h6⟩
theorem XRd.off{W W':World}{X:EX}{ob:Nat}{a1:Option Addr}{n1 c1:Nat}{t:TypeId}(h:XRd W X)(ho:W.heap[ob]? =some (.cells #[.slice a1 n1 c1] t (0,0)))(g:W.grownBy W' (some ob)):XRd W' X:=⟨h.1.off ho g,h.2.1.off ho g,h.2.2.1.off ho g,h.2.2.2⟩
structure MOW(w2 W:World)(ob:Nat)(vo bv:Value)(Os:List EX)(cl:List (ByteArray×ByteArray)):Prop where
 g:w2.grownBy W (some ob)
 o:W.heap[ob]? =some (.cells #[vo] 27 (0,0))
 m: ∃ base,MR base W vo Os
 k: ∀ X∈Os,X.ok
 x:cl=[]→ ∀ X∈Os,XRd W X
 c:zh9 w2.heap.size W bv cl
 h:ob<w2.heap.size
theorem zeG{A B C:World}{r:Option Nat}(h:A.grownBy B r)(k:Below B.heap.size B C):A.grownBy C r:=⟨k.os.trans h.os,k.tape.trans h.tape,k.output.trans h.output,Nat.le_trans h.size k.size,fun i hi q=>(k.block i (Nat.lt_of_lt_of_le hi h.size)).trans (h.block i hi q)⟩
theorem MOW.step{w2 W W':World}{ob:Nat}{vo bv:Value}{Os:List EX}{cl:List (ByteArray×ByteArray)}(h:MOW w2 W ob vo bv Os cl)(hb:Below W.heap.size W W'):MOW w2 W' ob vo bv Os cl:=by
 obtain ⟨base,hm⟩:=h.m
 exact ⟨zeG h.g hb,(hb.block _ (Array.getElem?_eq_some_iff.1 h.o).1).trans h.o,⟨base,hm.far (fun k _ hk=>hb.block k hk)⟩,h.k,fun q X hX=>(h.x q X hX).step hb,zU h.c hb,h.h⟩
theorem MOW.bel{w w2 W:World}{ob:Nat}{vo bv:Value}{Os:List EX}{cl:List (ByteArray×ByteArray)}(h:MOW w2 W ob vo bv Os cl)(hb:Below w.heap.size w w2)(ho:w.heap.size≤ob):Below w.heap.size w W:=zy hb h.g ho
theorem MOW.add{w2 W W':World}{ob:Nat}{vo bv v':Value}{Os:List EX}{cl:List (ByteArray×ByteArray)}{x y:ByteArray}(h:MOW w2 W ob vo bv Os cl)(ho:W'.ownsRow w2.heap.size 70 2 v' (cl.length+1) ((cl.flatMap fun c=>[Value.string c.1,.string c.2])++[.string x,.string y]))(hg:W.grownBy W' bv.ownBlock):MOW w2 W' ob vo v' Os (cl++[(x,y)]):=by
 obtain ⟨base,hm⟩:=h.m
 have hne:bv.ownBlock≠some ob:=yN h.c h.o (by decide)
 have hs:=h.g.size
 have hh:=h.h
 refine ⟨⟨hg.os.trans h.g.os,hg.tape.trans h.g.tape,hg.output.trans h.g.output,Nat.le_trans h.g.size hg.size,fun i hi q=> ?_⟩,?_,⟨base,?_⟩,h.k,fun q=>by simp at q,?_,h.h⟩
 ·refine (hg.block i (by omega) (fun z=> ?_)).trans (h.g.block i hi q)
  have:=(World.ownsRow.lt h.c i z.symm).1
  omega
 ·exact (hg.block ob (by omega) (fun z=>hne z.symm)).trans h.o
 ·by_cases hz:vo.ownBlock=bv.ownBlock
  ·cases hb:vo.ownBlock with
   |none=>exact World.ownsRow.kept hm hg (.inl hb)
   |some z=>exact absurd (zh7 hm h.c hb (hz▸hb)) (by decide)
  ·exact World.ownsRow.kept hm hg (.inr hz)
 ·unfold zh9
  rw [List.length_append,List.flatMap_append]
  exact ho
theorem MOW.put{w2 W:World}{ob base:Nat}{oa:Option Addr}{on oc:Nat}{bv v':Value}{Os Ps:List EX}{cl:List (ByteArray×ByteArray)}(h:MOW w2 W ob (.slice oa on oc) bv Os cl)(hr:MR base W v' Ps)(hk: ∀ X∈Ps,X.ok)(hx:cl=[]→ ∀ X∈Ps,XRd W X):MOW w2 (W.setCell ⟨ob,0,none⟩ v') ob v' bv Ps cl:=by
 have g:=zG W ⟨ob,0,none⟩ v'
 have hs:=h.g.size
 refine ⟨⟨g.os.trans h.g.os,g.tape.trans h.g.tape,g.output.trans h.g.output,Nat.le_trans h.g.size g.size,fun i hi q=>(g.block i (by omega) q).trans (h.g.block i hi q)⟩,zM (i:=0) v' h.o,⟨base,World.ownsRow.kept hr g (.inr (yN hr h.o (by decide)))⟩,hk,fun q X hX=>(hx q X hX).off h.o g,World.ownsRow.kept h.c g (.inr (yN h.c h.o (by decide))),h.h⟩
theorem zj7(E:EV)(hE:EW E)(h20:E.ds.length≤20)(sl skv mvv:Value)(W:World)(q1:Got W sl E.ds)(q2:Got W skv E.sk)(q3:GotM W mvv E.mv):Calls Tryz.prog 39 #[ev E sl skv mvv] W fun r w'=>r= .returned (.int .i64 0)∧Below W.heap.size W w':=by
 obtain ⟨kr,hkr⟩:=jP E.f E.e E.ds E.c E.u
 obtain ⟨k,hk⟩:=vV E
 have k0:=(jM hk).2 hE
 subst k0
 obtain ⟨b1,b2,_⟩:=yX hE.ls
 have b3:=hE.id
 have b4:=hE.ti
 unfold zdX at b3
 unfold zfe at b4
 exact yx E sl skv mvv 0 kr W q1 q2 q3 (by omega) (by omega) (by omega) (by omega) hkr hk (fun W' hG=>yf _ _ _ _ _ _ kr W' hG h20 hkr)
theorem zq{W W':World}{b:Nat}{o:Obj}(h:Below W.heap.size W W')(hb:W.heap[b]? =some o):W'.heap[b]? =some o:=(h.block b (Array.getElem?_eq_some_iff.1 hb).1).trans hb
theorem jB{V W W':World}{b:Nat}{o:Obj}(h:Below W.heap.size W W')(hV:W.heap=V.heap.push o)(hb:V.heap.size=b):W'.heap[b]? =some o:=zq h (by rw [hV,←hb];simp)
structure MoMid(w5 wr wx:World)(eb mb:Nat)(cs:Array Value)(cv:Value)(CVL:List ByteArray)(L:World→Prop):Prop where
 m:wx.heap[mb]? =some (.cells cs 48 (0,0))
 b:Below w5.heap.size w5 wx
 l:w5.heap.size≤mb
 z:wx.heap[eb]? =some (.cells #[.string ⟨#[]⟩,.string ⟨#[]⟩,.int .i64 0,.int .i64 0,.string ⟨#[]⟩,.int .i64 0,.slice none 0 0,.int .i64 0,.int .i64 0,.slice none 0 0,.slice none 0 0] 48 (0,0))
 n:NmR wr.heap.size wx cv CVL
 e:CVL=[]→L wx
theorem zia{w5 w6 wr wm:World}{eb:Nat}{cs:Array Value}{cv:Value}{CVL:List ByteArray}{L:World→Prop}(h56:Below w5.heap.size w5 w6)(he6:w6.heap[eb]? =some (.cells zA 48 (0,0)))(hb:Below w6.heap.size w6 wm)(hn:NmR wr.heap.size wm cv CVL)(hL:CVL=[]→L wm)(hst: ∀ W W',Below W.heap.size W W'→L W→L W'):MoMid w5 wr (wm.alloc (.cells cs 48)) eb wm.heap.size cs cv CVL L:=
 ⟨zJ _ rfl,zB h56 (zB hb (zC _ _)),(zB h56 hb).size,zq (zC _ _) (zq hb he6),zU hn (zC _ _),fun q=>hst _ _ (zC _ _) (hL q)⟩
theorem zlb{w5 w6 wr wm wx:World}{eb mb:Nat}{cs:Array Value}{cv:Value}{CVL:List ByteArray}{L:World→Prop}(h56:Below w5.heap.size w5 w6)(hs6:w5.heap.size<w6.heap.size)(heb:w5.heap.size=eb)(he6:w6.heap[eb]? =some (.cells zA 48 (0,0)))(hb:Below w6.heap.size w6 wm)(hmb:w6.heap.size≤mb)(hz:wm.heap[mb]? =some (.cells zA 48 (0,0)))(g:wm.grownBy wx (some mb))(hx:wx.heap[mb]? =some (.cells cs 48 (0,0)))(hn:NmR wr.heap.size wm cv CVL)(hL:CVL=[]→L wm)(hst: ∀ W W' B cs fr,W.heap[B]? =some (.cells cs 48 fr)→W.grownBy W' (some B)→L W→L W'):MoMid w5 wr wx eb mb cs cv CVL L:=by
 refine ⟨hx,zy (zB h56 hb) g (by omega),by omega,?_,World.ownsRow.kept hn g (.inr (yN hn hz (by decide))),fun q=>hst _ _ _ _ _ hz g (hL q)⟩
 have h1:=zq hb he6
 exact (g.block eb (Array.getElem?_eq_some_iff.1 h1).1 (fun q=>by have:eb=mb:=Option.some.inj q;omega)).trans h1
theorem zm7(o1 o2 o3:Option EV):(∃ o,pkT (eOp o1) (eOp o2) (eOp o3)=(eOp o,true)∧jR o1 o2 o3= .inl o∧(o=o2∨o=o3))∨
  (pkT (eOp o1) (eOp o2) (eOp o3)=(⟨#[]⟩,false)∧jR o1 o2 o3=match o1,o2,o3 with
   |some E1,some E2,some E3=>open Classical in if jCs E1 E2 E3 6=[] then (if EW (jE E1 E2 E3) then .inl (some (jE E1 E2 E3)) else .inr [jZ]) else .inr (jCs E1 E2 E3 6)
   |_,_,_=> .inr [jZ]):=by
 unfold pkT jR
 by_cases h1:eOp o2=eOp o3
 ·rw [if_pos h1,if_pos (.inl h1)]
  exact .inl ⟨o2,rfl,rfl,.inl rfl⟩
 ·by_cases h2:eOp o2=eOp o1
  ·have h3: ¬ (eOp o2=eOp o3∨eOp o3=eOp o1):=fun q=>by rcases q with q|q;exact h1 q;exact h1 (h2.trans q.symm)
   rw [if_neg h1,if_pos h2,if_neg h3,if_pos h2]
   exact .inl ⟨o3,rfl,rfl,.inr rfl⟩
  ·by_cases h3:eOp o3=eOp o1
   ·rw [if_neg h1,if_neg h2,if_pos h3,if_pos (.inr h3)]
    exact .inl ⟨o2,rfl,rfl,.inl rfl⟩
   ·have h4: ¬ (eOp o2=eOp o3∨eOp o3=eOp o1):=fun q=>by rcases q with q|q;exact h1 q;exact h3 q
    rw [if_neg h1,if_neg h2,if_neg h3,if_neg h4,if_neg h2]
    exact .inr ⟨rfl,rfl⟩
theorem zms{Xs:List EX}(hR:Rises (Xs.map EX.E))(m:Nat)(h:m<Xs.length):lkC (Xs.map EX.E) Xs[m].E.id=some Xs[m].E:=by
 cases hq:lkC (Xs.map EX.E) Xs[m].E.id with
 |none=>exact absurd ⟨Xs[m].E,List.mem_map_of_mem (List.getElem_mem h),rfl⟩ (zcE hq)
 |some F=>
  obtain ⟨h1,h2⟩:=yM hq
  rw [hR.uniq h1 (List.mem_map_of_mem (List.getElem_mem h)) h2]
theorem zmt{Xs:List EX}{id:ByteArray}(h: ¬ ∃ X∈Xs,X.E.id=id):lkC (Xs.map EX.E) id=none:=by
 cases hq:lkC (Xs.map EX.E) id with
 |none=>rfl
 |some F=>
  obtain ⟨h1,h2⟩:=yM hq
  obtain ⟨X,hX,rfl⟩:=List.mem_map.1 h1
  exact absurd ⟨X,hX,h2⟩ h
theorem zib(base:Nat)(x:ByteArray)(v:Value)(Xs:List EX)(w:World)(hR:MR base w v Xs)(h8:Xs.length≤1000)(hg: ∀ X∈Xs,XRd w X)(hs:Rises (Xs.map EX.E)):
  Calls Tryz.prog 24 #[.agg #[v],.string x] w fun r w'=>r= .returned (.string (eOp (lkC (Xs.map EX.E) x)))∧Below w.heap.size w w':=by
 refine Calls.mono (zeE base x v Xs w hR h8 hg) ?_
 rintro r w' ⟨⟨m,hm,rfl,rfl⟩|⟨hn,rfl⟩,hb⟩
 ·rw [zms hs m hm];exact ⟨rfl,hb⟩
 ·rw [zmt hn];exact ⟨rfl,hb⟩
end Go.Proofs.YtpeafgddbbojaaaGreatDoor
