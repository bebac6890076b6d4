/- Proved: the law MergeThree returns true for every three lists of events, and each argument reads afterwards as it read before; the listed package-level variables hold what the program's own text lays in them (the card's tie). -/
import Derived.Test.YtpeafgddbbojaaaGreatDoorJqAA
import Derived.Test.YtpeafgddbbojaaaGreatDoorJqAS
import Derived.Test.YtpeafgddbbojaaaGreatDoorJqBA
import Derived.Test.YtpeafgddbbojaaaGreatDoorRows
import Derived.JoinedOf
import Derived.Test.YtpeafgddbbojaaaGreatDoorCards
import Derived.Test.YtpeafgddbbojaaaGreatDoorTie
import Derived.Test.YtpeafgddbbojaaaGreatDoorJqAF
namespace Go.Proofs.YtpeafgddbbojaaaGreatDoor
open Go Go.RowKit Go.Maps Go.Sort Cal
attribute [local go_sem] Oper.semAt_some
structure MBM(W:World)(lo bb:Nat)(mo:Option Nat)(n:Nat)(C:List EV)(v:Value)(Xs:List EX):Prop where
 b:BookAt lo W bb mo n C
 n:n≤70
 r: ∃ base,MR base W v Xs
 e:Xs.map EX.E=C
 x: ∀ X∈Xs,XRd W X
theorem MBM.step{W W':World}{lo bb:Nat}{mo:Option Nat}{n:Nat}{C:List EV}{v:Value}{Xs:List EX}(h:MBM W lo bb mo n C v Xs)(hb:Below W.heap.size W W'):MBM W' lo bb mo n C v Xs:=by
 obtain ⟨base,hr⟩:=h.r
 exact ⟨h.b.step hb,h.n,⟨base,hr.far (fun k _ hk=>hb.block k hk)⟩,h.e,fun X hX=>(h.x X hX).step hb⟩
theorem zcv(Es:List EV)(v:Value)(s:Nat→Addr)(w:World)(g:GlobK s w)(hE:EvsL w v Es)(h70:Es.length≤70)(hl: ∀ E∈Es,zaV E=0):
  Calls Tryz.prog 6 #[v] w fun r w'=> ∃ lo bb mo n va vn vc Xs,r= .returned (.tuple #[.pointer (some ⟨bb,0,none⟩),.agg #[.slice va vn vc]])∧MBM w' lo bb mo n (yr Es) (.slice va vn vc) Xs∧Below w.heap.size w w':=by
 refine Calls.mono (zfQ Es v s w g hE h70 hl) ?_
 rintro r w' ⟨bb,mo,n,vm,Xs,rfl,_,h1,h2,hmr,he,hx,h3⟩
 obtain ⟨oa,oc,rfl,_,_⟩:=hmr.form
 refine ⟨_,bb,mo,n,_,_,_,Xs,rfl,⟨h1,h2,⟨_,hmr⟩,he,fun X hX=> ?_⟩,h3⟩
 obtain ⟨q1,q2,q3,q4⟩:=hx X hX
 exact ⟨q1.step h3,q2.step h3,q3.step h3,(zg8 q4).2.1,(vd h1 X.E (by rw [←he];exact List.mem_map_of_mem hX)).1⟩
theorem zcw{lo bb n:Nat}{mo:Option Nat}{C:List EV}{v:Value}{Xs:List EX}{s:Nat→Addr}{w:World}(g:GlobM s w)(h:MBM w lo bb mo n C v Xs)(hC:C.length≤60)(W:World)(hW:Below w.heap.size w W):
  Calls Tryz.prog 10 #[.pointer (some ⟨bb,0,none⟩),.agg #[v]] W fun r w'=>r= .returned (.int .i64 1)∧Below W.heap.size W w':=by
 obtain ⟨base,hr⟩:=h.r
 exact zbO lo bb n mo C base v Xs s W w hW (g.step hW).gk (g.step hW).gr (h.b.step hW) (Nat.le_trans h.n (by decide)) hC (hr.far (fun k _ hk=>hW.block k hk)) (fun X hX=>(h.x X hX).got) h.e
set_option maxHeartbeats 8000000 in
set_option maxRecDepth 100000 in
theorem zgb(E1 E2 E3:List EV)(v1 v2 v3:Value)(s:Nat→Addr)(w:World)(g:GlobM s w)(h1:EvsL w v1 E1)(h2:EvsL w v2 E2)(h3:EvsL w v3 E3):
  Calls Tryz.prog 3 #[v1,v2,v3] w fun r w'=>r= .returned (.bool true)∧Below w.heap.size w w':=by
 have DF:=hid (zga s w g)
 have HG:=hid g
 have LE:Hid (∀ (v:Value) (E:List EV) W,EvsL w v E→Below w.heap.size w W→Calls Tryz.prog 5 #[v] W fun r w'=> ∃ k:Int,r= .returned (.int .i64 k)∧(k=1∨(k=0∧E.length≤70∧ ∀ F∈E,zaV F=0))∧Below W.heap.size W w'):=fun v E W h hW=>zbB E v W (h.step hW)
 have HV1:=hid h1
 have HV2:=hid h2
 have HV3:=hid h3
 clear g h1 h2 h3
 go_enter Tryz.func3,Tryz.ntmps3
 go_upto_region 2 with (go_at_call 4;refine Calls.mono DF.out ?_;rintro r w1 ⟨rfl,hb1⟩)
 have B1:=hid hb1
 clear hb1 DF
 go_upto_if 31 with (first
  |(go_at_call_of 5 v1;refine Calls.mono (LE.out v1 E1 _ HV1.out B1.out) ?_;rintro r w2 ⟨k1,rfl,hk1,hb2⟩;have B2:=hid (zB B1.out hb2);have HK1:=hid hk1;have p1:0≤k1∧k1≤1:=(by rcases hk1 with rfl|⟨rfl,_⟩<;>decide);clear hk1 hb2)
  |(go_at_call_of 5 v2;refine Calls.mono (LE.out v2 E2 _ HV2.out B2.out) ?_;rintro r w3 ⟨k2,rfl,hk2,hb3⟩;have B3:=hid (zB B2.out hb3);have HK2:=hid hk2;have p2:0≤k2∧k2≤1:=(by rcases hk2 with rfl|⟨rfl,_⟩<;>decide);clear hk2 hb3)
  |(go_at_call_of 5 v3;refine Calls.mono (LE.out v3 E3 _ HV3.out B3.out) ?_;rintro r w4 ⟨k3,rfl,hk3,hb4⟩;have B4:=hid (zB B3.out hb4);have HK3:=hid hk3;have p3:0≤k3∧k3≤1:=(by rcases hk3 with rfl|⟨rfl,_⟩<;>decide);clear hk3 hb4))
 by_cases hz:0<k1+k2+k3
 ·go_wp2
  go_ret
  exact ⟨rfl,B4.out⟩
 ·obtain ⟨a1,b1⟩:E1.length≤70∧ ∀ F∈E1,zaV F=0:=by
   rcases HK1.out with q|⟨_,q⟩
   ·omega
   ·exact q
  obtain ⟨a2,b2⟩:E2.length≤70∧ ∀ F∈E2,zaV F=0:=by
   rcases HK2.out with q|⟨_,q⟩
   ·omega
   ·exact q
  obtain ⟨a3,b3⟩:E3.length≤70∧ ∀ F∈E3,zaV F=0:=by
   rcases HK3.out with q|⟨_,q⟩
   ·omega
   ·exact q
  have BO1:Hid (∀ W,Below w.heap.size w W→_):=fun W hW=>zcv E1 v1 s W (HG.out.step hW).gk (HV1.out.step hW) a1 b1
  have BO2:Hid (∀ W,Below w.heap.size w W→_):=fun W hW=>zcv E2 v2 s W (HG.out.step hW).gk (HV2.out.step hW) a2 b2
  have BO3:Hid (∀ W,Below w.heap.size w W→_):=fun W hW=>zcv E3 v3 s W (HG.out.step hW).gk (HV3.out.step hW) a3 b3
  have HX60:Hid ((yr E1).length≤60):=(zaS E1).2
  have HY60:Hid ((yr E2).length≤60):=(zaS E2).2
  have HZ60:Hid ((yr E3).length≤60):=(zaS E3).2
  clear a1 b1 a2 b2 a3 b3 HK1 HK2 HK3 p1 p2 p3 LE HV1 HV2 HV3
  generalize yr E1=X at BO1 HX60
  generalize yr E2=Y at BO2 HY60
  generalize yr E3=Z at BO3 HZ60
  go_upto_region 5 with (go_at_call_of 6 v1;refine Calls.mono (BO1.out _ B4.out) ?_;rintro r w5 ⟨lx,xb,xm,xn,xa,xl,xc,Xs,rfl,hX,hb5⟩;have X5:=hid hX;have B5:=hid (zB B4.out hb5);clear hX hb5)
  have X6:Hid (MBM (w5.alloc (.cells #[.slice xa xl xc] 27)) lx xb xm xn X (.slice xa xl xc) Xs):=X5.out.step (zC _ _)
  have B6:Hid (Below w.heap.size w (w5.alloc (.cells #[.slice xa xl xc] 27))):=zB B5.out (zC _ _)
  have CX6:Hid ((w5.alloc (.cells #[.slice xa xl xc] 27)).heap[w5.heap.size]? =some (.cells #[.slice xa xl xc] 27 (0,0))):=zJ _ rfl
  clear X5 B5 B1 B2 B3 B4 BO1
  generalize w5.alloc (.cells #[.slice xa xl xc] 27)=w6 at X6 B6 CX6 ⊢
  generalize w5.heap.size=cx at CX6 ⊢
  go_upto_region 6 with (go_at_call_of 6 v2;refine Calls.mono (BO2.out _ B6.out) ?_;rintro r w7 ⟨ly,yb,ym,yn,ya,yl,yc,Ys,rfl,hY,hb7⟩;have Y7:=hid hY;have B7:=hid hb7;clear hY hb7)
  have BA8:Hid (Below w6.heap.size w6 (w7.alloc (.cells #[.slice ya yl yc] 27))):=zB B7.out (zC _ _)
  have Y8:Hid (MBM (w7.alloc (.cells #[.slice ya yl yc] 27)) ly yb ym yn Y (.slice ya yl yc) Ys):=Y7.out.step (zC _ _)
  have CY8:Hid ((w7.alloc (.cells #[.slice ya yl yc] 27)).heap[w7.heap.size]? =some (.cells #[.slice ya yl yc] 27 (0,0))):=zJ _ rfl
  clear Y7 B7 BO2
  generalize w7.alloc (.cells #[.slice ya yl yc] 27)=w8 at BA8 Y8 CY8 ⊢
  generalize w7.heap.size=cy at CY8 ⊢
  have B8:=hid (zB B6.out BA8.out)
  have X8:=hid (X6.out.step BA8.out)
  have CX8:=hid (zq BA8.out CX6.out)
  clear X6 CX6 BA8 B6
  go_upto_region 7 with (go_at_call_of 6 v3;refine Calls.mono (BO3.out _ B8.out) ?_;rintro r w9 ⟨lz,zb,zm,zn,za,zl,zc,Zs,rfl,hZ,hb9⟩;have Z9:=hid hZ;have B9:=hid hb9;clear hZ hb9)
  have BA10:Hid (Below w8.heap.size w8 (w9.alloc (.cells #[.slice za zl zc] 27))):=zB B9.out (zC _ _)
  have Z10:Hid (MBM (w9.alloc (.cells #[.slice za zl zc] 27)) lz zb zm zn Z (.slice za zl zc) Zs):=Z9.out.step (zC _ _)
  have CZ10:Hid ((w9.alloc (.cells #[.slice za zl zc] 27)).heap[w9.heap.size]? =some (.cells #[.slice za zl zc] 27 (0,0))):=zJ _ rfl
  clear Z9 B9 BO3
  generalize w9.alloc (.cells #[.slice za zl zc] 27)=w10 at BA10 Z10 CZ10 ⊢
  generalize w9.heap.size=cz at CZ10 ⊢
  have B10:=hid (zB B8.out BA10.out)
  have X10:=hid (X8.out.step BA10.out)
  have Y10:=hid (Y8.out.step BA10.out)
  have CX10:=hid (zq BA10.out CX8.out)
  have CY10:=hid (zq BA10.out CY8.out)
  clear X8 CX8 Y8 CY8 BA10 B8
  have G10:=hid (HG.out.step B10.out)
  have TH:=hid (zhU (some ⟨xb,0,none⟩) X ly yb yn ym Y lz zb zn zm Z s w10 G10.out.gk G10.out.gr (zhT X10.out.b) (vd X10.out.b) Y10.out.b Z10.out.b (Nat.le_trans Y10.out.n (by decide)) (Nat.le_trans Z10.out.n (by decide)) HY60.out HZ60.out)
  have MO:Hid (∀ W,Below w10.heap.size w10 W→Calls Tryz.prog 8 #[.agg #[.slice xa xl xc],.agg #[.slice ya yl yc],.agg #[.slice za zl zc]] W fun r w'=>Below W.heap.size W w'∧zmu W.heap.size (thr X Y Z (zai Y Z)) r w'):=fun W hW=>by
   obtain ⟨y1,r1⟩:=(X10.out.step hW).r
   obtain ⟨y2,r2⟩:=(Y10.out.step hW).r
   obtain ⟨y3,r3⟩:=(Z10.out.step hW).r
   have e1:=X10.out.e
   have e2:=Y10.out.e
   have e3:=Z10.out.e
   have q:=zeI y1 y2 y3 xa ya za xl xc yl yc zl zc Xs Ys Zs W r1 r2 r3 (X10.out.step hW).x (Y10.out.step hW).x (Z10.out.step hW).x (by rw [e1];exact X10.out.b.rises.1) (by rw [e2];exact Y10.out.b.rises.1) (by rw [e3];exact Z10.out.b.rises.1) (by rw [←List.length_map (f:=EX.E),e1];exact HX60.out) (by rw [←List.length_map (f:=EX.E),e2];exact HY60.out) (by rw [←List.length_map (f:=EX.E),e3];exact HZ60.out)
   rw [e1,e2,e3] at q
   exact q
  have AX:Hid (∀ W,Below w10.heap.size w10 W→Calls Tryz.prog 10 #[.pointer (some ⟨xb,0,none⟩),.agg #[.slice xa xl xc]] W fun r w'=>r= .returned (.int .i64 1)∧Below W.heap.size W w'):=fun W hW=>zcw G10.out X10.out HX60.out W hW
  have AY:Hid (∀ W,Below w10.heap.size w10 W→Calls Tryz.prog 10 #[.pointer (some ⟨yb,0,none⟩),.agg #[.slice ya yl yc]] W fun r w'=>r= .returned (.int .i64 1)∧Below W.heap.size W w'):=fun W hW=>zcw G10.out Y10.out HY60.out W hW
  have AZ:Hid (∀ W,Below w10.heap.size w10 W→Calls Tryz.prog 10 #[.pointer (some ⟨zb,0,none⟩),.agg #[.slice za zl zc]] W fun r w'=>r= .returned (.int .i64 1)∧Below W.heap.size W w'):=fun W hW=>zcw G10.out Z10.out HZ60.out W hW
  have HTL:Hid ((thr X Y Z (zai Y Z)).2.length≤1000∧(thr X Y Z (zai Y Z)).1.length≤60):=zkZ X Y Z _ (ze8 Y Z HY60.out HZ60.out)
  clear HX60 HY60 HZ60 X10 Y10 Z10
  generalize thr X Y Z (zai Y Z)=a at TH MO HTL
  obtain ⟨C,cl⟩:=a
  have KX:Hid (∀ W,Below w10.heap.size w10 W→W.cell? ⟨cx,0,none⟩=some (.slice xa xl xc)∧W.cell? ⟨cy,0,none⟩=some (.slice ya yl yc)∧W.cell? ⟨cz,0,none⟩=some (.slice za zl zc)):=fun W hW=>⟨zR (zq hW CX10.out),zR (zq hW CY10.out),zR (zq hW CZ10.out)⟩
  clear CX10 CY10 CZ10
  go_wp2_with fail
  go_at_call 7
  refine Calls.mono TH.out ?_
  rintro r w11 ⟨hb11,⟨hc0,mo5,n5,rfl,hS,hn5⟩|⟨hc0,vs,rfl,hS⟩⟩
  ·have hcl:cl=[]:=hc0
   subst hcl
   have B11:=hid hb11
   have HS:Hid (BookAt w10.heap.size w11 w10.heap.size mo5 n5 C∧n5≤1000):=⟨hS,hn5⟩
   clear hc0 hb11 hS hn5 TH
   obtain ⟨d1,d2,d3⟩:=KX.out w11 B11.out
   generalize hgb:w10.heap.size=gb at HS ⊢
   clear hgb
   go_upto_region 9 with (go_at_call 8;refine Calls.mono (MO.out w11 B11.out) ?_;rintro r w12 ⟨hb12,va,vn,vc,ca,cn,cc,rfl,hrc,hcn,hout⟩;have B12:=hid hb12;have HCN:=hid hcn;have HRC:=hid hrc;have HOUT:=hid (hout rfl);clear hb12 hcn hrc hout)
   have hcn:=HCN.out
   subst hcn
   clear d1 d2 d3
   have BA:Hid (Below w12.heap.size w12 (w12.alloc (.cells #[.slice va vn vc] 27))):=zC _ _
   have CW:Hid ((w12.alloc (.cells #[.slice va vn vc] 27)).heap[w12.heap.size]? =some (.cells #[.slice va vn vc] 27 (0,0))):=zJ _ rfl
   generalize w12.alloc (.cells #[.slice va vn vc] 27)=w13 at BA CW ⊢
   generalize hcw:w12.heap.size=cw at CW ⊢
   clear hcw
   have B13:=hid (zB B11.out (zB B12.out BA.out))
   have SC:Hid (Calls Tryz.prog 9 #[.slice none 0 0,.slice ca 0 cc] w13 fun r w'=>r= .returned (.bool true)∧Below w13.heap.size w13 w'):=vf 0 _ _ _ [] w13 (zhM _ _) (zU HRC.out BA.out) (by simp)
   have AG:Hid (∀ W,Below w13.heap.size w13 W→Calls Tryz.prog 10 #[.pointer (some ⟨gb,0,none⟩),.agg #[.slice va vn vc]] W fun r w'=>r= .returned (.int .i64 1)∧Below W.heap.size W w'):=fun W hW=>by
    obtain ⟨base,Os,m1,m2,m3⟩:=HOUT.out
    have hb:=zB BA.out hW
    exact zbO _ gb n5 mo5 C base _ Os s W w12 hb (G10.out.step (zB B13.out hW)).gk (G10.out.step (zB B13.out hW)).gr (HS.out.1.step (zB B12.out hb)) HS.out.2 HTL.out.2 (m1.far (fun k _ hk=>hb.block k hk)) (fun X hX=>(m3 X hX).got) m2
   clear HOUT HRC HS B12 MO BA B11
   obtain ⟨d1,d2,d3⟩:=KX.out w13 B13.out
   have e0:=zR CW.out
   go_upto_region 11 with (first
    |(go_at_call 9;refine Calls.mono SC.out ?_;rintro r w14 ⟨rfl,hb14⟩;have B14:=hid hb14;clear hb14 d1 d2 d3 e0;obtain ⟨d1,d2,d3⟩:=KX.out w14 (zB B13.out B14.out))
    |(go_at_call_of 10 (Value.pointer (some ⟨xb,0,none⟩));refine Calls.mono (AX.out w14 (zB B13.out B14.out)) ?_;rintro r w15 ⟨rfl,hb15⟩;have B15:=hid (zB B14.out hb15);clear hb15 d1 d2 d3;obtain ⟨d1,d2,d3⟩:=KX.out w15 (zB B13.out B15.out))
    |(go_at_call_of 10 (Value.pointer (some ⟨yb,0,none⟩));refine Calls.mono (AY.out w15 (zB B13.out B15.out)) ?_;rintro r w16 ⟨rfl,hb16⟩;have B16:=hid (zB B15.out hb16);clear hb16 d1 d2 d3;obtain ⟨d1,d2,d3⟩:=KX.out w16 (zB B13.out B16.out))
    |(go_at_call_of 10 (Value.pointer (some ⟨zb,0,none⟩));refine Calls.mono (AZ.out w16 (zB B13.out B16.out)) ?_;rintro r w17 ⟨rfl,hb17⟩;have B17:=hid (zB B16.out hb17);clear hb17 d1 d2 d3))
   have e1:=zR (zq B17.out CW.out)
   go_wp2_with (go_at_call 10;refine Calls.mono (AG.out w17 B17.out) ?_;rintro r w18 ⟨rfl,hb18⟩;have B18:=hid (zB B17.out hb18);clear hb18)
   go_ret
   exact ⟨rfl,zB B10.out (zB B13.out B18.out)⟩
  ·have B11:=hid hb11
   have HS:=hid hS
   have HC0:=hid hc0
   clear hc0 hb11 hS TH
   obtain ⟨d1,d2,d3⟩:=KX.out w11 B11.out
   go_upto_region 9 with (go_at_call 8;refine Calls.mono (MO.out w11 B11.out) ?_;rintro r w12 ⟨hb12,va,vn,vc,ca,cn,cc,rfl,hrc,hcn,_⟩;have B12:=hid hb12;have HCN:=hid hcn;have HRC:=hid hrc;clear hb12 hcn hrc)
   have hcn:(0:Int)<(cn:Int):=by
    have:=List.length_pos_iff.2 HC0.out
    have:=HCN.out
    omega
   clear d1 d2 d3
   have BA:Hid (Below w12.heap.size w12 (w12.alloc (.cells #[.slice va vn vc] 27))):=zC _ _
   generalize w12.alloc (.cells #[.slice va vn vc] 27)=w13 at BA ⊢
   have B13:=hid (zB B11.out (zB B12.out BA.out))
   have SC:Hid (Calls Tryz.prog 9 #[vs,.slice ca cn cc] w13 fun r w'=>r= .returned (.bool true)∧Below w13.heap.size w13 w'):=vf _ _ _ _ cl w13 (HS.out.step (zB B12.out BA.out)) (zU HRC.out BA.out) (by have z:cl.length≤1000:=HTL.out.1;omega)
   clear HRC HS B12 MO BA B11
   obtain ⟨d1,d2,d3⟩:=KX.out w13 B13.out
   go_upto_region 11 with (first
    |(go_at_call 9;refine Calls.mono SC.out ?_;rintro r w14 ⟨rfl,hb14⟩;have B14:=hid hb14;clear hb14 d1 d2 d3;obtain ⟨d1,d2,d3⟩:=KX.out w14 (zB B13.out B14.out))
    |(go_at_call_of 10 (Value.pointer (some ⟨xb,0,none⟩));refine Calls.mono (AX.out w14 (zB B13.out B14.out)) ?_;rintro r w15 ⟨rfl,hb15⟩;have B15:=hid (zB B14.out hb15);clear hb15 d1 d2 d3;obtain ⟨d1,d2,d3⟩:=KX.out w15 (zB B13.out B15.out))
    |(go_at_call_of 10 (Value.pointer (some ⟨yb,0,none⟩));refine Calls.mono (AY.out w15 (zB B13.out B15.out)) ?_;rintro r w16 ⟨rfl,hb16⟩;have B16:=hid (zB B15.out hb16);clear hb16 d1 d2 d3;obtain ⟨d1,d2,d3⟩:=KX.out w16 (zB B13.out B16.out))
    |(go_at_call_of 10 (Value.pointer (some ⟨zb,0,none⟩));refine Calls.mono (AZ.out w16 (zB B13.out B16.out)) ?_;rintro r w17 ⟨rfl,hb17⟩;have B17:=hid (zB B16.out hb17);clear hb17 d1 d2 d3))
   go_wp2
   go_ret
   exact ⟨rfl,zB B10.out (zB B13.out B17.out)⟩
end Go.Proofs.YtpeafgddbbojaaaGreatDoor
/- The closed facts of the law MergeThree's row, one by one. -/
namespace Go.Proofs.YtpeafgddbbojaaaGreatDoor
theorem zlK : Rows.mergeThreeRow.wf (OpenSpec.ofChange Rows.mergeThreeSpec) = true := by kernel_rfl
theorem zjW : laidOutB Tryz.prog = true := by kernel_rfl
theorem zlL : mapsRowed Tryz.prog = true := by kernel_rfl
theorem zlM : Tryz.f3.params.all (Tryz.prog.readableRec ·) = true := by kernel_rfl
theorem zlN : namedTie Tryz.prog Rows.mergeThreeRow.named Rows.mergeThreeSpec.vars = true := by kernel_rfl
theorem zlO : (Rows.mergeThreeRow.inPlace == Tryz.prog.inPlace 3) = true := by kernel_rfl
theorem zlP : (Rows.mergeThreeRow.unfollowed == Tryz.prog.unfollowed 3) = true := by kernel_rfl
theorem zlQ : (Rows.mergeThreeRow.recurses == Tryz.prog.recurses 3) = true := by kernel_rfl
theorem zlR : (Rows.mergeThreeRow.named == Tryz.prog.varsNamed 3) = true := by kernel_rfl
theorem zkA : (Rows.mergeThreeRow.plainKeys == Tryz.prog.plainKeys) = true := by kernel_rfl
theorem zkB : Tryz.prog.stopsHeard = true := by kernel_rfl
theorem zkC : Tryz.prog.mayEnter = true := by kernel_rfl
theorem zkD : (Rows.mergeThreeRow.lifted == Tryz.prog.liftsFinal) = true := by kernel_rfl
theorem zkE : (Tryz.prog.make == some Rows.mergeThreeRow.make) = true := by kernel_rfl
theorem zfY : joinedFacts Tryz.prog 3 Tryz.f3 Rows.mergeThreeSpec Rows.mergeThreeRow = true := by
  unfold joinedFacts
  rw [zlK, zjW, zlL, zlM, zlN, zlO, zlP, zlQ, zlR, zkA, zkB, zkC, zkD, zkE]
  kernel_rfl
end Go.Proofs.YtpeafgddbbojaaaGreatDoor
namespace Go.Proofs.YtpeafgddbbojaaaGreatDoor
open Go.ChangeShapes Go.WideShapes Go.ChangeAt Go.RowKit Cal
theorem zek:laidMetH Tryz.prog Rows.mergeThreeRow.laid=laidMet Tryz.prog Rows.mergeThreeRow.laid:=by
 funext W
 exact MakeChecks.laidMetH_plain _ _ _ (by kernel_rfl)
theorem zi5{W:World}(h:laidMetH Tryz.prog Rows.mergeThreeRow.laid W): ∃ s,GlobM s W:=by
 rw [zek] at h
 have h0:laidMet Tryz.prog Rows.mergeThreeRow.laid W:=h
 have ht:Tab W:=zmY h0.tail.tail
 have h3:=h0.tail.tail.tail.tail
 obtain ⟨a0,c0⟩:=vF h3 zmT zmU
 obtain ⟨a1,c1⟩:=vF h3.tail zlS zlT
 obtain ⟨a2,c2⟩:=vF h3.tail.tail zlU zlV
 obtain ⟨a3,c3⟩:=vF h3.tail.tail.tail zmQ zmR
 obtain ⟨a5,c5⟩:=vF h3.tail.tail.tail.tail zl0 zl1
 obtain ⟨a6,c6⟩:=vF h3.tail.tail.tail.tail.tail zmV zmW
 obtain ⟨a7,c7⟩:=vF h3.tail.tail.tail.tail.tail.tail zlW zlX
 exact ⟨zmZ a0 a1 a2 a3 a5 a6 a7,⟨c0,c1,c2,c3,c5,c6,c7⟩,⟨⟨a3,c3⟩,⟨a1,c1⟩,⟨a2,c2⟩,⟨a7,c7⟩,⟨a0,c0⟩,zi7 h3.tail.tail.tail.tail.tail.tail.tail.tail.tail,ht⟩⟩
set_option maxRecDepth 100000 in
theorem zfZ(os:Os)(started:os.Started)(H:Type)(enc:TypeId×Value→H):
  ReturnsInHanded {} Tryz.checked os 3 .any (fun w args=>(Rows.mergeThreeSpec.pre enc Tryz.prog Tryz.f3 [] false w args∧laidMetH Tryz.prog Rows.mergeThreeRow.laid w)∧sizedMet enc Tryz.prog Tryz.f3 (OpenSpec.ofChange Rows.mergeThreeSpec) false w args)
   (Rows.mergeThreeSpec.post enc Tryz.prog Tryz.f3 false true false false):=by
 refine returnsInHanded_of_change_and (C:=Tryz.checked) (X:=fun w _=>laidMetH Tryz.prog Rows.mergeThreeRow.laid w) (fun _ _ _ hh h=>h.of_heap hh) own started (by kernel_rfl) Tryz.func3
  (ChangeSpec.witness_shaped (enc:=enc) (C:=Tryz.checked) (os:=os) (X:=fun w _=>laidMetH Tryz.prog Rows.mergeThreeRow.laid w) false (World.laidAll Tryz.prog os Rows.mergeThreeRow.laid)
   #[.slice none 0 0,.slice none 0 0,.slice none 0 0] 8 (World.laidAll_os _ _ _)
   (World.shaped_of_ZipB (by kernel_rfl) (by kernel_rfl)) (by kernel_rfl) (by kernel_rfl) (by kernel_rfl)
   (by rw [MakeChecks.laidMetH_plain _ _ _ (by kernel_rfl)];exact laidMet_laidAll _ (by kernel_rfl) (by kernel_rfl))) ?_
 intro W base args ds gs before hval0 hW _ hZ hL _
 have hval: ∀ (j:Nat) t v,Tryz.f3.params[j]? =some t→args[j]? =some v→Value.okWide Tryz.prog W .any base t v:=hval0
 have hZ':(DataW.weightsEach Tryz.prog (Tryz.f3.params.toList++Rows.mergeThreeSpec.plain.varTypes Tryz.prog) (ds++gs)).all (· ≤reachBytes)=true:=hZ
 have hW':=hW
 obtain ⟨p,q,hA0,hV,rfl,hfz,hnd⟩:=hW
 have hA:DataW.TrodAll enc Tryz.prog W 0 (fun _=>true) true Tryz.f3.params.toList args.toList ds p:=hA0
 rw [Tryz.params3] at hA hval hZ'
 obtain ⟨v0,v1,v2,d0,d1,d2,p0,p1,p2,rfl,rfl,rfl,h0,h1,h2⟩:=trodAll_three hA
 obtain ⟨rfl,rfl⟩:=trodVars_none hV
 have k0:=h0
 have k1:=h1
 have k2:=h2
 have hw0: ∀ k∈d0.weights Tryz.prog 22,k≤reachBytes:=fun k hk=>by
  have:=List.all_eq_true.1 hZ' k (DataW.weights_mem_each (j:=0) rfl rfl k hk)
  simpa using this
 have hw1: ∀ k∈d1.weights Tryz.prog 22,k≤reachBytes:=fun k hk=>by
  have:=List.all_eq_true.1 hZ' k (DataW.weights_mem_each (j:=1) rfl rfl k hk)
  simpa using this
 have hw2: ∀ k∈d2.weights Tryz.prog 22,k≤reachBytes:=fun k hk=>by
  have:=List.all_eq_true.1 hZ' k (DataW.weights_mem_each (j:=2) rfl rfl k hk)
  simpa using this
 obtain ⟨sa0,sn0,sc0,rfl⟩:=okWide_slice Tryz.underlying22 (hval 0 22 v0 rfl rfl)
 obtain ⟨sa1,sn1,sc1,rfl⟩:=okWide_slice Tryz.underlying22 (hval 1 22 v1 rfl rfl)
 obtain ⟨sa2,sn2,sc2,rfl⟩:=okWide_slice Tryz.underlying22 (hval 2 22 v2 rfl rfl)
 obtain ⟨fuel0,hf0⟩:=h0
 obtain ⟨fuel1,hf1⟩:=h1
 obtain ⟨fuel2,hf2⟩:=h2
 obtain ⟨E0,hE0⟩:=jQ hf0 hw0
 obtain ⟨E1,hE1⟩:=jQ hf1 hw1
 obtain ⟨E2,hE2⟩:=jQ hf2 hw2
 clear hA0 hval0
 simp only [List.append_nil] at hW'
 have hlt: ∀ x∈p0++(p1++p2),x.block<W.heap.size:=fun x hx=>hW'.lt x (by rw [List.append_assoc];exact hx)
 have hlt0: ∀ x∈p0,x.block<W.heap.size:=fun x hx=>hlt x (List.mem_append.2 (.inl hx))
 have hlt1: ∀ x∈p1,x.block<W.heap.size:=fun x hx=>hlt x (List.mem_append.2 (.inr (List.mem_append.2 (.inl hx))))
 have hlt2: ∀ x∈p2,x.block<W.heap.size:=fun x hx=>hlt x (List.mem_append.2 (.inr (List.mem_append.2 (.inr hx))))
 obtain ⟨s,hg⟩:=zi5 hL
 refine (zgb E0 E1 E2 _ _ _ s W hg hE0 hE1 hE2).mono fun r W' ⟨he,hb⟩=> ?_
 subst he
 have z1:laidOutB Tryz.prog=true:=zjW
 rw [List.append_assoc] at hW'
 refine ⟨_,rfl,_,_,_,[],p0++(p1++p2),[],hW',?_,?_,?_,hb.frame _,fun h=>by cases h⟩
 ·exact trodAll_mk1 (shut_bool Tryz.underlying4 true)
 ·exact trodAll_mk3 (WideElems.Trod_stays (P:=Tryz.prog) z1 (by kernel_rfl) (of_decide_eq_true (by kernel_rfl)) k0 (fun x hx=>hb.same (hlt0 x hx)) (fun x hx=>by simpa using hlt0 x hx))
   (WideElems.Trod_stays (P:=Tryz.prog) z1 (by kernel_rfl) (of_decide_eq_true (by kernel_rfl)) k1 (fun x hx=>hb.same (hlt1 x hx)) (fun x hx=>by simpa using hlt1 x hx))
   (WideElems.Trod_stays (P:=Tryz.prog) z1 (by kernel_rfl) (of_decide_eq_true (by kernel_rfl)) k2 (fun x hx=>hb.same (hlt2 x hx)) (fun x hx=>by simpa using hlt2 x hx))
 ·rfl
theorem zi6:Rows.MergeThreeSaid:=
 OpenClaim.holds_of_wide 3 Tryz.f3 rfl rfl rfl rfl rfl rfl rfl ⟨rfl,rfl,rfl,rfl,rfl⟩ rfl rfl rfl rfl rfl (by kernel_rfl) Tryz.func3 zfY
  (of_decide_eq_true (by kernel_rfl)) (by unfold Func.isWrapper;rw [if_neg (of_decide_eq_false (by kernel_rfl))];exact ⟨rfl,rfl⟩)
  (fun os started H enc _=>zfZ os started H enc)
theorem zho(f:FuncId)(fn:Func)(hf:Tryz.pinned.checked.prog.funcNamed "lammastide/lammastidelaw2.MergeThree"=some f)(hfn:Tryz.pinned.checked.prog.funcs[f]? =some fn):
  true=Tryz.pinned.checked.prog.looks []∧ ∀ (j:Nat) t,fn.params[j]? =some t→Tryz.pinned.checked.prog.wantsStandIn t=false:=by
 obtain rfl:f=3:=Option.some.inj ((show Tryz.prog.funcNamed "lammastide/lammastidelaw2.MergeThree"=some 3 by kernel_rfl).symm.trans hf) |>.symm
 obtain rfl:fn=Tryz.f3:=(Option.some.inj (Tryz.func3.symm.trans hfn)).symm
 refine ⟨by kernel_rfl,fun j t ht=> ?_⟩
 rw [Tryz.params3] at ht
 have hm:=Array.mem_of_getElem? ht
 obtain rfl:t=22:=by simpa using hm
 exact (show Tryz.prog.wantsStandIn 22=false by kernel_rfl)
theorem mergeThree_card:Rows.MergeThreeCardSaid:=
 Claim7.holds_tied_plain_at .later [] _ _ _ _ zi6 (fun _ h=>by cases h) (by kernel_rfl) (fun _ h=>by cases h) mergeThree_row_tie rfl ⟨rfl,rfl⟩ (by kernel_rfl) rfl zho (by kernel_rfl)
end Go.Proofs.YtpeafgddbbojaaaGreatDoor
