import Derived.Test.YtpeafgddbbojaaaGreatDoorJqAA
import Derived.Test.YtpeafgddbbojaaaGreatDoorJqAV
namespace Go.Proofs.YtpeafgddbbojaaaGreatDoor
open Go Go.RowKit Go.Sort Cal
attribute [local go_sem] Oper.semAt_some
structure PFW(w W:World)(cs:Array Value):Prop where
 e:W.heap[w.heap.size]? =some (.cells cs 48 (0,0))
 z:W.heap[w.heap.size+1]? =some (.cells #[.string ⟨#[]⟩,.string ⟨#[]⟩,.int .i64 0,.int .i64 0,.string ⟨#[]⟩,.int .i64 0,.slice none 0 0,.int .i64 0,.int .i64 0,.slice none 0 0,.slice none 0 0] 48 (0,0))
 b:Below w.heap.size w W
 s:w.heap.size+2≤W.heap.size
theorem PFW.step{w W W':World}{cs:Array Value}(h:PFW w W cs)(hb:Below W.heap.size W W'):PFW w W' cs:=
 ⟨(hb.block _ (by have:=h.s;omega)).trans h.e,(hb.block _ (by have:=h.s;omega)).trans h.z,zB h.b hb,Nat.le_trans h.s hb.size⟩
theorem PFW.put{w W:World}{cs:Array Value}(h:PFW w W cs)(i:Nat)(v:Value){cs':Array Value}(he:cs.setIfInBounds i v=cs'):PFW w (W.setCell ⟨w.heap.size,i,none⟩ v) cs':=by
 have g:=zG W ⟨w.heap.size,i,none⟩ v
 have hs:=h.s
 refine ⟨?_,(g.block _ (by omega) (fun q=>by have q':w.heap.size+1=w.heap.size:=Option.some.inj q;omega)).trans h.z,zy h.b g (Nat.le_refl _),Nat.le_trans h.s g.size⟩
 rw [←he]
 exact zM (i:=i) v h.e
def PF0(w:World)(cs:Array Value):World:=(w.alloc (.cells cs 48)).alloc (.cells #[.string ⟨#[]⟩,.string ⟨#[]⟩,.int .i64 0,.int .i64 0,.string ⟨#[]⟩,.int .i64 0,.slice none 0 0,.int .i64 0,.int .i64 0,.slice none 0 0,.slice none 0 0] 48)
theorem zb5(w:World)(cs:Array Value):PFW w (PF0 w cs) cs:=by
 unfold PF0
 exact ⟨zH _ (zJ _ rfl),zJ _ (by simp),zB (zC _ _) (zC _ _),by simp⟩
set_option maxHeartbeats 4000000 in
set_option maxRecDepth 100000 in
theorem zgk(id ti f:ByteArray)(st lg e c u:Int)(ra sa ma:Option Addr)(rn rc sn sc mn mc:Nat)(w:World)(s:ByteArray):
  Calls Tryz.prog 52 #[.agg (eW id ti st lg f e ra rn rc c u sa sn sc ma mn mc),.string ⟨#[116,105,116,108,101]⟩,.string s] w fun r w'=>r= .returned (.tuple #[.agg (eW id s st lg f e ra rn rc c u sa sn sc ma mn mc),.int .i64 0])∧Below w.heap.size w w':=by
 have H0:Hid (PFW w (PF0 w (eW id ti st lg f e ra rn rc c u sa sn sc ma mn mc)) (eW id ti st lg f e ra rn rc c u sa sn sc ma mn mc)):=zb5 w _
 go_enter Tryz.func52,Tryz.ntmps52
 go_upto_region 2 with fail
 change Code.wp _ _ _ _ (PF0 w (eW id ti st lg f e ra rn rc c u sa sn sc ma mn mc))
 generalize PF0 w (eW id ti st lg f e ra rn rc c u sa sn sc ma mn mc)=w0 at H0 ⊢
 obtain ⟨c0,c1,c2,c3,c4,c5,c6,c7,c8,c9,c10⟩:=zK H0.out.e
 have f1:=zF H0.out.e 1
 have H1:Hid (PFW w (w0.setCell ⟨w.heap.size,1,none⟩ (.string s)) (eW id s st lg f e ra rn rc c u sa sn sc ma mn mc)):=H0.out.put 1 _ rfl
 go_upto_region 49 with fail
 generalize w0.setCell ⟨w.heap.size,1,none⟩ (.string s)=w9 at H1 ⊢
 have H9:Hid (_):=H1.out
 clear c0 c1 c2 c3 c4 c5 c6 c7 c8 c9 c10 f1 H0
 obtain ⟨c0,c1,c2,c3,c4,c5,c6,c7,c8,c9,c10⟩:=zK H9.out.e
 obtain ⟨t0,t1,t2,t3,t4,t5,t6,t7,t8,t9,t10⟩:=zK H9.out.z
 obtain ⟨f0,f1,f2,f3,f4,f5,f6,f7,f8,f9,f10⟩:=frz H9.out.z
 go_wp2
 rw [zX]
 have nB:=zk (.string id) (.string s) (.int .i64 st) (.int .i64 lg) (.string f) (.int .i64 e) (.slice ra rn rc) (.int .i64 c) (.int .i64 u) (.slice sa sn sc) (.slice ma mn mc) H9.out.z
 have g:=yH (w:=w) (B:=w.heap.size+1) (v0:= .string id) (v1:= .string s) (v2:= .int .i64 st) (v3:= .int .i64 lg) (v4:= .string f) (v5:= .int .i64 e) (v6:= .slice ra rn rc) (v7:= .int .i64 c) (v8:= .int .i64 u) (v9:= .slice sa sn sc) (v10:= .slice ma mn mc) H9.out.b (by omega)
 clear c0 t0 f0 c1 t1 f1 c2 t2 f2 c3 t3 f3 c4 t4 f4 c5 t5 f5 c6 t6 f6 c7 t7 f7 c8 t8 f8 c9 t9 f9 c10 t10 f10
 generalize yI w9 (w.heap.size+1) (.string id) (.string s) (.int .i64 st) (.int .i64 lg) (.string f) (.int .i64 e) (.slice ra rn rc) (.int .i64 c) (.int .i64 u) (.slice sa sn sc) (.slice ma mn mc)=w7 at nB g ⊢
 obtain ⟨c0,c1,c2,c3,c4,c5,c6,c7,c8,c9,c10⟩:=zK nB
 exact bodyPost_ret (v:= .tuple #[.agg (eW id s st lg f e ra rn rc c u sa sn sc ma mn mc),.int .i64 0]) (by simp [results,Tryz.f52,go_sem,c0,c1,c2,c3,c4,c5,c6,c7,c8,c9,c10]) rfl ⟨rfl,g⟩
set_option maxHeartbeats 4000000 in
set_option maxRecDepth 100000 in
theorem zgl(id ti f:ByteArray)(st lg e c u:Int)(ra sa ma:Option Addr)(rn rc sn sc mn mc:Nat)(w:World)(y m d n:Int)(hv:vld y m d)(hn:num y m d=n):
  Calls Tryz.prog 52 #[.agg (eW id ti st lg f e ra rn rc c u sa sn sc ma mn mc),.string ⟨#[115,116,97,114,116]⟩,.string (bs (txt y m d))] w fun r w'=>r= .returned (.tuple #[.agg (eW id ti n lg f e ra rn rc c u sa sn sc ma mn mc),.int .i64 0])∧Below w.heap.size w w':=by
 have H0:Hid (PFW w (PF0 w (eW id ti st lg f e ra rn rc c u sa sn sc ma mn mc)) (eW id ti st lg f e ra rn rc c u sa sn sc ma mn mc)):=zb5 w _
 have RD:Hid (∀ W,Calls Tryz.prog 82 #[.string (bs (txt y m d))] W fun r w'=>r= .returned (.tuple #[.int .i64 n,.int .i64 0])∧Below W.heap.size W w'):=fun W=>zcG y m d n W hv hn
 clear hv hn
 go_enter Tryz.func52,Tryz.ntmps52
 go_upto_region 2 with fail
 change Code.wp _ _ _ _ (PF0 w (eW id ti st lg f e ra rn rc c u sa sn sc ma mn mc))
 generalize PF0 w (eW id ti st lg f e ra rn rc c u sa sn sc ma mn mc)=w0 at H0 ⊢
 obtain ⟨c0,c1,c2,c3,c4,c5,c6,c7,c8,c9,c10⟩:=zK H0.out.e
 go_upto_region 49 with (go_at_call 82;refine Calls.mono (RD.out _) ?_;rintro r w5 ⟨rfl,hb5⟩;have H5:=hid (H0.out.step hb5);obtain ⟨x0,x1,x2,x3,x4,x5,x6,x7,x8,x9,x10⟩:=zK H5.out.e;have f2:=zF H5.out.e 2)
 have H1:Hid (PFW w (w5.setCell ⟨w.heap.size,2,none⟩ (.int .i64 n)) (eW id ti n lg f e ra rn rc c u sa sn sc ma mn mc)):=H5.out.put 2 _ rfl
 generalize w5.setCell ⟨w.heap.size,2,none⟩ (.int .i64 n)=w9 at H1 ⊢
 have H9:Hid (_):=H1.out
 clear c0 c1 c2 c3 c4 c5 c6 c7 c8 c9 c10 x0 x1 x2 x3 x4 x5 x6 x7 x8 x9 x10 f2 hb5 RD H0 H5 H1
 obtain ⟨c0,c1,c2,c3,c4,c5,c6,c7,c8,c9,c10⟩:=zK H9.out.e
 obtain ⟨t0,t1,t2,t3,t4,t5,t6,t7,t8,t9,t10⟩:=zK H9.out.z
 obtain ⟨f0,f1,f2,f3,f4,f5,f6,f7,f8,f9,f10⟩:=frz H9.out.z
 go_wp2
 rw [zX]
 have nB:=zk (.string id) (.string ti) (.int .i64 n) (.int .i64 lg) (.string f) (.int .i64 e) (.slice ra rn rc) (.int .i64 c) (.int .i64 u) (.slice sa sn sc) (.slice ma mn mc) H9.out.z
 have g:=yH (w:=w) (B:=w.heap.size+1) (v0:= .string id) (v1:= .string ti) (v2:= .int .i64 n) (v3:= .int .i64 lg) (v4:= .string f) (v5:= .int .i64 e) (v6:= .slice ra rn rc) (v7:= .int .i64 c) (v8:= .int .i64 u) (v9:= .slice sa sn sc) (v10:= .slice ma mn mc) H9.out.b (by omega)
 clear c0 t0 f0 c1 t1 f1 c2 t2 f2 c3 t3 f3 c4 t4 f4 c5 t5 f5 c6 t6 f6 c7 t7 f7 c8 t8 f8 c9 t9 f9 c10 t10 f10
 generalize yI w9 (w.heap.size+1) (.string id) (.string ti) (.int .i64 n) (.int .i64 lg) (.string f) (.int .i64 e) (.slice ra rn rc) (.int .i64 c) (.int .i64 u) (.slice sa sn sc) (.slice ma mn mc)=w7 at nB g ⊢
 obtain ⟨c0,c1,c2,c3,c4,c5,c6,c7,c8,c9,c10⟩:=zK nB
 exact bodyPost_ret (v:= .tuple #[.agg (eW id ti n lg f e ra rn rc c u sa sn sc ma mn mc),.int .i64 0]) (by simp [results,Tryz.f52,go_sem,c0,c1,c2,c3,c4,c5,c6,c7,c8,c9,c10]) rfl ⟨rfl,g⟩
set_option maxHeartbeats 4000000 in
set_option maxRecDepth 100000 in
theorem zhW(id ti f:ByteArray)(st lg e c u:Int)(ra sa ma:Option Addr)(rn rc sn sc mn mc:Nat)(w:World)(f':ByteArray)(e' c' u':Int)(ds:List Int)(t:List UInt8)(h:Well (rd f' e' ds c' u'))(ht:UT (rd f' e' ds c' u') t)(h20:ds.length≤20):
  Calls Tryz.prog 52 #[.agg (eW id ti st lg f e ra rn rc c u sa sn sc ma mn mc),.string ⟨#[114,117,108,101]⟩,.string (bs (yV (rd f' e' ds c' u') t))] w fun r w'=> ∃ dv,r= .returned (.tuple #[.agg #[.string id,.string ti,.int .i64 st,.int .i64 lg,.string f',.int .i64 e',dv,.int .i64 c',.int .i64 u',.slice sa sn sc,.slice ma mn mc],.int .i64 0])∧Ow w.heap.size w' dv ds∧Below w.heap.size w w':=by
 have H0:Hid (PFW w (PF0 w (eW id ti st lg f e ra rn rc c u sa sn sc ma mn mc)) (eW id ti st lg f e ra rn rc c u sa sn sc ma mn mc)):=zb5 w _
 have RR:Hid (∀ W:World,Calls Tryz.prog 84 #[.string (bs (yV (rd f' e' ds c' u') t))] W fun r w'=> ∃ dv,r= .returned (.tuple #[.agg #[.string f',.int .i64 e',dv,.int .i64 c',.int .i64 u'],.int .i64 0])∧Ow W.heap.size w' dv ds∧Below W.heap.size W w'):=fun W=>zcH f' e' ds c' u' t W h ht h20
 clear h ht
 generalize yV (rd f' e' ds c' u') t=tx at RR ⊢
 go_enter Tryz.func52,Tryz.ntmps52
 go_upto_region 2 with fail
 change Code.wp _ _ _ _ (PF0 w (eW id ti st lg f e ra rn rc c u sa sn sc ma mn mc))
 generalize PF0 w (eW id ti st lg f e ra rn rc c u sa sn sc ma mn mc)=w0 at H0 ⊢
 obtain ⟨c0,c1,c2,c3,c4,c5,c6,c7,c8,c9,c10⟩:=zK H0.out.e
 go_upto_region 49 with (go_at_call 84;refine Calls.mono (RR.out _) ?_;rintro r w5 ⟨dv,rfl,how,hb5⟩;obtain ⟨da,dc,rfl⟩:=zQ how;have HO5:=hid how;clear how;have H5:=hid (H0.out.step hb5);obtain ⟨x0,x1,x2,x3,x4,x5,x6,x7,x8,x9,x10⟩:=zK H5.out.e;have f4:=zF H5.out.e 4;have f5:=zF H5.out.e 5;have f6:=zF H5.out.e 6;have f7:=zF H5.out.e 7;have f8:=zF H5.out.e 8)
 rw [jd]
 have hs0:=H0.out.s
 have H1:Hid (PFW w (zjN w5 w.heap.size (.string f') (.int .i64 e') (.slice da ds.length dc) (.int .i64 c') (.int .i64 u')) (eW id ti st lg f' e' da ds.length dc c' u' sa sn sc ma mn mc)):=by
  have g:=xj w5 w.heap.size (.string f') (.int .i64 e') (.slice da ds.length dc) (.int .i64 c') (.int .i64 u')
  exact ⟨zaQ _ _ _ _ _ H5.out.e,(g.block _ (by have:=H5.out.s;omega) (fun q=>by have q':w.heap.size+1=w.heap.size:=Option.some.inj q;omega)).trans H5.out.z,zy H5.out.b g (Nat.le_refl _),Nat.le_trans H5.out.s g.size⟩
 have O1:Hid (Ow (w.heap.size+2) (zjN w5 w.heap.size (.string f') (.int .i64 e') (.slice da ds.length dc) (.int .i64 c') (.int .i64 u')) (.slice da ds.length dc) ds):=Ow.grown (zW HO5.out hs0) (xj w5 w.heap.size _ _ _ _ _) (by omega)
 generalize zjN w5 w.heap.size (.string f') (.int .i64 e') (.slice da ds.length dc) (.int .i64 c') (.int .i64 u')=w9 at H1 O1 ⊢
 have H9:Hid (_):=H1.out
 clear c0 c1 c2 c3 c4 c5 c6 c7 c8 c9 c10 x0 x1 x2 x3 x4 x5 x6 x7 x8 x9 x10 f4 f5 f6 f7 f8 hb5 RR HO5 hs0 H0 H5 H1
 obtain ⟨c0,c1,c2,c3,c4,c5,c6,c7,c8,c9,c10⟩:=zK H9.out.e
 obtain ⟨t0,t1,t2,t3,t4,t5,t6,t7,t8,t9,t10⟩:=zK H9.out.z
 obtain ⟨f0,f1,f2,f3,f4,f5,f6,f7,f8,f9,f10⟩:=frz H9.out.z
 go_wp2
 rw [zX]
 have nB:=zk (.string id) (.string ti) (.int .i64 st) (.int .i64 lg) (.string f') (.int .i64 e') (.slice da ds.length dc) (.int .i64 c') (.int .i64 u') (.slice sa sn sc) (.slice ma mn mc) H9.out.z
 have g:=yH (w:=w) (B:=w.heap.size+1) (v0:= .string id) (v1:= .string ti) (v2:= .int .i64 st) (v3:= .int .i64 lg) (v4:= .string f') (v5:= .int .i64 e') (v6:= .slice da ds.length dc) (v7:= .int .i64 c') (v8:= .int .i64 u') (v9:= .slice sa sn sc) (v10:= .slice ma mn mc) H9.out.b (by omega)
 have OZ:=Ow.grown O1.out (zT w9 (w.heap.size+1) (.string id) (.string ti) (.int .i64 st) (.int .i64 lg) (.string f') (.int .i64 e') (.slice da ds.length dc) (.int .i64 c') (.int .i64 u') (.slice sa sn sc) (.slice ma mn mc)) (by omega)
 clear c0 t0 f0 c1 t1 f1 c2 t2 f2 c3 t3 f3 c4 t4 f4 c5 t5 f5 c6 t6 f6 c7 t7 f7 c8 t8 f8 c9 t9 f9 c10 t10 f10
 generalize yI w9 (w.heap.size+1) (.string id) (.string ti) (.int .i64 st) (.int .i64 lg) (.string f') (.int .i64 e') (.slice da ds.length dc) (.int .i64 c') (.int .i64 u') (.slice sa sn sc) (.slice ma mn mc)=w7 at nB g OZ ⊢
 obtain ⟨c0,c1,c2,c3,c4,c5,c6,c7,c8,c9,c10⟩:=zK nB
 exact bodyPost_ret (v:= .tuple #[.agg (eW id ti st lg f' e' da ds.length dc c' u' sa sn sc ma mn mc),.int .i64 0]) (by simp [results,Tryz.f52,go_sem,c0,c1,c2,c3,c4,c5,c6,c7,c8,c9,c10]) rfl ⟨_,rfl,zW (OZ) (by omega),g⟩
set_option maxHeartbeats 4000000 in
set_option maxRecDepth 100000 in
theorem zhX(id ti f:ByteArray)(st lg e c u:Int)(ra sa ma:Option Addr)(rn rc sn sc mn mc:Nat)(w:World)(n:Int)(hn0:0≤n)(hn1:n≤999999):
  Calls Tryz.prog 52 #[.agg (eW id ti st lg f e ra rn rc c u sa sn sc ma mn mc),.string ⟨#[108,111,110,103]⟩,.string (bs (Lib.itoa n))] w fun r w'=>r= .returned (.tuple #[.agg (eW id ti st n f e ra rn rc c u sa sn sc ma mn mc),.int .i64 0])∧Below w.heap.size w w':=by
 have H0:Hid (PFW w (PF0 w (eW id ti st lg f e ra rn rc c u sa sn sc ma mn mc)) (eW id ti st lg f e ra rn rc c u sa sn sc ma mn mc)):=zb5 w _
 have hil:=yw n hn0 hn1
 have hne:=zlm n hn0
 have hsz:(bs (Lib.itoa n)).size=(Lib.itoa n).length:=by rw [Lib.size_eq,zh]
 have h0:0<(bs (Lib.itoa n)).size:=by rw [hsz];exact List.length_pos_iff.2 hne
 have h9:((bs (Lib.itoa n)).size:Int)≤9:=by omega
 have h45: ¬ ((((bs (Lib.itoa n))[0]).toNat:Int)=45):=fun q=>by
  have hm:(bs (Lib.itoa n))[0]∈Lib.itoa n:=by
   have z:=Lib.data_getElem? (bs (Lib.itoa n)) 0 h0
   rw [zh] at z
   exact List.mem_of_getElem? z
  have:=xA n hn0 _ hm
  omega
 have NO:Hid (∀ W:World,Calls Tryz.prog 83 #[.string (bs (Lib.itoa n)),.int .i64 9] W fun e w'=>e= .returned (.int .i64 n)∧w'=W):=fun W=>by
  have z:=vJ (bs (Lib.itoa n)) W
  rw [zh,zav n hn0 hn1] at z
  exact z
 clear hil hne hsz
 generalize bs (Lib.itoa n)=s at h0 h9 h45 NO ⊢
 have h0i:(0:Int)<(s.size:Int):=by omega
 by_cases h1:(1:Int)<(s.size:Int)
 ·go_enter Tryz.func52,Tryz.ntmps52
  go_upto_region 2 with fail
  change Code.wp _ _ _ _ (PF0 w (eW id ti st lg f e ra rn rc c u sa sn sc ma mn mc))
  generalize PF0 w (eW id ti st lg f e ra rn rc c u sa sn sc ma mn mc)=w0 at H0 ⊢
  obtain ⟨c0,c1,c2,c3,c4,c5,c6,c7,c8,c9,c10⟩:=zK H0.out.e
  have f3:=zF H0.out.e 3
  go_upto_region 13 with (go_at_call 83;refine Calls.mono (NO.out _) ?_;rintro r w5 ⟨rfl,hq⟩;have hq:=hq.symm;subst hq)
  have H1:Hid (PFW w (w0.setCell ⟨w.heap.size,3,none⟩ (.int .i64 n)) (eW id ti st n f e ra rn rc c u sa sn sc ma mn mc)):=H0.out.put 3 _ rfl
  generalize w0.setCell ⟨w.heap.size,3,none⟩ (.int .i64 n)=w9 at H1 ⊢
  have H9:Hid (_):=H1.out
  clear c0 c1 c2 c3 c4 c5 c6 c7 c8 c9 c10 f3 H0 H1 NO
  obtain ⟨x0,x1,x2,x3,x4,x5,x6,x7,x8,x9,x10⟩:=zK H9.out.e
  go_upto_region 49 with fail
  clear x0 x1 x2 x3 x4 x5 x6 x7 x8 x9 x10
  obtain ⟨c0,c1,c2,c3,c4,c5,c6,c7,c8,c9,c10⟩:=zK H9.out.e
  obtain ⟨t0,t1,t2,t3,t4,t5,t6,t7,t8,t9,t10⟩:=zK H9.out.z
  obtain ⟨f0,f1,f2,f3,f4,f5,f6,f7,f8,f9,f10⟩:=frz H9.out.z
  go_wp2
  rw [zX]
  have nB:=zk (.string id) (.string ti) (.int .i64 st) (.int .i64 n) (.string f) (.int .i64 e) (.slice ra rn rc) (.int .i64 c) (.int .i64 u) (.slice sa sn sc) (.slice ma mn mc) H9.out.z
  have g:=yH (w:=w) (B:=w.heap.size+1) (v0:= .string id) (v1:= .string ti) (v2:= .int .i64 st) (v3:= .int .i64 n) (v4:= .string f) (v5:= .int .i64 e) (v6:= .slice ra rn rc) (v7:= .int .i64 c) (v8:= .int .i64 u) (v9:= .slice sa sn sc) (v10:= .slice ma mn mc) H9.out.b (by omega)
  clear c0 t0 f0 c1 t1 f1 c2 t2 f2 c3 t3 f3 c4 t4 f4 c5 t5 f5 c6 t6 f6 c7 t7 f7 c8 t8 f8 c9 t9 f9 c10 t10 f10
  generalize yI w9 (w.heap.size+1) (.string id) (.string ti) (.int .i64 st) (.int .i64 n) (.string f) (.int .i64 e) (.slice ra rn rc) (.int .i64 c) (.int .i64 u) (.slice sa sn sc) (.slice ma mn mc)=w7 at nB g ⊢
  obtain ⟨c0,c1,c2,c3,c4,c5,c6,c7,c8,c9,c10⟩:=zK nB
  exact bodyPost_ret (v:= .tuple #[.agg (eW id ti st n f e ra rn rc c u sa sn sc ma mn mc),.int .i64 0]) (by simp [results,Tryz.f52,go_sem,c0,c1,c2,c3,c4,c5,c6,c7,c8,c9,c10]) rfl ⟨rfl,g⟩
 ·have h1':(s.size:Int)≤1:=by omega
  clear h1
  go_enter Tryz.func52,Tryz.ntmps52
  go_upto_region 2 with fail
  change Code.wp _ _ _ _ (PF0 w (eW id ti st lg f e ra rn rc c u sa sn sc ma mn mc))
  generalize PF0 w (eW id ti st lg f e ra rn rc c u sa sn sc ma mn mc)=w0 at H0 ⊢
  obtain ⟨c0,c1,c2,c3,c4,c5,c6,c7,c8,c9,c10⟩:=zK H0.out.e
  have f3:=zF H0.out.e 3
  go_upto_region 13 with (go_at_call 83;refine Calls.mono (NO.out _) ?_;rintro r w5 ⟨rfl,hq⟩;have hq:=hq.symm;subst hq)
  have H1:Hid (PFW w (w0.setCell ⟨w.heap.size,3,none⟩ (.int .i64 n)) (eW id ti st n f e ra rn rc c u sa sn sc ma mn mc)):=H0.out.put 3 _ rfl
  generalize w0.setCell ⟨w.heap.size,3,none⟩ (.int .i64 n)=w9 at H1 ⊢
  have H9:Hid (_):=H1.out
  clear c0 c1 c2 c3 c4 c5 c6 c7 c8 c9 c10 f3 H0 H1 NO
  obtain ⟨x0,x1,x2,x3,x4,x5,x6,x7,x8,x9,x10⟩:=zK H9.out.e
  go_upto_region 49 with fail
  clear x0 x1 x2 x3 x4 x5 x6 x7 x8 x9 x10
  obtain ⟨c0,c1,c2,c3,c4,c5,c6,c7,c8,c9,c10⟩:=zK H9.out.e
  obtain ⟨t0,t1,t2,t3,t4,t5,t6,t7,t8,t9,t10⟩:=zK H9.out.z
  obtain ⟨f0,f1,f2,f3,f4,f5,f6,f7,f8,f9,f10⟩:=frz H9.out.z
  go_wp2
  rw [zX]
  have nB:=zk (.string id) (.string ti) (.int .i64 st) (.int .i64 n) (.string f) (.int .i64 e) (.slice ra rn rc) (.int .i64 c) (.int .i64 u) (.slice sa sn sc) (.slice ma mn mc) H9.out.z
  have g:=yH (w:=w) (B:=w.heap.size+1) (v0:= .string id) (v1:= .string ti) (v2:= .int .i64 st) (v3:= .int .i64 n) (v4:= .string f) (v5:= .int .i64 e) (v6:= .slice ra rn rc) (v7:= .int .i64 c) (v8:= .int .i64 u) (v9:= .slice sa sn sc) (v10:= .slice ma mn mc) H9.out.b (by omega)
  clear c0 t0 f0 c1 t1 f1 c2 t2 f2 c3 t3 f3 c4 t4 f4 c5 t5 f5 c6 t6 f6 c7 t7 f7 c8 t8 f8 c9 t9 f9 c10 t10 f10
  generalize yI w9 (w.heap.size+1) (.string id) (.string ti) (.int .i64 st) (.int .i64 n) (.string f) (.int .i64 e) (.slice ra rn rc) (.int .i64 c) (.int .i64 u) (.slice sa sn sc) (.slice ma mn mc)=w7 at nB g ⊢
  obtain ⟨c0,c1,c2,c3,c4,c5,c6,c7,c8,c9,c10⟩:=zK nB
  exact bodyPost_ret (v:= .tuple #[.agg (eW id ti st n f e ra rn rc c u sa sn sc ma mn mc),.int .i64 0]) (by simp [results,Tryz.f52,go_sem,c0,c1,c2,c3,c4,c5,c6,c7,c8,c9,c10]) rfl ⟨rfl,g⟩
def CW(W:World)(b:Nat)(l:List (List UInt8)):Prop:= ∀ (j:Nat) (hj:j<l.length),W.cell? ⟨b,j,none⟩=some (.string (bs l[j]))
theorem CW.same{W W':World}{b:Nat}{l:List (List UInt8)}(h:CW W b l)(hs:W'.heap[b]? =W.heap[b]?):CW W' b l:=fun j hj=>(World.cell?_of_block (a:=⟨b,j,none⟩) hs).trans (h j hj)
theorem zew{base n:Nat}{W:World}{a:Option Addr}{c m:Nat}{l:List (List UInt8)}(h:W.ownsRow base 9 1 (.slice a m c) n (l.map sv))(hn:n=l.length)(hl:0<l.length): ∃ b,a=some ⟨b,0,none⟩∧base≤b∧b<W.heap.size∧CW W b l:=by
 obtain ⟨b,rfl,h1,h2,_⟩:=xS h hn hl
 refine ⟨b,rfl,h1,h2,fun j hj=> ?_⟩
 obtain ⟨b',e,_,_,h3⟩:=xS h hn hj
 cases e
 exact h3
theorem PFW.far{w W W':World}{cs:Array Value}{o:Option Nat}(h:PFW w W cs)(g:W.grownBy W' o)(ho: ∀ k,o=some k→w.heap.size+2≤k):PFW w W' cs:=
 ⟨(g.block _ (by have:=h.s;omega) (fun q=>by have:=ho _ q.symm;omega)).trans h.e,(g.block _ (by have:=h.s;omega) (fun q=>by have:=ho _ q.symm;omega)).trans h.z,⟨g.os.trans h.b.os,g.tape.trans h.b.tape,g.output.trans h.b.output,Nat.le_trans h.b.size g.size,fun k hk=>(g.block k (Nat.lt_of_lt_of_le hk h.b.size) (fun q=>by have:=ho _ q.symm;omega)).trans (h.b.block k hk)⟩,Nat.le_trans h.s g.size⟩
structure SKW(w W:World)(cs:Array Value)(base b:Nat)(kv:Value)(sk done:List Int):Prop where
 pf:PFW w W cs
 ow:Ow base W kv done
 cw:CW W b (sk.map dtx)
 hb:w.heap.size+2≤b∧b<base∧base≤W.heap.size
theorem SKW.step{w W W':World}{cs:Array Value}{base b:Nat}{kv:Value}{sk done:List Int}(h:SKW w W cs base b kv sk done)(hb:Below W.heap.size W W'):SKW w W' cs base b kv sk done:=
 ⟨h.pf.step hb,zU h.ow hb,h.cw.same (hb.block _ (by have:=h.hb;omega)),by have:=h.hb;have:=hb.size;omega⟩
theorem zhY(W:World)(x:Value): ∀ (j:Nat) (v:Value),[x][j]? =some v→(W.alloc (.cells #[x] 3)).cell? ((⟨W.heap.size,0,none⟩:Addr).add j)=some v:=fun j v hv=>by
 match j,hv with
 |0,hv=>simp at hv;subst hv;simp [Addr.add]
set_option maxHeartbeats 4000000 in
set_option maxRecDepth 100000 in
theorem zgm(id ti f:ByteArray)(st lg e c u:Int)(ra sa ma:Option Addr)(rn rc sn sc mn mc:Nat)(w:World)(sk:List Int)(hsk: ∀ d∈sk,0≤d∧d≤73048)(hl:sk.length≤60):
  Calls Tryz.prog 52 #[.agg (eW id ti st lg f e ra rn rc c u sa sn sc ma mn mc),.string ⟨#[115,107,105,112,115]⟩,.string (bs (Lib.join (sk.map dtx) [44]))] w fun r w'=> ∃ kv,r= .returned (.tuple #[.agg #[.string id,.string ti,.int .i64 st,.int .i64 lg,.string f,.int .i64 e,.slice ra rn rc,.int .i64 c,.int .i64 u,kv,.slice ma mn mc],.int .i64 0])∧Ow w.heap.size w' kv sk∧Below w.heap.size w w':=by
 obtain ⟨i0,hi,hz0,hz1,hz2⟩:=info_parts yZ
 have H0:Hid (PFW w (PF0 w (eW id ti st lg f e ra rn rc c u sa sn sc ma mn mc)) (eW id ti st lg f e ra rn rc c u sa sn sc ma mn mc)):=zb5 w _
 have hjl:(Lib.join (sk.map dtx) [44]).length≤100000:=by
  have z:=yT (sk.map dtx) [44] 10 (fun y hy=>by obtain ⟨d,_,rfl⟩:=List.mem_map.1 hy;exact yP d)
  rw [List.length_map] at z
  simp only [List.length_cons,List.length_nil] at z
  omega
 have CU:Hid (∀ W:World,Calls Tryz.prog 50 #[.string (bs (Lib.join (sk.map dtx) [44])),.int .u8 44] W fun r w'=>Below W.heap.size W w'∧ ∃ v,r= .returned v∧w'.ownsRow W.heap.size 9 1 v (zZ 44 (Lib.join (sk.map dtx) [44])).length ((zZ 44 (Lib.join (sk.map dtx) [44])).map sv)):=fun W=>by
  have z:=xR (bs (Lib.join (sk.map dtx) [44])) 44 W (by rw [Lib.size_eq,zh];exact hjl)
  rw [zh] at z
  exact z
 by_cases hnil:sk=[]
 ·subst hnil
  clear hsk hl
  have hbe:bs (Lib.join (([]:List Int).map dtx) [44])=⟨#[]⟩:=rfl
  have CU2:Hid (∀ W:World,Calls Tryz.prog 50 #[.string ⟨#[]⟩,.int .u8 44] W fun r w'=>Below W.heap.size W w'∧ ∃ (va:Option Addr) (vc:Nat),r= .returned (.slice va 1 vc)):=fun W=>by
   refine Calls.mono (CU.out W) ?_
   rintro r w' ⟨h1,v,rfl,h2⟩
   obtain ⟨a,c,rfl⟩:=zQ h2
   exact ⟨h1,_,_,rfl⟩
  rw [hbe]
  clear CU hbe hjl
  go_enter Tryz.func52,Tryz.ntmps52
  go_upto_region 2 with fail
  change Code.wp _ _ _ _ (PF0 w (eW id ti st lg f e ra rn rc c u sa sn sc ma mn mc))
  generalize PF0 w (eW id ti st lg f e ra rn rc c u sa sn sc ma mn mc)=w0 at H0 ⊢
  obtain ⟨c0,c1,c2,c3,c4,c5,c6,c7,c8,c9,c10⟩:=zK H0.out.e
  have f9:=zF H0.out.e 9
  have H1:Hid (PFW w (w0.setCell ⟨w.heap.size,9,none⟩ (.slice none 0 0)) (eW id ti st lg f e ra rn rc c u none 0 0 ma mn mc)):=H0.out.put 9 _ rfl
  go_upto_region 21 with fail
  generalize w0.setCell ⟨w.heap.size,9,none⟩ (.slice none 0 0)=w1 at H1 ⊢
  clear c0 c1 c2 c3 c4 c5 c6 c7 c8 c9 c10 f9 H0
  go_upto_region 22 with (go_at_call 50;refine Calls.mono (CU2.out _) ?_;rintro r w9 ⟨hb2,va,vc,rfl⟩)
  have H9:=hid (H1.out.step hb2)
  have O9:Hid (Ow (w.heap.size+2) w9 (.slice none 0 0) []):=World.ownsRow_nil _ _ _ _
  clear hb2 H1 CU2
  go_wp2
  refine wp_loop_rounds 1 ?_
  rw [rounds_succ]
  go_upto_region 49 with fail
  obtain ⟨c0,c1,c2,c3,c4,c5,c6,c7,c8,c9,c10⟩:=zK H9.out.e
  obtain ⟨t0,t1,t2,t3,t4,t5,t6,t7,t8,t9,t10⟩:=zK H9.out.z
  obtain ⟨f0,f1,f2,f3,f4,f5,f6,f7,f8,f9,f10⟩:=frz H9.out.z
  go_wp2
  rw [zX]
  have nB:=zk (.string id) (.string ti) (.int .i64 st) (.int .i64 lg) (.string f) (.int .i64 e) (.slice ra rn rc) (.int .i64 c) (.int .i64 u) (.slice none 0 0) (.slice ma mn mc) H9.out.z
  have g:=yH (w:=w) (B:=w.heap.size+1) (v0:= .string id) (v1:= .string ti) (v2:= .int .i64 st) (v3:= .int .i64 lg) (v4:= .string f) (v5:= .int .i64 e) (v6:= .slice ra rn rc) (v7:= .int .i64 c) (v8:= .int .i64 u) (v9:= .slice none 0 0) (v10:= .slice ma mn mc) H9.out.b (by omega)
  have OZ:=Ow.grown O9.out (zT w9 (w.heap.size+1) (.string id) (.string ti) (.int .i64 st) (.int .i64 lg) (.string f) (.int .i64 e) (.slice ra rn rc) (.int .i64 c) (.int .i64 u) (.slice none 0 0) (.slice ma mn mc)) (by omega)
  clear c0 t0 f0 c1 t1 f1 c2 t2 f2 c3 t3 f3 c4 t4 f4 c5 t5 f5 c6 t6 f6 c7 t7 f7 c8 t8 f8 c9 t9 f9 c10 t10 f10
  generalize yI w9 (w.heap.size+1) (.string id) (.string ti) (.int .i64 st) (.int .i64 lg) (.string f) (.int .i64 e) (.slice ra rn rc) (.int .i64 c) (.int .i64 u) (.slice none 0 0) (.slice ma mn mc)=w7 at nB g OZ ⊢
  obtain ⟨c0,c1,c2,c3,c4,c5,c6,c7,c8,c9,c10⟩:=zK nB
  exact bodyPost_ret (v:= .tuple #[.agg (eW id ti st lg f e ra rn rc c u none 0 0 ma mn mc),.int .i64 0]) (by simp [results,Tryz.f52,go_sem,c0,c1,c2,c3,c4,c5,c6,c7,c8,c9,c10]) rfl ⟨_,rfl,zW OZ (by omega),g⟩
 ·have hpc:zZ 44 (Lib.join (sk.map dtx) [44])=sk.map dtx:=xy (by simpa using hnil) (fun x hx=>by obtain ⟨d,_,rfl⟩:=List.mem_map.1 hx;exact xK d 44 (by decide))
  have hlp:0<sk.length:=List.length_pos_iff.2 hnil
  have hne:(bs (Lib.join (sk.map dtx) [44])).toList.isEmpty=false:=by
   rw [ByteArray.toList_eq,zh,List.isEmpty_eq_false_iff]
   refine zcg (by simpa using hnil) (fun x hx=> ?_)
   obtain ⟨d,hd,rfl⟩:=List.mem_map.1 hx
   obtain ⟨y,m,d',_,_,e⟩:=jG (hsk d hd).1 (hsk d hd).2
   rw [e]
   exact fun q=>by have:=congrArg List.length q;rw [xx] at this;cases this
  have RD:Hid (∀ (j:Nat) (hj:j<sk.length) (W:World),Calls Tryz.prog 82 #[.string (bs (dtx sk[j]))] W fun r w'=>r= .returned (.tuple #[.int .i64 sk[j],.int .i64 0])∧Below W.heap.size W w'):=fun j hj W=>by
   obtain ⟨y,m,d',h1,h2,e⟩:=jG (hsk _ (List.getElem_mem hj)).1 (hsk _ (List.getElem_mem hj)).2
   rw [e]
   exact zcG y m d' _ W h1 h2
  rw [hpc] at CU
  rw [List.length_map] at CU
  have HL:=hid hl
  have hl60:(sk.length:Int)≤60:=by omega
  generalize bs (Lib.join (sk.map dtx) [44])=s at CU hne ⊢
  clear hjl hpc hsk hnil hl
  go_enter Tryz.func52,Tryz.ntmps52
  go_upto_region 2 with fail
  change Code.wp _ _ _ _ (PF0 w (eW id ti st lg f e ra rn rc c u sa sn sc ma mn mc))
  generalize PF0 w (eW id ti st lg f e ra rn rc c u sa sn sc ma mn mc)=w0 at H0 ⊢
  obtain ⟨c0,c1,c2,c3,c4,c5,c6,c7,c8,c9,c10⟩:=zK H0.out.e
  have f9:=zF H0.out.e 9
  have H1:Hid (PFW w (w0.setCell ⟨w.heap.size,9,none⟩ (.slice none 0 0)) (eW id ti st lg f e ra rn rc c u none 0 0 ma mn mc)):=H0.out.put 9 _ rfl
  go_upto_region 21 with fail
  generalize w0.setCell ⟨w.heap.size,9,none⟩ (.slice none 0 0)=w1 at H1 ⊢
  clear c0 c1 c2 c3 c4 c5 c6 c7 c8 c9 c10 f9 H0
  go_upto_region 22 with (go_at_call 50;refine Calls.mono (CU.out _) ?_;rintro r w2 ⟨hb2,v,rfl,hrow⟩;obtain ⟨va,vc,rfl⟩:=zQ hrow;obtain ⟨b,rfl,hb3,hb4,hcw⟩:=zew hrow (by simp) (by simpa using hlp))
  have HS2:Hid (SKW w w2 (eW id ti st lg f e ra rn rc c u none 0 0 ma mn mc) w2.heap.size b (.slice none 0 0) sk (sk.take 0)):=⟨H1.out.step hb2,World.ownsRow_nil _ _ _ _,hcw,⟨by have:=H1.out.s;omega,hb4,Nat.le_refl _⟩⟩
  clear hb2 hrow hb3 hb4 hcw H1 CU
  go_wp2
  go_loopw [11,12,13,14] (fun i _ _ _ wr=> ∃ m:Nat,m≤sk.length∧i= .int .i64 m∧Hid (∃ ka kc,SKW w wr (eW id ti st lg f e ra rn rc c u ka m kc ma mn mc) w2.heap.size b (.slice ka m kc) sk (sk.take m))) (fun i _ _ _ _=>sk.length - (intOf i).toNat)
  case atStart=>exact ⟨0,Nat.zero_le _,rfl,none,0,HS2.out⟩
  case round=>
   obtain ⟨m,hm,rfl,HR⟩:=hrel
   obtain ⟨ka,kc,hk⟩:=HR.out
   clear HR
   have HK:=hid hk
   by_cases hlt:m<sk.length
   ·have HC:Hid (∀ W,Below wr.heap.size wr W→W.cell? ⟨b,m,none⟩=some (.string (bs (dtx sk[m])))):=fun W hW=>by
     have z:=(HK.out.step hW).cw m (by simpa using hlt)
     rw [List.getElem_map] at z
     exact z
    have R1:=hid (RD.out m hlt)
    have HT:=hid (List.take_succ_eq_append_getElem hlt)
    generalize bs (dtx sk[m])=tx at HC R1
    generalize sk[m]=d at R1 HT
    have hcell:=HC.out wr (Below.refl _ _)
    have g1:(0:Int)≤(m:Int):=by omega
    have g2:(m:Int)<(sk.length:Int):=by omega
    clear hk
    go_upto_region 28 with (go_at_call 82;refine Calls.mono (R1.out _) ?_;rintro r w5 ⟨rfl,hb5⟩;have HK5:=hid (HK.out.step hb5);clear hb5)
    obtain ⟨c0,c1,c2,c3,c4,c5,c6,c7,c8,c9,c10⟩:=zK HK5.out.pf.e
    have hA:=zC w5 (.cells #[.int .i64 d] 3)
    have HK6:=hid (HK5.out.step hA)
    have HROW:Hid (World.ownsRow (w5.alloc (.cells #[.int .i64 d] 3)) w2.heap.size 3 1 (.slice ka m kc) m ((sk.take m).map (Value.int .i64))):=by
     have z:World.ownsRow _ _ _ _ _ _ _:=HK6.out.ow
     rw [List.length_take,Nat.min_eq_left (by omega)] at z
     exact z
    have NC:Hid (∀ (j:Nat) (v:Value),[Value.int .i64 d][j]? =some v→(w5.alloc (.cells #[.int .i64 d] 3)).cell? ((⟨w5.heap.size,0,none⟩:Addr).add j)=some v):=zhY w5 _
    clear hA
    go_upto_region 29 with (at_builtin;refine wpList_append_own_at _ rfl _ _ 43 rfl w2.heap.size 3 i0 (.int .i64 0) 1 8 Tryz.underlying43 hi hz0 hz1 hz2 rfl (by decide) _ _ _ rfl HROW.out ⟨w5.heap.size,0,none⟩ 1 1 [.int .i64 d] rfl rfl NC.out (fun v hv=>by rw [List.mem_singleton.1 hv];rfl) (by have:=HL.out;unfold maxLen;omega) (by have:=HL.out;omega) (HK6.out.hb.2.2) ?_;intro v' w7 hown' hgrow _ hat;have HOWN:=hid hown';have HGR:=hid hgrow;clear hown' hgrow hat)
    obtain ⟨na,nc,rfl⟩:=zQ HOWN.out
    have HOB:Hid (∀ k,(Value.slice ka m kc).ownBlock=some k→w2.heap.size≤k):=fun k q=>(World.ownsRow.lt HROW.out k q).1
    have P7:Hid (PFW w w7 (eW id ti st lg f e ra rn rc c u ka m kc ma mn mc)):=HK6.out.pf.far HGR.out (fun k q=>by have:=HOB.out k q;have:=HK6.out.hb;omega)
    have W7:Hid (CW w7 b (sk.map dtx)):=HK6.out.cw.same (HGR.out.block _ (by have:=HK6.out.hb;omega) (fun q=>by have:=HOB.out b q.symm;have:=HK6.out.hb;omega))
    have S7:=hid (Nat.le_trans HK6.out.hb.2.2 HGR.out.size)
    have HBB:Hid (w.heap.size+2≤b∧b<w2.heap.size):=⟨HK6.out.hb.1,HK6.out.hb.2.1⟩
    clear c0 c1 c2 c3 c4 c5 c6 c7 c8 c9 c10 NC HK5 HK6 HROW HGR HC R1 HK hcell
    have f9:=zF P7.out.e 9
    obtain ⟨_,_,_,_,_,_,_,_,_,y9,_⟩:=zK P7.out.e
    have H8:Hid (SKW w (w7.setCell ⟨w.heap.size,9,none⟩ (.slice na (m+1) nc)) (eW id ti st lg f e ra rn rc c u na (m+1) nc ma mn mc) w2.heap.size b (.slice na (m+1) nc) sk (sk.take (m+1))):=by
     have g:=zG w7 ⟨w.heap.size,9,none⟩ (.slice na (m+1) nc)
     refine ⟨P7.out.put 9 _ rfl,?_,W7.out.same (g.block _ (by have:=S7.out;have:=HBB.out;omega) (fun q=>by have q':b=w.heap.size:=Option.some.inj q;have:=HBB.out;omega)),⟨HBB.out.1,HBB.out.2,Nat.le_trans S7.out g.size⟩⟩
     refine Ow.grown ?_ g (show w.heap.size<w2.heap.size by have:=HBB.out;omega)
     unfold Ow
     rw [HT.out,List.map_append,List.length_append,List.length_take,Nat.min_eq_left (by omega)]
     exact HOWN.out
    go_wp2
    refine ⟨⟨m+1,by omega,by go_num,na,nc,H8.out⟩,?_⟩
    simp [intOf];omega
   ·have g2:(sk.length:Int)≤(m:Int):=by omega
    have hml:m=sk.length:=by omega
    go_upto_region 49 with fail
    have H9:=hid HK.out.pf
    have O9:Hid (Ow w2.heap.size wr (.slice ka m kc) sk):=by
     have z:=HK.out.ow
     rw [hml,List.take_length,←hml] at z
     exact z
    have HBB:Hid (w.heap.size+2<w2.heap.size):=by have:=HK.out.hb;show _<_;omega
    have hbb:=HBB.out
    clear hk HK HS2 RD HL hml
    generalize wr=w9 at H9 O9 ⊢
    obtain ⟨c0,c1,c2,c3,c4,c5,c6,c7,c8,c9,c10⟩:=zK H9.out.e
    obtain ⟨t0,t1,t2,t3,t4,t5,t6,t7,t8,t9,t10⟩:=zK H9.out.z
    obtain ⟨f0,f1,f2,f3,f4,f5,f6,f7,f8,f9,f10⟩:=frz H9.out.z
    go_wp2
    rw [zX]
    have nB:=zk (.string id) (.string ti) (.int .i64 st) (.int .i64 lg) (.string f) (.int .i64 e) (.slice ra rn rc) (.int .i64 c) (.int .i64 u) (.slice ka m kc) (.slice ma mn mc) H9.out.z
    have g:=yH (w:=w) (B:=w.heap.size+1) (v0:= .string id) (v1:= .string ti) (v2:= .int .i64 st) (v3:= .int .i64 lg) (v4:= .string f) (v5:= .int .i64 e) (v6:= .slice ra rn rc) (v7:= .int .i64 c) (v8:= .int .i64 u) (v9:= .slice ka m kc) (v10:= .slice ma mn mc) H9.out.b (by omega)
    have OZ:=Ow.grown O9.out (zT w9 (w.heap.size+1) (.string id) (.string ti) (.int .i64 st) (.int .i64 lg) (.string f) (.int .i64 e) (.slice ra rn rc) (.int .i64 c) (.int .i64 u) (.slice ka m kc) (.slice ma mn mc)) (by omega)
    clear c0 t0 f0 c1 t1 f1 c2 t2 f2 c3 t3 f3 c4 t4 f4 c5 t5 f5 c6 t6 f6 c7 t7 f7 c8 t8 f8 c9 t9 f9 c10 t10 f10
    generalize yI w9 (w.heap.size+1) (.string id) (.string ti) (.int .i64 st) (.int .i64 lg) (.string f) (.int .i64 e) (.slice ra rn rc) (.int .i64 c) (.int .i64 u) (.slice ka m kc) (.slice ma mn mc)=w7 at nB g OZ ⊢
    obtain ⟨c0,c1,c2,c3,c4,c5,c6,c7,c8,c9,c10⟩:=zK nB
    exact bodyPost_ret (v:= .tuple #[.agg (eW id ti st lg f e ra rn rc c u ka m kc ma mn mc),.int .i64 0]) (by simp [results,Tryz.f52,go_sem,c0,c1,c2,c3,c4,c5,c6,c7,c8,c9,c10]) rfl ⟨_,rfl,zW OZ (by omega),g⟩
structure MVW(w W:World)(cs:Array Value)(base b:Nat)(kv:Value)(mv done:List (Int×Int)):Prop where
 pf:PFW w W cs
 ow:OwM base W kv done
 cw:CW W b (mv.map mtx)
 hb:w.heap.size+2≤b∧b<base∧base≤W.heap.size
theorem MVW.step{w W W':World}{cs:Array Value}{base b:Nat}{kv:Value}{mv done:List (Int×Int)}(h:MVW w W cs base b kv mv done)(hb:Below W.heap.size W W'):MVW w W' cs base b kv mv done:=
 ⟨h.pf.step hb,zU h.ow hb,h.cw.same (hb.block _ (by have:=h.hb;omega)),by have:=h.hb;have:=hb.size;omega⟩
theorem za0(W:World)(x y:Value): ∀ (j:Nat) (v:Value),[x,y][j]? =some v→(W.alloc (.cells #[x,y] 114)).cell? ((⟨W.heap.size,0,none⟩:Addr).add j)=some v:=fun j v hv=>by
 match j,hv with
 |0,hv=>simp at hv;subst hv;simp [Addr.add]
 |1,hv=>simp at hv;subst hv;simp [Addr.add]
theorem vI(ms:List (Int×Int))(x:Int×Int):yF (ms++[x])=yF ms++[.int .i64 x.1,.int .i64 x.2]:=by
 induction ms with
 |nil=>rfl
 |cons m r ih=>rw [List.cons_append,yF,ih,yF];rfl
set_option maxHeartbeats 4000000 in
set_option maxRecDepth 100000 in
theorem zgn(id ti f:ByteArray)(st lg e c u:Int)(ra sa ma:Option Addr)(rn rc sn sc mn mc:Nat)(w:World)(mv:List (Int×Int))(hmv: ∀ d∈mv,(0≤d.1∧d.1≤73048)∧0≤d.2∧d.2≤73048)(hl:mv.length≤60):
  Calls Tryz.prog 52 #[.agg (eW id ti st lg f e ra rn rc c u sa sn sc ma mn mc),.string ⟨#[109,111,118,101,115]⟩,.string (bs (Lib.join (mv.map mtx) [44]))] w fun r w'=> ∃ kv,r= .returned (.tuple #[.agg #[.string id,.string ti,.int .i64 st,.int .i64 lg,.string f,.int .i64 e,.slice ra rn rc,.int .i64 c,.int .i64 u,.slice sa sn sc,kv],.int .i64 0])∧OwM w.heap.size w' kv mv∧Below w.heap.size w w':=by
 obtain ⟨i0,hi,hz0,hz1,hz2⟩:=info_parts xN
 have H0:Hid (PFW w (PF0 w (eW id ti st lg f e ra rn rc c u sa sn sc ma mn mc)) (eW id ti st lg f e ra rn rc c u sa sn sc ma mn mc)):=zb5 w _
 have hjl:(Lib.join (mv.map mtx) [44]).length≤100000:=by
  have z:=yT (mv.map mtx) [44] 21 (fun y hy=>by obtain ⟨d,_,rfl⟩:=List.mem_map.1 hy;exact jJ d)
  rw [List.length_map] at z
  simp only [List.length_cons,List.length_nil] at z
  omega
 have CU:Hid (∀ W:World,Calls Tryz.prog 50 #[.string (bs (Lib.join (mv.map mtx) [44])),.int .u8 44] W fun r w'=>Below W.heap.size W w'∧ ∃ v,r= .returned v∧w'.ownsRow W.heap.size 9 1 v (zZ 44 (Lib.join (mv.map mtx) [44])).length ((zZ 44 (Lib.join (mv.map mtx) [44])).map sv)):=fun W=>by
  have z:=xR (bs (Lib.join (mv.map mtx) [44])) 44 W (by rw [Lib.size_eq,zh];exact hjl)
  rw [zh] at z
  exact z
 by_cases hnil:mv=[]
 ·subst hnil
  clear hmv hl
  have hbe:bs (Lib.join (([]:List (Int×Int)).map mtx) [44])=⟨#[]⟩:=rfl
  have CU2:Hid (∀ W:World,Calls Tryz.prog 50 #[.string ⟨#[]⟩,.int .u8 44] W fun r w'=>Below W.heap.size W w'∧ ∃ (va:Option Addr) (vc:Nat),r= .returned (.slice va 1 vc)):=fun W=>by
   refine Calls.mono (CU.out W) ?_
   rintro r w' ⟨h1,v,rfl,h2⟩
   obtain ⟨a,c,rfl⟩:=zQ h2
   exact ⟨h1,_,_,rfl⟩
  rw [hbe]
  clear CU hbe hjl
  go_enter Tryz.func52,Tryz.ntmps52
  go_upto_region 2 with fail
  change Code.wp _ _ _ _ (PF0 w (eW id ti st lg f e ra rn rc c u sa sn sc ma mn mc))
  generalize PF0 w (eW id ti st lg f e ra rn rc c u sa sn sc ma mn mc)=w0 at H0 ⊢
  obtain ⟨c0,c1,c2,c3,c4,c5,c6,c7,c8,c9,c10⟩:=zK H0.out.e
  have f10:=zF H0.out.e 10
  have H1:Hid (PFW w (w0.setCell ⟨w.heap.size,10,none⟩ (.slice none 0 0)) (eW id ti st lg f e ra rn rc c u sa sn sc none 0 0)):=H0.out.put 10 _ rfl
  go_upto_region 32 with fail
  generalize w0.setCell ⟨w.heap.size,10,none⟩ (.slice none 0 0)=w1 at H1 ⊢
  clear c0 c1 c2 c3 c4 c5 c6 c7 c8 c9 c10 f10 H0
  go_upto_region 33 with (go_at_call 50;refine Calls.mono (CU2.out _) ?_;rintro r w9 ⟨hb2,va,vc,rfl⟩)
  have H9:=hid (H1.out.step hb2)
  have O9:Hid (OwM (w.heap.size+2) w9 (.slice none 0 0) []):=World.ownsRow_nil _ _ _ _
  clear hb2 H1 CU2
  go_wp2
  refine wp_loop_rounds 1 ?_
  rw [rounds_succ]
  go_upto_region 49 with fail
  obtain ⟨c0,c1,c2,c3,c4,c5,c6,c7,c8,c9,c10⟩:=zK H9.out.e
  obtain ⟨t0,t1,t2,t3,t4,t5,t6,t7,t8,t9,t10⟩:=zK H9.out.z
  obtain ⟨f0,f1,f2,f3,f4,f5,f6,f7,f8,f9,f10⟩:=frz H9.out.z
  go_wp2
  rw [zX]
  have nB:=zk (.string id) (.string ti) (.int .i64 st) (.int .i64 lg) (.string f) (.int .i64 e) (.slice ra rn rc) (.int .i64 c) (.int .i64 u) (.slice sa sn sc) (.slice none 0 0) H9.out.z
  have g:=yH (w:=w) (B:=w.heap.size+1) (v0:= .string id) (v1:= .string ti) (v2:= .int .i64 st) (v3:= .int .i64 lg) (v4:= .string f) (v5:= .int .i64 e) (v6:= .slice ra rn rc) (v7:= .int .i64 c) (v8:= .int .i64 u) (v9:= .slice sa sn sc) (v10:= .slice none 0 0) H9.out.b (by omega)
  have OZ:=OwM.grown O9.out (zT w9 (w.heap.size+1) (.string id) (.string ti) (.int .i64 st) (.int .i64 lg) (.string f) (.int .i64 e) (.slice ra rn rc) (.int .i64 c) (.int .i64 u) (.slice sa sn sc) (.slice none 0 0)) (by omega)
  clear c0 t0 f0 c1 t1 f1 c2 t2 f2 c3 t3 f3 c4 t4 f4 c5 t5 f5 c6 t6 f6 c7 t7 f7 c8 t8 f8 c9 t9 f9 c10 t10 f10
  generalize yI w9 (w.heap.size+1) (.string id) (.string ti) (.int .i64 st) (.int .i64 lg) (.string f) (.int .i64 e) (.slice ra rn rc) (.int .i64 c) (.int .i64 u) (.slice sa sn sc) (.slice none 0 0)=w7 at nB g OZ ⊢
  obtain ⟨c0,c1,c2,c3,c4,c5,c6,c7,c8,c9,c10⟩:=zK nB
  exact bodyPost_ret (v:= .tuple #[.agg (eW id ti st lg f e ra rn rc c u sa sn sc none 0 0),.int .i64 0]) (by simp [results,Tryz.f52,go_sem,c0,c1,c2,c3,c4,c5,c6,c7,c8,c9,c10]) rfl ⟨_,rfl,zW OZ (by omega),g⟩
 ·have hpc:zZ 44 (Lib.join (mv.map mtx) [44])=mv.map mtx:=xy (by simpa using hnil) (fun x hx=>by obtain ⟨d,_,rfl⟩:=List.mem_map.1 hx;exact zcY d 44 (by decide))
  have hlp:0<mv.length:=List.length_pos_iff.2 hnil
  have hne:(bs (Lib.join (mv.map mtx) [44])).toList.isEmpty=false:=by
   rw [ByteArray.toList_eq,zh,List.isEmpty_eq_false_iff]
   refine zcg (by simpa using hnil) (fun x hx=> ?_)
   obtain ⟨d,hd,rfl⟩:=List.mem_map.1 hx
   unfold mtx
   simp
  have RD:Hid (∀ (d:Int),0≤d→d≤73048→ ∀ (t:ByteArray) (W:World),t=bs (dtx d)→Calls Tryz.prog 82 #[.string t] W fun r w'=>r= .returned (.tuple #[.int .i64 d,.int .i64 0])∧Below W.heap.size W w'):=fun d hd0 hd1 t W et=>by
   obtain ⟨y,m,d',h1,h2,e⟩:=jG hd0 hd1
   rw [et,e]
   exact zcG y m d' _ W h1 h2
  have HMV:=hid hmv
  rw [hpc] at CU
  rw [List.length_map] at CU
  have HL:=hid hl
  have hl60:(mv.length:Int)≤60:=by omega
  generalize bs (Lib.join (mv.map mtx) [44])=s at CU hne ⊢
  clear hjl hpc hmv hnil hl
  go_enter Tryz.func52,Tryz.ntmps52
  go_upto_region 2 with fail
  change Code.wp _ _ _ _ (PF0 w (eW id ti st lg f e ra rn rc c u sa sn sc ma mn mc))
  generalize PF0 w (eW id ti st lg f e ra rn rc c u sa sn sc ma mn mc)=w0 at H0 ⊢
  obtain ⟨c0,c1,c2,c3,c4,c5,c6,c7,c8,c9,c10⟩:=zK H0.out.e
  have f10:=zF H0.out.e 10
  have H1:Hid (PFW w (w0.setCell ⟨w.heap.size,10,none⟩ (.slice none 0 0)) (eW id ti st lg f e ra rn rc c u sa sn sc none 0 0)):=H0.out.put 10 _ rfl
  go_upto_region 32 with fail
  generalize w0.setCell ⟨w.heap.size,10,none⟩ (.slice none 0 0)=w1 at H1 ⊢
  clear c0 c1 c2 c3 c4 c5 c6 c7 c8 c9 c10 f10 H0
  go_upto_region 33 with (go_at_call 50;refine Calls.mono (CU.out _) ?_;rintro r w2 ⟨hb2,v,rfl,hrow⟩;obtain ⟨va,vc,rfl⟩:=zQ hrow;obtain ⟨b,rfl,hb3,hb4,hcw⟩:=zew hrow (by simp) (by simpa using hlp))
  have HS2:Hid (MVW w w2 (eW id ti st lg f e ra rn rc c u sa sn sc none 0 0) w2.heap.size b (.slice none 0 0) mv (mv.take 0)):=⟨H1.out.step hb2,World.ownsRow_nil _ _ _ _,hcw,⟨by have:=H1.out.s;omega,hb4,Nat.le_refl _⟩⟩
  clear hb2 hrow hb3 hb4 hcw H1 CU
  go_wp2
  go_loopw [16,17,18,19,20,21] (fun i _ _ _ _ _ wr=> ∃ m:Nat,m≤mv.length∧i= .int .i64 m∧Hid (∃ ka kc,MVW w wr (eW id ti st lg f e ra rn rc c u sa sn sc ka m kc) w2.heap.size b (.slice ka m kc) mv (mv.take m))) (fun i _ _ _ _ _ _=>mv.length - (intOf i).toNat)
  case atStart=>exact ⟨0,Nat.zero_le _,rfl,none,0,HS2.out⟩
  case round=>
   obtain ⟨m,hm,rfl,HR⟩:=hrel
   obtain ⟨ka,kc,hk⟩:=HR.out
   clear HR
   have HK:=hid hk
   by_cases hlt:m<mv.length
   ·have HC:Hid (∀ W,Below wr.heap.size wr W→W.cell? ⟨b,m,none⟩=some (.string (bs (mtx mv[m])))):=fun W hW=>by
     have z:=(HK.out.step hW).cw m (by simpa using hlt)
     rw [List.getElem_map] at z
     exact z
    obtain ⟨⟨ha0,ha1⟩,hd0,hd1⟩:=HMV.out _ (List.getElem_mem hlt)
    have HT:=hid (List.take_succ_eq_append_getElem hlt)
    generalize mv[m]=d at HC HT ha0 ha1 hd0 hd1
    obtain ⟨d1,d2⟩:=d
    dsimp only at ha0 ha1 hd0 hd1
    have htx:(bs (mtx (d1,d2))).data.toList=dtx d1++62::dtx d2:=by rw [zh];rfl
    have hsz:(bs (mtx (d1,d2))).size=(dtx d1).length+1+(dtx d2).length:=by rw [Lib.size_eq,htx,List.length_append,List.length_cons];omega
    have hdl1:=yP d1
    have hdl2:=yP d2
    have HAT:Hid (∀ (k:Nat) (hk:k<(bs (mtx (d1,d2))).size),(k<(dtx d1).length→(bs (mtx (d1,d2)))[k]≠62)∧(k=(dtx d1).length→(bs (mtx (d1,d2)))[k]=62)):=fun k hk=>by
     have z:=Lib.data_getElem? (bs (mtx (d1,d2))) k hk
     rw [htx] at z
     refine ⟨fun q e=> ?_,fun q=> ?_⟩
     ·rw [List.getElem?_append_left q,e] at z
      exact xK d1 62 (by decide) (List.mem_of_getElem? z)
     ·subst q
      rw [List.getElem?_append_right (Nat.le_refl _),Nat.sub_self] at z
      exact (Option.some.inj z).symm
    have R1:=hid (RD.out d1 ha0 ha1)
    have R2:=hid (RD.out d2 hd0 hd1)
    have HE1:Hid (∀ k n:Nat,k=0→n=(dtx d1).length→(bs (mtx (d1,d2))).extract k n=bs (dtx d1)):=fun k n e1 e2=>by
     subst e1 e2
     rw [vH,htx,List.take_left,List.drop_zero]
    have HE2:Hid (∀ k n:Nat,k=(dtx d1).length+1→n=(bs (mtx (d1,d2))).size→(bs (mtx (d1,d2))).extract k n=bs (dtx d2)):=fun k n e1 e2=>by
     subst e1 e2
     rw [vH,htx,List.take_of_length_le (by rw [hsz,List.length_append,List.length_cons];omega),←List.drop_drop,List.drop_left]
     rfl
    generalize bs (mtx (d1,d2))=tx at HC hsz HAT HE1 HE2 htx
    generalize (dtx d1).length=La at hsz HAT HE1 HE2 hdl1
    generalize (dtx d2).length=Lb at hsz hdl2
    have hcell:=HC.out wr (Below.refl _ _)
    have g1:(0:Int)≤(m:Int):=by omega
    have g2:(m:Int)<(mv.length:Int):=by omega
    have hls:(La:Int)<(tx.size:Int):=by omega
    have htz:(tx.size:Int)≤21:=by omega
    have HSZ:=hid hsz
    clear hk htx hsz ha0 ha1 hd0 hd1
    go_wp2
    go_loop [17] (fun k=> ∃ n:Nat,n≤La∧k= .int .i64 n) (fun k=>La - (intOf k).toNat)
    case atStart=>exact ⟨0,Nat.zero_le _,rfl⟩
    case round=>
     obtain ⟨k,hkL,rfl⟩:=hrel
     have hks:k<tx.size:=by have:=HSZ.out;omega
     have hki:(k:Int)<(tx.size:Int):=by omega
     have hk0:(0:Int)≤(k:Int):=by omega
     obtain ⟨a1,a2⟩:=HAT.out k hks
     by_cases hkl:k<La
     ·have hcv: ¬ ((tx[k].toNat:Int)=62):=fun q=>a1 hkl (UInt8.toNat_inj.1 (by show tx[k].toNat=62;omega))
      clear a1 a2
      go_wp2
      go_round
      case rel=>exact ⟨k+1,by omega,by go_num⟩
      case measure=>simp [intOf];omega
     ·have hkl':k=La:=by omega
      have hcv:(tx[k].toNat:Int)=62:=by rw [a2 hkl'];rfl
      subst hkl'
      have hkn: ¬ ((k:Int)=(tx.size:Int)):=by omega
      have b1:(k:Int)+1≤(tx.size:Int):=by omega
      have b2:(0:Int)≤(k:Int)+1:=by omega
      clear a1 a2 HAT
      go_upto_region 42 with (go_at_call 82;refine Calls.mono (R1.out _ _ (HE1.out _ _ (by omega) (by omega))) ?_;rintro r w4 ⟨rfl,hb4⟩;have HK4:=hid (HK.out.step hb4);have hcell4:=HC.out w4 hb4;have HB4:=hid hb4;clear hb4)
      go_upto_region 47 with (go_at_call 82;refine Calls.mono (R2.out _ _ (HE2.out _ _ (by omega) (by omega))) ?_;rintro r w5 ⟨rfl,hb5⟩;have HK5:=hid (HK4.out.step hb5);clear hb5)
      obtain ⟨c0,c1,c2,c3,c4,c5,c6,c7,c8,c9,c10⟩:=zK HK5.out.pf.e
      have hA:=zC w5 (.cells #[.int .i64 d1,.int .i64 d2] 114)
      have HK6:=hid (HK5.out.step hA)
      have HROW:Hid (World.ownsRow (w5.alloc (.cells #[.int .i64 d1,.int .i64 d2] 114)) w2.heap.size 114 2 (.slice ka m kc) m (yF (mv.take m))):=by
       have z:World.ownsRow _ _ _ _ _ _ _:=HK6.out.ow
       rw [List.length_take,Nat.min_eq_left (by omega)] at z
       exact z
      have NC:Hid (∀ (j:Nat) (v:Value),[Value.int .i64 d1,.int .i64 d2][j]? =some v→(w5.alloc (.cells #[.int .i64 d1,.int .i64 d2] 114)).cell? ((⟨w5.heap.size,0,none⟩:Addr).add j)=some v):=za0 w5 _ _
      clear hA
      go_upto_region 48 with (at_builtin;refine wpList_append_own_at _ rfl _ _ 46 rfl w2.heap.size 114 i0 (.agg #[.int .i64 0,.int .i64 0]) 2 16 Tryz.underlying46 hi hz0 hz1 hz2 rfl (by decide) _ _ _ rfl HROW.out ⟨w5.heap.size,0,none⟩ 1 1 [.int .i64 d1,.int .i64 d2] rfl rfl NC.out (fun v hv=>by simp only [List.mem_cons,List.not_mem_nil,or_false] at hv;rcases hv with rfl|rfl<;>rfl) (by have:=HL.out;unfold maxLen;omega) (by have:=HL.out;omega) (HK6.out.hb.2.2) ?_;intro v' w7 hown' hgrow _ hat;have HOWN:=hid hown';have HGR:=hid hgrow;clear hown' hgrow hat)
      obtain ⟨na,nc,rfl⟩:=zQ HOWN.out
      have HOB:Hid (∀ k,(Value.slice ka m kc).ownBlock=some k→w2.heap.size≤k):=fun k q=>(World.ownsRow.lt HROW.out k q).1
      have P7:Hid (PFW w w7 (eW id ti st lg f e ra rn rc c u sa sn sc ka m kc)):=HK6.out.pf.far HGR.out (fun k q=>by have:=HOB.out k q;have:=HK6.out.hb;omega)
      have W7:Hid (CW w7 b (mv.map mtx)):=HK6.out.cw.same (HGR.out.block _ (by have:=HK6.out.hb;omega) (fun q=>by have:=HOB.out b q.symm;have:=HK6.out.hb;omega))
      have S7:=hid (Nat.le_trans HK6.out.hb.2.2 HGR.out.size)
      have HBB:Hid (w.heap.size+2≤b∧b<w2.heap.size):=⟨HK6.out.hb.1,HK6.out.hb.2.1⟩
      clear c0 c1 c2 c3 c4 c5 c6 c7 c8 c9 c10 NC HK5 HK6 HROW HGR HC R1 R2 HK HK4 HB4 hcell hcell4 HE1 HE2
      have f10:=zF P7.out.e 10
      obtain ⟨_,_,_,_,_,_,_,_,_,_,y10⟩:=zK P7.out.e
      have H8:Hid (MVW w (w7.setCell ⟨w.heap.size,10,none⟩ (.slice na (m+1) nc)) (eW id ti st lg f e ra rn rc c u sa sn sc na (m+1) nc) w2.heap.size b (.slice na (m+1) nc) mv (mv.take (m+1))):=by
       have g:=zG w7 ⟨w.heap.size,10,none⟩ (.slice na (m+1) nc)
       refine ⟨P7.out.put 10 _ rfl,?_,W7.out.same (g.block _ (by have:=S7.out;have:=HBB.out;omega) (fun q=>by have q':b=w.heap.size:=Option.some.inj q;have:=HBB.out;omega)),⟨HBB.out.1,HBB.out.2,Nat.le_trans S7.out g.size⟩⟩
       refine OwM.grown ?_ g (show w.heap.size<w2.heap.size by have:=HBB.out;omega)
       unfold OwM
       rw [HT.out,vI,List.length_append,List.length_take,Nat.min_eq_left (by omega)]
       exact HOWN.out
      go_wp2
      refine ⟨⟨m+1,by omega,by go_num,na,nc,H8.out⟩,?_⟩
      simp [intOf];omega
   ·have g2:(mv.length:Int)≤(m:Int):=by omega
    have hml:m=mv.length:=by omega
    go_upto_region 49 with fail
    have H9:=hid HK.out.pf
    have O9:Hid (OwM w2.heap.size wr (.slice ka m kc) mv):=by
     have z:=HK.out.ow
     rw [hml,List.take_length,←hml] at z
     exact z
    have HBB:Hid (w.heap.size+2<w2.heap.size):=by have:=HK.out.hb;show _<_;omega
    have hbb:=HBB.out
    clear hk HK HS2 RD HL hml
    generalize wr=w9 at H9 O9 ⊢
    obtain ⟨c0,c1,c2,c3,c4,c5,c6,c7,c8,c9,c10⟩:=zK H9.out.e
    obtain ⟨t0,t1,t2,t3,t4,t5,t6,t7,t8,t9,t10⟩:=zK H9.out.z
    obtain ⟨f0,f1,f2,f3,f4,f5,f6,f7,f8,f9,f10⟩:=frz H9.out.z
    go_wp2
    rw [zX]
    have nB:=zk (.string id) (.string ti) (.int .i64 st) (.int .i64 lg) (.string f) (.int .i64 e) (.slice ra rn rc) (.int .i64 c) (.int .i64 u) (.slice sa sn sc) (.slice ka m kc) H9.out.z
    have g:=yH (w:=w) (B:=w.heap.size+1) (v0:= .string id) (v1:= .string ti) (v2:= .int .i64 st) (v3:= .int .i64 lg) (v4:= .string f) (v5:= .int .i64 e) (v6:= .slice ra rn rc) (v7:= .int .i64 c) (v8:= .int .i64 u) (v9:= .slice sa sn sc) (v10:= .slice ka m kc) H9.out.b (by omega)
    have OZ:=OwM.grown O9.out (zT w9 (w.heap.size+1) (.string id) (.string ti) (.int .i64 st) (.int .i64 lg) (.string f) (.int .i64 e) (.slice ra rn rc) (.int .i64 c) (.int .i64 u) (.slice sa sn sc) (.slice ka m kc)) (by omega)
    clear c0 t0 f0 c1 t1 f1 c2 t2 f2 c3 t3 f3 c4 t4 f4 c5 t5 f5 c6 t6 f6 c7 t7 f7 c8 t8 f8 c9 t9 f9 c10 t10 f10
    generalize yI w9 (w.heap.size+1) (.string id) (.string ti) (.int .i64 st) (.int .i64 lg) (.string f) (.int .i64 e) (.slice ra rn rc) (.int .i64 c) (.int .i64 u) (.slice sa sn sc) (.slice ka m kc)=w7 at nB g OZ ⊢
    obtain ⟨c0,c1,c2,c3,c4,c5,c6,c7,c8,c9,c10⟩:=zK nB
    exact bodyPost_ret (v:= .tuple #[.agg (eW id ti st lg f e ra rn rc c u sa sn sc ka m kc),.int .i64 0]) (by simp [results,Tryz.f52,go_sem,c0,c1,c2,c3,c4,c5,c6,c7,c8,c9,c10]) rfl ⟨_,rfl,zW OZ (by omega),g⟩
end Go.Proofs.YtpeafgddbbojaaaGreatDoor
