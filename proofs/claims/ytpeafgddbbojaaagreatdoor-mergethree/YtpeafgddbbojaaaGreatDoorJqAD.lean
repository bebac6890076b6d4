import Derived.Test.YtpeafgddbbojaaaGreatDoorJqAA
import Derived.Test.YtpeafgddbbojaaaGreatDoorJqAC
import Derived.Deep.DeepCutAuto
import Derived.Test.YtpeafgddbbojaaaGreatDoorJqAB
import Derived.Lib.SliceRun
namespace Go.Proofs.YtpeafgddbbojaaaGreatDoor
open Go Go.RowKit Cal
attribute [local go_sem] Oper.semAt_some
theorem zF{W:World}{n:Nat}{cs:Array Value}{t:TypeId}(h:W.heap[n]? =some (.cells cs t (0,0)))(i:Nat):W.frozen? ⟨n,i,none⟩=false:=by
 simp [World.frozen?,h]
theorem zks{W:World}{n:Nat}{v0 v1 v2 v3 v4 v5 v6 v7 v8 v9 v10:Value}{t:TypeId}{fr:Nat×Nat}(v:Value)(h:W.heap[n]? =some (.cells #[v0,v1,v2,v3,v4,v5,v6,v7,v8,v9,v10] t fr)):(W.setCell ⟨n,0,none⟩ v).heap[n]? =some (.cells #[v,v1,v2,v3,v4,v5,v6,v7,v8,v9,v10] t fr):=zM (i:=0) v h
theorem zd9{W:World}{n:Nat}{v0 v1 v2 v3 v4 v5 v6 v7 v8 v9 v10:Value}{t:TypeId}{fr:Nat×Nat}(v:Value)(h:W.heap[n]? =some (.cells #[v0,v1,v2,v3,v4,v5,v6,v7,v8,v9,v10] t fr)):(W.setCell ⟨n,1,none⟩ v).heap[n]? =some (.cells #[v0,v,v2,v3,v4,v5,v6,v7,v8,v9,v10] t fr):=zM (i:=1) v h
theorem zea{W:World}{n:Nat}{v0 v1 v2 v3 v4 v5 v6 v7 v8 v9 v10:Value}{t:TypeId}{fr:Nat×Nat}(v:Value)(h:W.heap[n]? =some (.cells #[v0,v1,v2,v3,v4,v5,v6,v7,v8,v9,v10] t fr)):(W.setCell ⟨n,2,none⟩ v).heap[n]? =some (.cells #[v0,v1,v,v3,v4,v5,v6,v7,v8,v9,v10] t fr):=zM (i:=2) v h
theorem zeb{W:World}{n:Nat}{v0 v1 v2 v3 v4 v5 v6 v7 v8 v9 v10:Value}{t:TypeId}{fr:Nat×Nat}(v:Value)(h:W.heap[n]? =some (.cells #[v0,v1,v2,v3,v4,v5,v6,v7,v8,v9,v10] t fr)):(W.setCell ⟨n,3,none⟩ v).heap[n]? =some (.cells #[v0,v1,v2,v,v4,v5,v6,v7,v8,v9,v10] t fr):=zM (i:=3) v h
theorem zec{W:World}{n:Nat}{v0 v1 v2 v3 v4 v5 v6 v7 v8 v9 v10:Value}{t:TypeId}{fr:Nat×Nat}(v:Value)(h:W.heap[n]? =some (.cells #[v0,v1,v2,v3,v4,v5,v6,v7,v8,v9,v10] t fr)):(W.setCell ⟨n,4,none⟩ v).heap[n]? =some (.cells #[v0,v1,v2,v3,v,v5,v6,v7,v8,v9,v10] t fr):=zM (i:=4) v h
theorem zed{W:World}{n:Nat}{v0 v1 v2 v3 v4 v5 v6 v7 v8 v9 v10:Value}{t:TypeId}{fr:Nat×Nat}(v:Value)(h:W.heap[n]? =some (.cells #[v0,v1,v2,v3,v4,v5,v6,v7,v8,v9,v10] t fr)):(W.setCell ⟨n,5,none⟩ v).heap[n]? =some (.cells #[v0,v1,v2,v3,v4,v,v6,v7,v8,v9,v10] t fr):=zM (i:=5) v h
theorem zct{W:World}{n:Nat}{v0 v1 v2 v3 v4 v5 v6 v7 v8 v9 v10:Value}{t:TypeId}{fr:Nat×Nat}(v:Value)(h:W.heap[n]? =some (.cells #[v0,v1,v2,v3,v4,v5,v6,v7,v8,v9,v10] t fr)):(W.setCell ⟨n,6,none⟩ v).heap[n]? =some (.cells #[v0,v1,v2,v3,v4,v5,v,v7,v8,v9,v10] t fr):=zM (i:=6) v h
theorem zee{W:World}{n:Nat}{v0 v1 v2 v3 v4 v5 v6 v7 v8 v9 v10:Value}{t:TypeId}{fr:Nat×Nat}(v:Value)(h:W.heap[n]? =some (.cells #[v0,v1,v2,v3,v4,v5,v6,v7,v8,v9,v10] t fr)):(W.setCell ⟨n,7,none⟩ v).heap[n]? =some (.cells #[v0,v1,v2,v3,v4,v5,v6,v,v8,v9,v10] t fr):=zM (i:=7) v h
theorem zef{W:World}{n:Nat}{v0 v1 v2 v3 v4 v5 v6 v7 v8 v9 v10:Value}{t:TypeId}{fr:Nat×Nat}(v:Value)(h:W.heap[n]? =some (.cells #[v0,v1,v2,v3,v4,v5,v6,v7,v8,v9,v10] t fr)):(W.setCell ⟨n,8,none⟩ v).heap[n]? =some (.cells #[v0,v1,v2,v3,v4,v5,v6,v7,v,v9,v10] t fr):=zM (i:=8) v h
theorem vX{W:World}{n:Nat}{v0 v1 v2 v3 v4 v5 v6 v7 v8 v9 v10:Value}{t:TypeId}{fr:Nat×Nat}(v:Value)(h:W.heap[n]? =some (.cells #[v0,v1,v2,v3,v4,v5,v6,v7,v8,v9,v10] t fr)):(W.setCell ⟨n,9,none⟩ v).heap[n]? =some (.cells #[v0,v1,v2,v3,v4,v5,v6,v7,v8,v,v10] t fr):=zM (i:=9) v h
theorem xY{W:World}{n:Nat}{v0 v1 v2 v3 v4 v5 v6 v7 v8 v9 v10:Value}{t:TypeId}{fr:Nat×Nat}(v:Value)(h:W.heap[n]? =some (.cells #[v0,v1,v2,v3,v4,v5,v6,v7,v8,v9,v10] t fr)):(W.setCell ⟨n,10,none⟩ v).heap[n]? =some (.cells #[v0,v1,v2,v3,v4,v5,v6,v7,v8,v9,v] t fr):=zM (i:=10) v h
def yI(W:World)(B:Nat)(v0 v1 v2 v3 v4 v5 v6 v7 v8 v9 v10:Value):World:=(((((((((((W.setCell ⟨B,0,none⟩ v0).setCell ⟨B,1,none⟩ v1).setCell ⟨B,2,none⟩ v2).setCell ⟨B,3,none⟩ v3).setCell ⟨B,4,none⟩ v4).setCell ⟨B,5,none⟩ v5).setCell ⟨B,6,none⟩ v6).setCell ⟨B,7,none⟩ v7).setCell ⟨B,8,none⟩ v8).setCell ⟨B,9,none⟩ v9).setCell ⟨B,10,none⟩ v10)
theorem zX(W:World)(B:Nat)(v0 v1 v2 v3 v4 v5 v6 v7 v8 v9 v10:Value):(((((((((((W.setCell ⟨B,0,none⟩ v0).setCell ⟨B,1,none⟩ v1).setCell ⟨B,2,none⟩ v2).setCell ⟨B,3,none⟩ v3).setCell ⟨B,4,none⟩ v4).setCell ⟨B,5,none⟩ v5).setCell ⟨B,6,none⟩ v6).setCell ⟨B,7,none⟩ v7).setCell ⟨B,8,none⟩ v8).setCell ⟨B,9,none⟩ v9).setCell ⟨B,10,none⟩ v10)=yI W B v0 v1 v2 v3 v4 v5 v6 v7 v8 v9 v10:=rfl
theorem zT(W:World)(B:Nat)(v0 v1 v2 v3 v4 v5 v6 v7 v8 v9 v10:Value):W.grownBy (yI W B v0 v1 v2 v3 v4 v5 v6 v7 v8 v9 v10) (some B):=(zL (zL (zL (zL (zL (zL (zL (zL (zL (zL (zG _ ⟨B,0,none⟩ _) (zG _ ⟨B,1,none⟩ _)) (zG _ ⟨B,2,none⟩ _)) (zG _ ⟨B,3,none⟩ _)) (zG _ ⟨B,4,none⟩ _)) (zG _ ⟨B,5,none⟩ _)) (zG _ ⟨B,6,none⟩ _)) (zG _ ⟨B,7,none⟩ _)) (zG _ ⟨B,8,none⟩ _)) (zG _ ⟨B,9,none⟩ _)) (zG _ ⟨B,10,none⟩ _))
theorem zk{W:World}{B:Nat}{u0 u1 u2 u3 u4 u5 u6 u7 u8 u9 u10:Value}{t:TypeId}{fr:Nat×Nat}(v0 v1 v2 v3 v4 v5 v6 v7 v8 v9 v10:Value)(h:W.heap[B]? =some (.cells #[u0,u1,u2,u3,u4,u5,u6,u7,u8,u9,u10] t fr)):(yI W B v0 v1 v2 v3 v4 v5 v6 v7 v8 v9 v10).heap[B]? =some (.cells #[v0,v1,v2,v3,v4,v5,v6,v7,v8,v9,v10] t fr):=
 (xY v10 (vX v9 (zef v8 (zee v7 (zct v6 (zed v5 (zec v4 (zeb v3 (zea v2 (zd9 v1 (zks v0 h)))))))))))
structure Lists(W:World)(E:EV)(sl skv mvv:Value):Prop where
 d:Days W sl E.ds
 s:Ints W skv E.sk
 m:Movs W mvv E.mv
 gd:Got W sl E.ds
 gs:Got W skv E.sk
 gm:GotM W mvv E.mv
theorem Lists.step{W W':World}{E:EV}{sl skv mvv:Value}(h:Lists W E sl skv mvv)(hb:Below W.heap.size W W'):Lists W' E sl skv mvv:=
 ⟨h.d.step hb,h.s.step hb,h.m.step hb,h.gd.step hb,h.gs.step hb,h.gm.step hb⟩
theorem zx{W:World}{sl:Value}{xs:List Int}(h:Got W sl xs): ∃ a c,sl= .slice a xs.length c:=by
 obtain ⟨a,c,e,_⟩:=h;exact ⟨a,c,e⟩
theorem zo{W:World}{sl:Value}{xs:List (Int×Int)}(h:GotM W sl xs): ∃ a c,sl= .slice a xs.length c:=by
 obtain ⟨a,c,e,_⟩:=h;exact ⟨a,c,e⟩
theorem ze9{W:World}{ad:Addr}{xs:List Int}{cap:Nat}(h:Got W (.slice (some ad) xs.length cap) xs): ∀ (j:Nat) (v:Value),(xs.map (Value.int .i64))[j]? =some v→W.cell? (ad.add j)=some v:=fun j v hv=>by
 obtain ⟨a,c,e,_,hc⟩:=h
 cases e
 rw [List.getElem?_map] at hv
 obtain ⟨d,hd,rfl⟩:=Option.map_eq_some_iff.1 hv
 obtain ⟨hj,rfl⟩:=List.getElem?_eq_some_iff.1 hd
 exact (hc ad rfl j hj).2
theorem zdm{W:World}{ad:Addr}{xs:List (Int×Int)}{cap:Nat}(h:GotM W (.slice (some ad) xs.length cap) xs): ∀ (j:Nat) (v:Value),(yF xs)[j]? =some v→W.cell? (ad.add j)=some v:=by
 obtain ⟨a,c,e,_,hc⟩:=h
 cases e
 exact zbd xs (fun i u=>W.cell? (ad.add i)=some u) (fun j hj=>(hc ad rfl j hj).2)
set_option maxHeartbeats 4000000 in
set_option maxRecDepth 100000 in
theorem zdn(E:EV)(sl skv mvv:Value)(w:World)(hd:Got w sl E.ds)(hs:Got w skv E.sk)(hm:GotM w mvv E.mv)(h20:E.ds.length≤20)(hs25:E.sk.length≤30)(hm25:E.mv.length≤30):
  Calls Tryz.prog 17 #[ev E sl skv mvv] w fun r w'=> ∃ sl' skv' mvv',r= .returned (ev E sl' skv' mvv')∧Lists w' E sl' skv' mvv'∧Below w.heap.size w w':=by
 have hA:=xt w (.cells #[.string E.id,.string E.ti,.int .i64 E.st,.int .i64 E.lg,.string E.f,.int .i64 E.e,sl,.int .i64 E.c,.int .i64 E.u,skv,mvv] 48) (.cells zA 48)
 have hd0:=hd.step hA
 have HS1:=hid hs
 have HM1:=hid hm
 obtain ⟨i0,hi,hz0,hz1,hz2⟩:=info_parts yZ
 obtain ⟨i1,hi1,hy0,hy1,hy2⟩:=info_parts xN
 obtain ⟨ra,rc,rfl⟩:=zx hd
 obtain ⟨sa,sc,rfl⟩:=zx hs
 obtain ⟨ma,mc,rfl⟩:=zo hm
 have k0:((w.alloc (.cells (eW E.id E.ti E.st E.lg E.f E.e ra E.ds.length rc E.c E.u sa E.sk.length sc ma E.mv.length mc) 48)).alloc (.cells zA 48)).heap[w.heap.size]? =some (.cells (eW E.id E.ti E.st E.lg E.f E.e ra E.ds.length rc E.c E.u sa E.sk.length sc ma E.mv.length mc) 48 (0,0)):=zH _ (zJ _ rfl)
 have k1:((w.alloc (.cells (eW E.id E.ti E.st E.lg E.f E.e ra E.ds.length rc E.c E.u sa E.sk.length sc ma E.mv.length mc) 48)).alloc (.cells zA 48)).heap[w.heap.size+1]? =some (.cells zA 48 (0,0)):=zJ _ (by simp)
 have hz:((w.alloc (.cells (eW E.id E.ti E.st E.lg E.f E.e ra E.ds.length rc E.c E.u sa E.sk.length sc ma E.mv.length mc) 48)).alloc (.cells zA 48)).heap.size=w.heap.size+2:=by simp
 obtain ⟨idn,ti,st,lg,f,e,ds,c,u,sk,mv⟩:=E
 unfold ev
 dsimp only at*
 have OR:=zfX f e (.slice ra ds.length rc) c u ds _ hd0 h20
 unfold rv at OR
 have HA:Hid (_):=hA
 have HZ:Hid (_):=hz
 clear hd hs hm hd0 hA hz
 generalize hw0:(w.alloc (.cells (eW idn ti st lg f e ra ds.length rc c u sa sk.length sc ma mv.length mc) 48)).alloc (.cells zA 48)=w0 at HA k0 k1 HZ OR
 obtain ⟨x0,x1,x2,x3,x4,x5,x6,x7,x8,x9,x10⟩:=zK k0
 have HOR:=hid OR
 have KA:=hid k0
 have KB:=hid k1
 clear OR k0 k1
 go_enter Tryz.func17,Tryz.ntmps17
 go_upto_region 4 with (go_at_call 38;refine Calls.mono HOR.out ?_;rintro r w1 ⟨sl',rfl,ho1,hb1⟩;obtain ⟨ra',rc',rfl⟩:=zw ho1;have ka:w1.heap[w.heap.size]? =some (.cells (eW idn ti st lg f e ra ds.length rc c u sa sk.length sc ma mv.length mc) 48 (0,0)):=(hb1.block _ (by rw [HZ.out];omega)).trans KA.out;have KB1:Hid (w1.heap[w.heap.size+1]? =some (.cells zA 48 (0,0))):=(hb1.block _ (by rw [HZ.out];omega)).trans KB.out;have KA1:=hid ka;have y4:=zF ka 4;have y5:=zF ka 5;have y6:=zF ka 6;have y7:=zF ka 7;have y8:=zF ka 8;clear x0 x1 x2 x3 x4 x5 x6 x7 x8 x9 x10;obtain ⟨x0,x1,x2,x3,x4,x5,x6,x7,x8,x9,x10⟩:=zK ka;have O1:Hid (Ow (w.heap.size+2) w1 (.slice ra' ds.length rc') ds):=(by rw [HZ.out] at ho1;exact ho1);have HB1:Hid (_):=hb1;have hz1:w.heap.size+2≤w1.heap.size:=(by have:=hb1.size;rw [HZ.out] at this;exact this);clear ka ho1 hb1;dsimp only [rv])
 have m4:=zec (.string f) KA1.out
 have m5:=zed (.int .i64 e) m4
 have m6:=zct (.slice ra' ds.length rc') m5
 have m7:=zee (.int .i64 c) m6
 have m8:=zef (.int .i64 u) m7
 have g2:w1.grownBy (((((w1.setCell ⟨w.heap.size,4,none⟩ (.string f)).setCell ⟨w.heap.size,5,none⟩ (.int .i64 e)).setCell ⟨w.heap.size,6,none⟩ (.slice ra' ds.length rc')).setCell ⟨w.heap.size,7,none⟩ (.int .i64 c)).setCell ⟨w.heap.size,8,none⟩ (.int .i64 u)) (some (w.heap.size)):=(zL (zL (zL (zL (zG _ ⟨w.heap.size,4,none⟩ _) (zG _ ⟨w.heap.size,5,none⟩ _)) (zG _ ⟨w.heap.size,6,none⟩ _)) (zG _ ⟨w.heap.size,7,none⟩ _)) (zG _ ⟨w.heap.size,8,none⟩ _))
 have O2:=hid (Ow.grown O1.out g2 (by omega))
 have KB2:Hid ((((((w1.setCell ⟨w.heap.size,4,none⟩ (.string f)).setCell ⟨w.heap.size,5,none⟩ (.int .i64 e)).setCell ⟨w.heap.size,6,none⟩ (.slice ra' ds.length rc')).setCell ⟨w.heap.size,7,none⟩ (.int .i64 c)).setCell ⟨w.heap.size,8,none⟩ (.int .i64 u)).heap[w.heap.size+1]? =some (.cells zA 48 (0,0))):=(g2.block _ (by omega) (fun q=>by simp at q)).trans KB1.out
 have B2:Hid (Below w.heap.size w (((((w1.setCell ⟨w.heap.size,4,none⟩ (.string f)).setCell ⟨w.heap.size,5,none⟩ (.int .i64 e)).setCell ⟨w.heap.size,6,none⟩ (.slice ra' ds.length rc')).setCell ⟨w.heap.size,7,none⟩ (.int .i64 c)).setCell ⟨w.heap.size,8,none⟩ (.int .i64 u))):=(zB HA.out HB1.out).grown g2 (by omega) (fun k q=>by cases q;exact Nat.le_refl _)
 have GS2:=hid (HS1.out.step B2.out)
 have GM2:=hid (HM1.out.step B2.out)
 have KA2:=hid m8
 have hz2':w.heap.size+2≤(((((w1.setCell ⟨w.heap.size,4,none⟩ (.string f)).setCell ⟨w.heap.size,5,none⟩ (.int .i64 e)).setCell ⟨w.heap.size,6,none⟩ (.slice ra' ds.length rc')).setCell ⟨w.heap.size,7,none⟩ (.int .i64 c)).setCell ⟨w.heap.size,8,none⟩ (.int .i64 u)).heap.size:=Nat.le_trans hz1 g2.size
 clear m4 m5 m6 m7 m8 g2 KA1 KB1 O1 HB1 HA KA KB x0 x1 x2 x3 x4 x5 x6 x7 x8 x9 x10 y4 y5 y6 y7 y8 hz1 HOR
 generalize (((((w1.setCell ⟨w.heap.size,4,none⟩ (.string f)).setCell ⟨w.heap.size,5,none⟩ (.int .i64 e)).setCell ⟨w.heap.size,6,none⟩ (.slice ra' ds.length rc')).setCell ⟨w.heap.size,7,none⟩ (.int .i64 c)).setCell ⟨w.heap.size,8,none⟩ (.int .i64 u))=w2 at O2 KB2 B2 GS2 GM2 KA2 hz2' ⊢
 obtain ⟨x0,x1,x2,x3,x4,x5,x6,x7,x8,x9,x10⟩:=zK KA2.out
 clear x0 x1 x2 x3 x4 x5 x6 x7 x8
 have z9:=zF KA2.out 9
 have z10:=zF KA2.out 10
 cases sa with
 |none=>
  obtain ⟨h0,rfl⟩:sk=[]∧sc=0:=by obtain ⟨a',c',e1,e2,_⟩:=HS1.out;cases e1;exact ⟨List.length_eq_zero_iff.1 (e2 rfl).1,(e2 rfl).2⟩
  subst h0
  simp only [List.length_nil] at*
  cases ma with
  |none=>
   obtain ⟨h0,rfl⟩:mv=[]∧mc=0:=by obtain ⟨a',c',e1,e2,_⟩:=HM1.out;cases e1;exact ⟨List.length_eq_zero_iff.1 (e2 rfl).1,(e2 rfl).2⟩
   subst h0
   simp only [List.length_nil] at*
   have OS0:Hid (Ow (w.heap.size+2) w2 (.slice none 0 0) ([]:List Int)):=Ow.nil _ _
   have BG:Hid (Below w2.heap.size w2 w2):=Below.refl _ _
   have KA3:=hid KA2.out
   go_upto_region 5 with (fail)
   have m9:(w2.setCell ⟨w.heap.size,9,none⟩ (.slice none 0 0)).heap[w.heap.size]? =some (.cells (eW idn ti st lg f e ra' ds.length rc' c u none 0 0 none 0 0) 48 (0,0)):=vX (.slice none 0 0) KA3.out
   have g3:w2.grownBy (w2.setCell ⟨w.heap.size,9,none⟩ (.slice none 0 0)) (some (w.heap.size)):=zG w2 ⟨w.heap.size,9,none⟩ (.slice none 0 0)
   have hz3:w.heap.size+2≤w2.heap.size:=Nat.le_trans hz2' BG.out.size
   have OR3:=hid (Ow.grown (Ow.step O2.out BG.out) g3 (by omega))
   have OS3:=hid (Ow.grown OS0.out g3 (by omega))
   have KB3:Hid ((w2.setCell ⟨w.heap.size,9,none⟩ (.slice none 0 0)).heap[w.heap.size+1]? =some (.cells zA 48 (0,0))):=(g3.block _ (by omega) (fun q=>by simp at q)).trans ((BG.out.block _ (by omega)).trans KB2.out)
   have B3:Hid (Below w.heap.size w (w2.setCell ⟨w.heap.size,9,none⟩ (.slice none 0 0))):=(zB B2.out BG.out).grown g3 (by omega) (fun k q=>by cases q;exact Nat.le_refl _)
   have GM3:=hid (HM1.out.step B3.out)
   have KA4:=hid m9
   have hz4:w.heap.size+2≤(w2.setCell ⟨w.heap.size,9,none⟩ (.slice none 0 0)).heap.size:=Nat.le_trans hz3 g3.size
   clear m9 g3 hz3 KA3 OS0 BG KA2 KB2 O2 B2 GS2 GM2 hz2' x9 x10 z9 z10
   generalize (w2.setCell ⟨w.heap.size,9,none⟩ (.slice none 0 0))=w4 at OR3 OS3 KB3 B3 GM3 KA4 hz4 ⊢
   have x10:=(zK KA4.out).2.2.2.2.2.2.2.2.2.2
   have z10:=zF KA4.out 10
   have OM0:Hid (OwM (w.heap.size+2) w4 (.slice none 0 0) ([]:List (Int×Int))):=World.ownsRow_nil _ _ _ _
   have BG:Hid (Below w4.heap.size w4 w4):=Below.refl _ _
   have KA5:=hid KA4.out
   go_upto_region 6 with (fail)
   have m9:(w4.setCell ⟨w.heap.size,10,none⟩ (.slice none 0 0)).heap[w.heap.size]? =some (.cells (eW idn ti st lg f e ra' ds.length rc' c u none 0 0 none 0 0) 48 (0,0)):=xY (.slice none 0 0) KA5.out
   have g3:w4.grownBy (w4.setCell ⟨w.heap.size,10,none⟩ (.slice none 0 0)) (some (w.heap.size)):=zG w4 ⟨w.heap.size,10,none⟩ (.slice none 0 0)
   have hz5:w.heap.size+2≤w4.heap.size:=Nat.le_trans hz4 BG.out.size
   have OR5:=hid (Ow.grown (Ow.step OR3.out BG.out) g3 (by omega))
   have OS5:=hid (Ow.grown (Ow.step OS3.out BG.out) g3 (by omega))
   have OM5:=hid (OwM.grown OM0.out g3 (by omega))
   have KB5:Hid ((w4.setCell ⟨w.heap.size,10,none⟩ (.slice none 0 0)).heap[w.heap.size+1]? =some (.cells zA 48 (0,0))):=(g3.block _ (by omega) (fun q=>by simp at q)).trans ((BG.out.block _ (by omega)).trans KB3.out)
   have B5:Hid (Below w.heap.size w (w4.setCell ⟨w.heap.size,10,none⟩ (.slice none 0 0))):=(zB B3.out BG.out).grown g3 (by omega) (fun k q=>by cases q;exact Nat.le_refl _)
   have KA6:=hid m9
   have hz6:w.heap.size+2≤(w4.setCell ⟨w.heap.size,10,none⟩ (.slice none 0 0)).heap.size:=Nat.le_trans hz5 g3.size
   clear m9 g3 hz5 KA5 OM0 BG KA4 KB3 OR3 OS3 B3 GM3 hz4 x10 z10
   generalize (w4.setCell ⟨w.heap.size,10,none⟩ (.slice none 0 0))=w6 at OR5 OS5 OM5 KB5 B5 KA6 hz6 ⊢
   obtain ⟨x0,x1,x2,x3,x4,x5,x6,x7,x8,x9,x10⟩:=zK KA6.out
   obtain ⟨t0,t1,t2,t3,t4,t5,t6,t7,t8,t9,t10⟩:=zK KB5.out
   obtain ⟨f0,f1,f2,f3,f4,f5,f6,f7,f8,f9,f10⟩:=frz KB5.out
   go_wp2
   rw [zX]
   have n10:=zk (.string idn) (.string ti) (.int .i64 st) (.int .i64 lg) (.string f) (.int .i64 e) (.slice ra' ds.length rc') (.int .i64 c) (.int .i64 u) (.slice none 0 0) (.slice none 0 0) KB5.out
   have g7:=zT w6 (w.heap.size+1) (.string idn) (.string ti) (.int .i64 st) (.int .i64 lg) (.string f) (.int .i64 e) (.slice ra' ds.length rc') (.int .i64 c) (.int .i64 u) (.slice none 0 0) (.slice none 0 0)
   clear x0 x1 x2 x3 x4 x5 x6 x7 x8 x9 x10 t0 t1 t2 t3 t4 t5 t6 t7 t8 t9 t10 f0 f1 f2 f3 f4 f5 f6 f7 f8 f9 f10
   generalize yI w6 (w.heap.size+1) (.string idn) (.string ti) (.int .i64 st) (.int .i64 lg) (.string f) (.int .i64 e) (.slice ra' ds.length rc') (.int .i64 c) (.int .i64 u) (.slice none 0 0) (.slice none 0 0)=w7 at n10 g7 ⊢
   obtain ⟨c0,c1,c2,c3,c4,c5,c6,c7,c8,c9,c10⟩:=zK n10
   have o1:=Ow.grown OR5.out g7 (by omega)
   have o2:=Ow.grown OS5.out g7 (by omega)
   have o3:=OwM.grown OM5.out g7 (by omega)
   refine bodyPost_ret (v:= .agg (eW idn ti st lg f e ra' ds.length rc' c u none 0 0 none 0 0)) (by simp [results,Tryz.f17,go_sem,c0,c1,c2,c3,c4,c5,c6,c7,c8,c9,c10]) rfl ⟨_,_,_,rfl,⟨xP o1 h20,xh (ds:=([]:List Int)) o2 (by first|omega|simp),(zr (ms:=([]:List (Int×Int))) o3 (by first|omega|simp)).1,yq o1,yq o2,(zr (ms:=([]:List (Int×Int))) o3 (by first|omega|simp)).2⟩,B5.out.grown g7 (by omega) (fun k q=>by cases q;omega)⟩
  |some bd=>
   have OS0:Hid (Ow (w.heap.size+2) w2 (.slice none 0 0) ([]:List Int)):=Ow.nil _ _
   have BG:Hid (Below w2.heap.size w2 w2):=Below.refl _ _
   have KA3:=hid KA2.out
   go_upto_region 5 with (fail)
   have m9:(w2.setCell ⟨w.heap.size,9,none⟩ (.slice none 0 0)).heap[w.heap.size]? =some (.cells (eW idn ti st lg f e ra' ds.length rc' c u none 0 0 (some bd) mv.length mc) 48 (0,0)):=vX (.slice none 0 0) KA3.out
   have g3:w2.grownBy (w2.setCell ⟨w.heap.size,9,none⟩ (.slice none 0 0)) (some (w.heap.size)):=zG w2 ⟨w.heap.size,9,none⟩ (.slice none 0 0)
   have hz3:w.heap.size+2≤w2.heap.size:=Nat.le_trans hz2' BG.out.size
   have OR3:=hid (Ow.grown (Ow.step O2.out BG.out) g3 (by omega))
   have OS3:=hid (Ow.grown OS0.out g3 (by omega))
   have KB3:Hid ((w2.setCell ⟨w.heap.size,9,none⟩ (.slice none 0 0)).heap[w.heap.size+1]? =some (.cells zA 48 (0,0))):=(g3.block _ (by omega) (fun q=>by simp at q)).trans ((BG.out.block _ (by omega)).trans KB2.out)
   have B3:Hid (Below w.heap.size w (w2.setCell ⟨w.heap.size,9,none⟩ (.slice none 0 0))):=(zB B2.out BG.out).grown g3 (by omega) (fun k q=>by cases q;exact Nat.le_refl _)
   have GM3:=hid (HM1.out.step B3.out)
   have KA4:=hid m9
   have hz4:w.heap.size+2≤(w2.setCell ⟨w.heap.size,9,none⟩ (.slice none 0 0)).heap.size:=Nat.le_trans hz3 g3.size
   clear m9 g3 hz3 KA3 OS0 BG KA2 KB2 O2 B2 GS2 GM2 hz2' x9 x10 z9 z10
   generalize (w2.setCell ⟨w.heap.size,9,none⟩ (.slice none 0 0))=w4 at OR3 OS3 KB3 B3 GM3 KA4 hz4 ⊢
   have x10:=(zK KA4.out).2.2.2.2.2.2.2.2.2.2
   have z10:=zF KA4.out 10
   have NM:Hid (_):=zdm GM3.out
   go_upto_region 6 with (first|(at_builtin;refine wpList_append_own _ rfl _ _ 46 rfl (w.heap.size+2) 114 i1 (.agg #[.int .i64 0,.int .i64 0]) 2 16 Tryz.underlying46 hi1 hy0 hy1 hy2 rfl (by decide) _ _ _ rfl (World.ownsRow_nil _ _ _ _) bd mv.length mc (yF mv) rfl (xG mv) NM.out (xH mv) (by unfold maxLen;omega) (by omega) (by omega) ?_;intro v' w5 hown hgrow _;have OM0:Hid (OwM (w.heap.size+2) w5 v' mv):=(by show World.ownsRow _ _ _ _ _ _ _;simpa using hown);have BG:Hid (Below w4.heap.size w4 w5):=⟨hgrow.os,hgrow.tape,hgrow.output,hgrow.size,fun k hk=>hgrow.block k hk (show some k≠none by simp)⟩;obtain ⟨ma',mc',rfl⟩:=zo (zr OM0.out (by omega)).2;have KA5:Hid (w5.heap[w.heap.size]? =some (.cells (eW idn ti st lg f e ra' ds.length rc' c u none 0 0 (some bd) mv.length mc) 48 (0,0))):=(BG.out.block _ (by omega)).trans KA4.out;have q9:=(zK KA5.out).2.2.2.2.2.2.2.2.2.2;have q10:=zF KA5.out 10;clear hown hgrow)|go_in)
   have m9:(w5.setCell ⟨w.heap.size,10,none⟩ (.slice ma' mv.length mc')).heap[w.heap.size]? =some (.cells (eW idn ti st lg f e ra' ds.length rc' c u none 0 0 ma' mv.length mc') 48 (0,0)):=xY (.slice ma' mv.length mc') KA5.out
   have g3:w5.grownBy (w5.setCell ⟨w.heap.size,10,none⟩ (.slice ma' mv.length mc')) (some (w.heap.size)):=zG w5 ⟨w.heap.size,10,none⟩ (.slice ma' mv.length mc')
   have hz5:w.heap.size+2≤w5.heap.size:=Nat.le_trans hz4 BG.out.size
   have OR5:=hid (Ow.grown (Ow.step OR3.out BG.out) g3 (by omega))
   have OS5:=hid (Ow.grown (Ow.step OS3.out BG.out) g3 (by omega))
   have OM5:=hid (OwM.grown OM0.out g3 (by omega))
   have KB5:Hid ((w5.setCell ⟨w.heap.size,10,none⟩ (.slice ma' mv.length mc')).heap[w.heap.size+1]? =some (.cells zA 48 (0,0))):=(g3.block _ (by omega) (fun q=>by simp at q)).trans ((BG.out.block _ (by omega)).trans KB3.out)
   have B5:Hid (Below w.heap.size w (w5.setCell ⟨w.heap.size,10,none⟩ (.slice ma' mv.length mc'))):=(zB B3.out BG.out).grown g3 (by omega) (fun k q=>by cases q;exact Nat.le_refl _)
   have KA6:=hid m9
   have hz6:w.heap.size+2≤(w5.setCell ⟨w.heap.size,10,none⟩ (.slice ma' mv.length mc')).heap.size:=Nat.le_trans hz5 g3.size
   clear m9 g3 hz5 KA5 OM0 BG KA4 KB3 OR3 OS3 B3 GM3 hz4 x10 z10 q9 q10 NM
   generalize (w5.setCell ⟨w.heap.size,10,none⟩ (.slice ma' mv.length mc'))=w6 at OR5 OS5 OM5 KB5 B5 KA6 hz6 ⊢
   obtain ⟨x0,x1,x2,x3,x4,x5,x6,x7,x8,x9,x10⟩:=zK KA6.out
   obtain ⟨t0,t1,t2,t3,t4,t5,t6,t7,t8,t9,t10⟩:=zK KB5.out
   obtain ⟨f0,f1,f2,f3,f4,f5,f6,f7,f8,f9,f10⟩:=frz KB5.out
   go_wp2
   rw [zX]
   have n10:=zk (.string idn) (.string ti) (.int .i64 st) (.int .i64 lg) (.string f) (.int .i64 e) (.slice ra' ds.length rc') (.int .i64 c) (.int .i64 u) (.slice none 0 0) (.slice ma' mv.length mc') KB5.out
   have g7:=zT w6 (w.heap.size+1) (.string idn) (.string ti) (.int .i64 st) (.int .i64 lg) (.string f) (.int .i64 e) (.slice ra' ds.length rc') (.int .i64 c) (.int .i64 u) (.slice none 0 0) (.slice ma' mv.length mc')
   clear x0 x1 x2 x3 x4 x5 x6 x7 x8 x9 x10 t0 t1 t2 t3 t4 t5 t6 t7 t8 t9 t10 f0 f1 f2 f3 f4 f5 f6 f7 f8 f9 f10
   generalize yI w6 (w.heap.size+1) (.string idn) (.string ti) (.int .i64 st) (.int .i64 lg) (.string f) (.int .i64 e) (.slice ra' ds.length rc') (.int .i64 c) (.int .i64 u) (.slice none 0 0) (.slice ma' mv.length mc')=w7 at n10 g7 ⊢
   obtain ⟨c0,c1,c2,c3,c4,c5,c6,c7,c8,c9,c10⟩:=zK n10
   have o1:=Ow.grown OR5.out g7 (by omega)
   have o2:=Ow.grown OS5.out g7 (by omega)
   have o3:=OwM.grown OM5.out g7 (by omega)
   refine bodyPost_ret (v:= .agg (eW idn ti st lg f e ra' ds.length rc' c u none 0 0 ma' mv.length mc')) (by simp [results,Tryz.f17,go_sem,c0,c1,c2,c3,c4,c5,c6,c7,c8,c9,c10]) rfl ⟨_,_,_,rfl,⟨xP o1 h20,xh (ds:=([]:List Int)) o2 (by first|omega|simp),(zr (ms:=mv) o3 (by first|omega|simp)).1,yq o1,yq o2,(zr (ms:=mv) o3 (by first|omega|simp)).2⟩,B5.out.grown g7 (by omega) (fun k q=>by cases q;omega)⟩
 |some ad=>
  cases ma with
  |none=>
   obtain ⟨h0,rfl⟩:mv=[]∧mc=0:=by obtain ⟨a',c',e1,e2,_⟩:=HM1.out;cases e1;exact ⟨List.length_eq_zero_iff.1 (e2 rfl).1,(e2 rfl).2⟩
   subst h0
   simp only [List.length_nil] at*
   have NS:Hid (_):=ze9 GS2.out
   have hsl:(sk.length:Nat)≤30:=hs25
   go_upto_region 5 with (first|(at_builtin;refine wpList_append_own _ rfl _ _ 43 rfl (w.heap.size+2) 3 i0 (.int .i64 0) 1 8 Tryz.underlying43 hi hz0 hz1 hz2 rfl (by decide) _ _ _ rfl (World.ownsRow_nil _ _ _ _) ad sk.length sc (sk.map (Value.int .i64)) rfl (by simp) NS.out (fun v hv=>by obtain ⟨x,_,rfl⟩:=List.mem_map.1 hv;rfl) (by unfold maxLen;omega) (by omega) (by omega) ?_;intro v' w3 hown hgrow _;have OS0:Hid (Ow (w.heap.size+2) w3 v' sk):=(by show World.ownsRow _ _ _ _ _ _ _;simpa using hown);have BG:Hid (Below w2.heap.size w2 w3):=⟨hgrow.os,hgrow.tape,hgrow.output,hgrow.size,fun k hk=>hgrow.block k hk (show some k≠none by simp)⟩;obtain ⟨sa',sc',rfl⟩:=zw OS0.out;have KA3:Hid (w3.heap[w.heap.size]? =some (.cells (eW idn ti st lg f e ra' ds.length rc' c u (some ad) sk.length sc none 0 0) 48 (0,0))):=(BG.out.block _ (by omega)).trans KA2.out;have q9:=(zK KA3.out).2.2.2.2.2.2.2.2.2.1;have q10:=zF KA3.out 9;clear hown hgrow)|go_in)
   have m9:(w3.setCell ⟨w.heap.size,9,none⟩ (.slice sa' sk.length sc')).heap[w.heap.size]? =some (.cells (eW idn ti st lg f e ra' ds.length rc' c u sa' sk.length sc' none 0 0) 48 (0,0)):=vX (.slice sa' sk.length sc') KA3.out
   have g3:w3.grownBy (w3.setCell ⟨w.heap.size,9,none⟩ (.slice sa' sk.length sc')) (some (w.heap.size)):=zG w3 ⟨w.heap.size,9,none⟩ (.slice sa' sk.length sc')
   have hz3:w.heap.size+2≤w3.heap.size:=Nat.le_trans hz2' BG.out.size
   have OR3:=hid (Ow.grown (Ow.step O2.out BG.out) g3 (by omega))
   have OS3:=hid (Ow.grown OS0.out g3 (by omega))
   have KB3:Hid ((w3.setCell ⟨w.heap.size,9,none⟩ (.slice sa' sk.length sc')).heap[w.heap.size+1]? =some (.cells zA 48 (0,0))):=(g3.block _ (by omega) (fun q=>by simp at q)).trans ((BG.out.block _ (by omega)).trans KB2.out)
   have B3:Hid (Below w.heap.size w (w3.setCell ⟨w.heap.size,9,none⟩ (.slice sa' sk.length sc'))):=(zB B2.out BG.out).grown g3 (by omega) (fun k q=>by cases q;exact Nat.le_refl _)
   have GM3:=hid (HM1.out.step B3.out)
   have KA4:=hid m9
   have hz4:w.heap.size+2≤(w3.setCell ⟨w.heap.size,9,none⟩ (.slice sa' sk.length sc')).heap.size:=Nat.le_trans hz3 g3.size
   clear m9 g3 hz3 KA3 OS0 BG KA2 KB2 O2 B2 GS2 GM2 hz2' x9 x10 z9 z10 q9 q10 NS
   generalize (w3.setCell ⟨w.heap.size,9,none⟩ (.slice sa' sk.length sc'))=w4 at OR3 OS3 KB3 B3 GM3 KA4 hz4 ⊢
   have x10:=(zK KA4.out).2.2.2.2.2.2.2.2.2.2
   have z10:=zF KA4.out 10
   have OM0:Hid (OwM (w.heap.size+2) w4 (.slice none 0 0) ([]:List (Int×Int))):=World.ownsRow_nil _ _ _ _
   have BG:Hid (Below w4.heap.size w4 w4):=Below.refl _ _
   have KA5:=hid KA4.out
   go_upto_region 6 with (fail)
   have m9:(w4.setCell ⟨w.heap.size,10,none⟩ (.slice none 0 0)).heap[w.heap.size]? =some (.cells (eW idn ti st lg f e ra' ds.length rc' c u sa' sk.length sc' none 0 0) 48 (0,0)):=xY (.slice none 0 0) KA5.out
   have g3:w4.grownBy (w4.setCell ⟨w.heap.size,10,none⟩ (.slice none 0 0)) (some (w.heap.size)):=zG w4 ⟨w.heap.size,10,none⟩ (.slice none 0 0)
   have hz5:w.heap.size+2≤w4.heap.size:=Nat.le_trans hz4 BG.out.size
   have OR5:=hid (Ow.grown (Ow.step OR3.out BG.out) g3 (by omega))
   have OS5:=hid (Ow.grown (Ow.step OS3.out BG.out) g3 (by omega))
   have OM5:=hid (OwM.grown OM0.out g3 (by omega))
   have KB5:Hid ((w4.setCell ⟨w.heap.size,10,none⟩ (.slice none 0 0)).heap[w.heap.size+1]? =some (.cells zA 48 (0,0))):=(g3.block _ (by omega) (fun q=>by simp at q)).trans ((BG.out.block _ (by omega)).trans KB3.out)
   have B5:Hid (Below w.heap.size w (w4.setCell ⟨w.heap.size,10,none⟩ (.slice none 0 0))):=(zB B3.out BG.out).grown g3 (by omega) (fun k q=>by cases q;exact Nat.le_refl _)
   have KA6:=hid m9
   have hz6:w.heap.size+2≤(w4.setCell ⟨w.heap.size,10,none⟩ (.slice none 0 0)).heap.size:=Nat.le_trans hz5 g3.size
   clear m9 g3 hz5 KA5 OM0 BG KA4 KB3 OR3 OS3 B3 GM3 hz4 x10 z10
   generalize (w4.setCell ⟨w.heap.size,10,none⟩ (.slice none 0 0))=w6 at OR5 OS5 OM5 KB5 B5 KA6 hz6 ⊢
   obtain ⟨x0,x1,x2,x3,x4,x5,x6,x7,x8,x9,x10⟩:=zK KA6.out
   obtain ⟨t0,t1,t2,t3,t4,t5,t6,t7,t8,t9,t10⟩:=zK KB5.out
   obtain ⟨f0,f1,f2,f3,f4,f5,f6,f7,f8,f9,f10⟩:=frz KB5.out
   go_wp2
   rw [zX]
   have n10:=zk (.string idn) (.string ti) (.int .i64 st) (.int .i64 lg) (.string f) (.int .i64 e) (.slice ra' ds.length rc') (.int .i64 c) (.int .i64 u) (.slice sa' sk.length sc') (.slice none 0 0) KB5.out
   have g7:=zT w6 (w.heap.size+1) (.string idn) (.string ti) (.int .i64 st) (.int .i64 lg) (.string f) (.int .i64 e) (.slice ra' ds.length rc') (.int .i64 c) (.int .i64 u) (.slice sa' sk.length sc') (.slice none 0 0)
   clear x0 x1 x2 x3 x4 x5 x6 x7 x8 x9 x10 t0 t1 t2 t3 t4 t5 t6 t7 t8 t9 t10 f0 f1 f2 f3 f4 f5 f6 f7 f8 f9 f10
   generalize yI w6 (w.heap.size+1) (.string idn) (.string ti) (.int .i64 st) (.int .i64 lg) (.string f) (.int .i64 e) (.slice ra' ds.length rc') (.int .i64 c) (.int .i64 u) (.slice sa' sk.length sc') (.slice none 0 0)=w7 at n10 g7 ⊢
   obtain ⟨c0,c1,c2,c3,c4,c5,c6,c7,c8,c9,c10⟩:=zK n10
   have o1:=Ow.grown OR5.out g7 (by omega)
   have o2:=Ow.grown OS5.out g7 (by omega)
   have o3:=OwM.grown OM5.out g7 (by omega)
   refine bodyPost_ret (v:= .agg (eW idn ti st lg f e ra' ds.length rc' c u sa' sk.length sc' none 0 0)) (by simp [results,Tryz.f17,go_sem,c0,c1,c2,c3,c4,c5,c6,c7,c8,c9,c10]) rfl ⟨_,_,_,rfl,⟨xP o1 h20,xh (ds:=sk) o2 (by first|omega|simp),(zr (ms:=([]:List (Int×Int))) o3 (by first|omega|simp)).1,yq o1,yq o2,(zr (ms:=([]:List (Int×Int))) o3 (by first|omega|simp)).2⟩,B5.out.grown g7 (by omega) (fun k q=>by cases q;omega)⟩
  |some bd=>
   have NS:Hid (_):=ze9 GS2.out
   have hsl:(sk.length:Nat)≤30:=hs25
   go_upto_region 5 with (first|(at_builtin;refine wpList_append_own _ rfl _ _ 43 rfl (w.heap.size+2) 3 i0 (.int .i64 0) 1 8 Tryz.underlying43 hi hz0 hz1 hz2 rfl (by decide) _ _ _ rfl (World.ownsRow_nil _ _ _ _) ad sk.length sc (sk.map (Value.int .i64)) rfl (by simp) NS.out (fun v hv=>by obtain ⟨x,_,rfl⟩:=List.mem_map.1 hv;rfl) (by unfold maxLen;omega) (by omega) (by omega) ?_;intro v' w3 hown hgrow _;have OS0:Hid (Ow (w.heap.size+2) w3 v' sk):=(by show World.ownsRow _ _ _ _ _ _ _;simpa using hown);have BG:Hid (Below w2.heap.size w2 w3):=⟨hgrow.os,hgrow.tape,hgrow.output,hgrow.size,fun k hk=>hgrow.block k hk (show some k≠none by simp)⟩;obtain ⟨sa',sc',rfl⟩:=zw OS0.out;have KA3:Hid (w3.heap[w.heap.size]? =some (.cells (eW idn ti st lg f e ra' ds.length rc' c u (some ad) sk.length sc (some bd) mv.length mc) 48 (0,0))):=(BG.out.block _ (by omega)).trans KA2.out;have q9:=(zK KA3.out).2.2.2.2.2.2.2.2.2.1;have q10:=zF KA3.out 9;clear hown hgrow)|go_in)
   have m9:(w3.setCell ⟨w.heap.size,9,none⟩ (.slice sa' sk.length sc')).heap[w.heap.size]? =some (.cells (eW idn ti st lg f e ra' ds.length rc' c u sa' sk.length sc' (some bd) mv.length mc) 48 (0,0)):=vX (.slice sa' sk.length sc') KA3.out
   have g3:w3.grownBy (w3.setCell ⟨w.heap.size,9,none⟩ (.slice sa' sk.length sc')) (some (w.heap.size)):=zG w3 ⟨w.heap.size,9,none⟩ (.slice sa' sk.length sc')
   have hz3:w.heap.size+2≤w3.heap.size:=Nat.le_trans hz2' BG.out.size
   have OR3:=hid (Ow.grown (Ow.step O2.out BG.out) g3 (by omega))
   have OS3:=hid (Ow.grown OS0.out g3 (by omega))
   have KB3:Hid ((w3.setCell ⟨w.heap.size,9,none⟩ (.slice sa' sk.length sc')).heap[w.heap.size+1]? =some (.cells zA 48 (0,0))):=(g3.block _ (by omega) (fun q=>by simp at q)).trans ((BG.out.block _ (by omega)).trans KB2.out)
   have B3:Hid (Below w.heap.size w (w3.setCell ⟨w.heap.size,9,none⟩ (.slice sa' sk.length sc'))):=(zB B2.out BG.out).grown g3 (by omega) (fun k q=>by cases q;exact Nat.le_refl _)
   have GM3:=hid (HM1.out.step B3.out)
   have KA4:=hid m9
   have hz4:w.heap.size+2≤(w3.setCell ⟨w.heap.size,9,none⟩ (.slice sa' sk.length sc')).heap.size:=Nat.le_trans hz3 g3.size
   clear m9 g3 hz3 KA3 OS0 BG KA2 KB2 O2 B2 GS2 GM2 hz2' x9 x10 z9 z10 q9 q10 NS
   generalize (w3.setCell ⟨w.heap.size,9,none⟩ (.slice sa' sk.length sc'))=w4 at OR3 OS3 KB3 B3 GM3 KA4 hz4 ⊢
   have x10:=(zK KA4.out).2.2.2.2.2.2.2.2.2.2
   have z10:=zF KA4.out 10
   have NM:Hid (_):=zdm GM3.out
   go_upto_region 6 with (first|(at_builtin;refine wpList_append_own _ rfl _ _ 46 rfl (w.heap.size+2) 114 i1 (.agg #[.int .i64 0,.int .i64 0]) 2 16 Tryz.underlying46 hi1 hy0 hy1 hy2 rfl (by decide) _ _ _ rfl (World.ownsRow_nil _ _ _ _) bd mv.length mc (yF mv) rfl (xG mv) NM.out (xH mv) (by unfold maxLen;omega) (by omega) (by omega) ?_;intro v' w5 hown hgrow _;have OM0:Hid (OwM (w.heap.size+2) w5 v' mv):=(by show World.ownsRow _ _ _ _ _ _ _;simpa using hown);have BG:Hid (Below w4.heap.size w4 w5):=⟨hgrow.os,hgrow.tape,hgrow.output,hgrow.size,fun k hk=>hgrow.block k hk (show some k≠none by simp)⟩;obtain ⟨ma',mc',rfl⟩:=zo (zr OM0.out (by omega)).2;have KA5:Hid (w5.heap[w.heap.size]? =some (.cells (eW idn ti st lg f e ra' ds.length rc' c u sa' sk.length sc' (some bd) mv.length mc) 48 (0,0))):=(BG.out.block _ (by omega)).trans KA4.out;have q9:=(zK KA5.out).2.2.2.2.2.2.2.2.2.2;have q10:=zF KA5.out 10;clear hown hgrow)|go_in)
   have m9:(w5.setCell ⟨w.heap.size,10,none⟩ (.slice ma' mv.length mc')).heap[w.heap.size]? =some (.cells (eW idn ti st lg f e ra' ds.length rc' c u sa' sk.length sc' ma' mv.length mc') 48 (0,0)):=xY (.slice ma' mv.length mc') KA5.out
   have g3:w5.grownBy (w5.setCell ⟨w.heap.size,10,none⟩ (.slice ma' mv.length mc')) (some (w.heap.size)):=zG w5 ⟨w.heap.size,10,none⟩ (.slice ma' mv.length mc')
   have hz5:w.heap.size+2≤w5.heap.size:=Nat.le_trans hz4 BG.out.size
   have OR5:=hid (Ow.grown (Ow.step OR3.out BG.out) g3 (by omega))
   have OS5:=hid (Ow.grown (Ow.step OS3.out BG.out) g3 (by omega))
   have OM5:=hid (OwM.grown OM0.out g3 (by omega))
   have KB5:Hid ((w5.setCell ⟨w.heap.size,10,none⟩ (.slice ma' mv.length mc')).heap[w.heap.size+1]? =some (.cells zA 48 (0,0))):=(g3.block _ (by omega) (fun q=>by simp at q)).trans ((BG.out.block _ (by omega)).trans KB3.out)
   have B5:Hid (Below w.heap.size w (w5.setCell ⟨w.heap.size,10,none⟩ (.slice ma' mv.length mc'))):=(zB B3.out BG.out).grown g3 (by omega) (fun k q=>by cases q;exact Nat.le_refl _)
   have KA6:=hid m9
   have hz6:w.heap.size+2≤(w5.setCell ⟨w.heap.size,10,none⟩ (.slice ma' mv.length mc')).heap.size:=Nat.le_trans hz5 g3.size
   clear m9 g3 hz5 KA5 OM0 BG KA4 KB3 OR3 OS3 B3 GM3 hz4 x10 z10 q9 q10 NM
   generalize (w5.setCell ⟨w.heap.size,10,none⟩ (.slice ma' mv.length mc'))=w6 at OR5 OS5 OM5 KB5 B5 KA6 hz6 ⊢
   obtain ⟨x0,x1,x2,x3,x4,x5,x6,x7,x8,x9,x10⟩:=zK KA6.out
   obtain ⟨t0,t1,t2,t3,t4,t5,t6,t7,t8,t9,t10⟩:=zK KB5.out
   obtain ⟨f0,f1,f2,f3,f4,f5,f6,f7,f8,f9,f10⟩:=frz KB5.out
   go_wp2
   rw [zX]
   have n10:=zk (.string idn) (.string ti) (.int .i64 st) (.int .i64 lg) (.string f) (.int .i64 e) (.slice ra' ds.length rc') (.int .i64 c) (.int .i64 u) (.slice sa' sk.length sc') (.slice ma' mv.length mc') KB5.out
   have g7:=zT w6 (w.heap.size+1) (.string idn) (.string ti) (.int .i64 st) (.int .i64 lg) (.string f) (.int .i64 e) (.slice ra' ds.length rc') (.int .i64 c) (.int .i64 u) (.slice sa' sk.length sc') (.slice ma' mv.length mc')
   clear x0 x1 x2 x3 x4 x5 x6 x7 x8 x9 x10 t0 t1 t2 t3 t4 t5 t6 t7 t8 t9 t10 f0 f1 f2 f3 f4 f5 f6 f7 f8 f9 f10
   generalize yI w6 (w.heap.size+1) (.string idn) (.string ti) (.int .i64 st) (.int .i64 lg) (.string f) (.int .i64 e) (.slice ra' ds.length rc') (.int .i64 c) (.int .i64 u) (.slice sa' sk.length sc') (.slice ma' mv.length mc')=w7 at n10 g7 ⊢
   obtain ⟨c0,c1,c2,c3,c4,c5,c6,c7,c8,c9,c10⟩:=zK n10
   have o1:=Ow.grown OR5.out g7 (by omega)
   have o2:=Ow.grown OS5.out g7 (by omega)
   have o3:=OwM.grown OM5.out g7 (by omega)
   refine bodyPost_ret (v:= .agg (eW idn ti st lg f e ra' ds.length rc' c u sa' sk.length sc' ma' mv.length mc')) (by simp [results,Tryz.f17,go_sem,c0,c1,c2,c3,c4,c5,c6,c7,c8,c9,c10]) rfl ⟨_,_,_,rfl,⟨xP o1 h20,xh (ds:=sk) o2 (by first|omega|simp),(zr (ms:=mv) o3 (by first|omega|simp)).1,yq o1,yq o2,(zr (ms:=mv) o3 (by first|omega|simp)).2⟩,B5.out.grown g7 (by omega) (fun k q=>by cases q;omega)⟩
end Go.Proofs.YtpeafgddbbojaaaGreatDoor
namespace Go.Proofs.YtpeafgddbbojaaaGreatDoor
open Go Go.RowKit Go.Shelf Cal
attribute [local go_sem] Oper.semAt_some
theorem zjT{p:Int→Bool}: ∀ (n:Nat) (a:Int),(fr p a n).length≤n
 |0,a=>by simp [fr]
 |n+1,a=>by
  unfold fr
  have:=zjT (p:=p) n (a+1)
  split
  ·simp;omega
  ·omega
theorem zi2{p:Int→Bool}{a:Int}(h:0≤a):(zmI p a).length≤73049:=by
 unfold zmI
 have:=zjT (p:=p) (73049 - a).toNat a
 omega
def RB(W:World)(B:Nat)(f:ByteArray)(e:Int)(sl:Value)(c u:Int):Prop:=W.heap[B]? =some (.cells #[.string f,.int .i64 e,sl,.int .i64 c,.int .i64 u] 45 (0,0))
def IsDays(f:ByteArray)(e:Int)(ds:List Int)(c u s:Int)(xs:List Int):Prop:=
 (Well (rd f e ds c u)∧0≤s∧s≤73048∧xs=cut c u (cds f.toList s e ds))∨(¬ (Well (rd f e ds c u)∧0≤s∧s≤73048)∧xs=[])
theorem zkx(c u:Int)(l:List Int):(cut c u l).length≤l.length:=by
 have h:(zlu u l).length≤l.length:=by
  unfold zlu
  split
  ·exact (List.takeWhile_sublist _).length_le
  ·exact Nat.le_refl _
 unfold cut
 split
 ·exact Nat.le_trans (List.length_take_le' _ _) h
 ·exact h
theorem IsDays.len{f:ByteArray}{e:Int}{ds:List Int}{c u s:Int}{xs:List Int}(h:IsDays f e ds c u s xs):xs.length≤73049:=by
 rcases h with ⟨_,h0,_,rfl⟩|⟨_,rfl⟩
 ·exact Nat.le_trans (zkx _ _ _) (zi2 h0)
 ·simp
theorem IsDays.rise{f:ByteArray}{e:Int}{ds:List Int}{c u s:Int}{xs:List Int}(h:IsDays f e ds c u s xs):xs.Pairwise (· < ·):=by
 rcases h with ⟨_,_,_,rfl⟩|⟨_,rfl⟩
 ·exact zi4 (zhh _ _)
 ·exact List.Pairwise.nil
set_option maxHeartbeats 2000000 in
set_option maxRecDepth 100000 in
theorem zbW(ds:List Int)(sl:Value)(w:World)(hd:Days w sl ds):
  Calls Tryz.prog 103 #[sl] w fun r w'=> ∃ v,r= .returned v∧Ow w.heap.size w' v ds∧Below w.heap.size w w':=by
 obtain ⟨a,cap,rfl,h20,hcap,hc⟩:=hd
 obtain ⟨i0,hi,hz0,hz1,hz2⟩:=info_parts yZ
 have q22: ∀ (w:World) (a:Option Addr) (n c n' c':Nat),(binOp .eql 43 (.slice a n c) (.slice none n' c')).run Tryz.prog w= .ok (.bool a.isNone) w:=fun w a n c n' c'=>Lib.run_eql_slice_nil w _ _ a n c n' c' Tryz.underlying43
 cases a with
 |none=>
  have h0:ds=[]:=by
   cases ds with
   |nil=>rfl
   |cons x r=>obtain ⟨b,e,_⟩:=hc 0 (by simp);cases e
  subst h0
  clear hc
  go_enter Tryz.func103,Tryz.ntmps103
  go_wp2
  go_ret
  exact ⟨_,rfl,Ow.nil _ _,Below.refl _ _⟩
 |some ad=>
  have HC:Hid (∀ j v,(ds.map (Value.int .i64))[j]? =some v→(w.alloc (.cells #[] 3)).cell? (ad.add j)=some v):=fun j v hv=>by
   rw [List.getElem?_map] at hv
   obtain ⟨d,hd,rfl⟩:=Option.map_eq_some_iff.1 hv
   obtain ⟨hj,rfl⟩:=List.getElem?_eq_some_iff.1 hd
   obtain ⟨b,e,hl,hcc⟩:=hc j hj
   cases e
   rw [Addr.add_lit,Nat.zero_add]
   exact yL _ hcc
  clear hc
  go_enter Tryz.func103,Tryz.ntmps103
  go_wp2_with (at_builtin;refine wpList_append_own _ rfl _ _ 43 rfl w.heap.size 3 i0 (.int .i64 0) 1 8 Tryz.underlying43 hi hz0 hz1 hz2 rfl (by decide) _ _ _ rfl (World.ownsRow_made w #[] 0 (Nat.le_refl _) (Nat.zero_le _) rfl) ad ds.length cap (ds.map (Value.int .i64)) rfl (by simp) HC.out (fun v hv=>by obtain ⟨x,_,rfl⟩:=List.mem_map.1 hv;rfl) (by unfold maxLen;omega) (by omega) (by simp) ?_;intro v' w1 hown hgrow _)
  have OW:Hid (Ow w.heap.size w1 v' ds):=by
   show World.ownsRow _ _ _ _ _ _ _
   simpa using hown
  have HB:Hid (Below w.heap.size w w1):=(zC w (.cells #[] 3)).grown (show (w.alloc (.cells #[] 3)).grownBy w1 (Value.slice (some ⟨w.heap.size,0,none⟩) 0 0).ownBlock from hgrow) (by simp) (fun k q=>(World.ownsRow.lt (World.ownsRow_made (e:=3) (size:=1) w #[] 0 (Nat.le_refl _) (Nat.zero_le _) rfl) k q).1)
  obtain ⟨va,vc,rfl⟩:=zw OW.out
  clear hown hgrow HC
  go_wp2
  go_ret
  exact ⟨_,rfl,OW.out,HB.out⟩
def Made(f:ByteArray)(e:Int)(ds:List Int)(c u s:Int)(n:Nat)(W:World)(sl:Value):Prop:=
 Boxed W n 3 (.int .i64 s)∧RB W (n+1) f e sl c u∧Ow (n+2) W sl ds∧ds.length≤20
theorem Made.step{f:ByteArray}{e:Int}{sl:Value}{c u:Int}{ds:List Int}{s:Int}{n:Nat}{W W':World}(hm:Made f e ds c u s n W sl)(hb:Below W.heap.size W W'):Made f e ds c u s n W' sl:=
 ⟨(hb.block _ (Boxed.lt hm.1)).trans hm.1,(hb.block _ (Array.getElem?_eq_some_iff.1 hm.2.1).1).trans hm.2.1,Ow.step hm.2.2.1 hb,hm.2.2.2⟩
theorem Made.days{f:ByteArray}{e:Int}{sl:Value}{c u:Int}{ds:List Int}{s:Int}{n:Nat}{W W':World}(hm:Made f e ds c u s n W sl)(hk: ∀ k,n+2≤k→k<W.heap.size→W'.heap[k]? =W.heap[k]?):Days W' sl ds:=
 xP (Ow.steps hm.2.2.1 hk) hm.2.2.2
def DaysIn(lo hi:Nat)(W:World)(sl:Value)(ds:List Int):Prop:=
 ds.length≤20∧ ∃ (a:Option Addr) (c:Nat),sl= .slice a ds.length c∧ds.length≤c∧(ds=[]∨ ∃ (b:Nat) (cs:Array Value) (t:TypeId) (fr:Nat×Nat),a=some ⟨b,0,none⟩∧lo≤b∧b<hi∧W.heap[b]? =some (.cells cs t fr)∧ ∀ (j:Nat) (h:j<ds.length),W.cell? ⟨b,j,none⟩=some (.int .i64 ds[j]))
theorem DaysIn.days{lo hi:Nat}{W:World}{sl:Value}{ds:List Int}(h:DaysIn lo hi W sl ds):Days W sl ds:=by
 obtain ⟨h1,a,c,h2,h3,h4⟩:=h
 refine ⟨a,c,h2,h1,h3,fun j hj=> ?_⟩
 rcases h4 with rfl|⟨b,cs,t,fr,e,_,_,hb,hc⟩
 ·exact absurd hj (by simp)
 ·exact ⟨b,e,(Array.getElem?_eq_some_iff.1 hb).1,hc j hj⟩
theorem DaysIn.steps{lo hi:Nat}{W W':World}{sl:Value}{ds:List Int}(h:DaysIn lo hi W sl ds)(hk: ∀ k,lo≤k→k<hi→k<W.heap.size→W'.heap[k]? =W.heap[k]?):DaysIn lo hi W' sl ds:=by
 obtain ⟨h1,a,c,h2,h3,h4⟩:=h
 refine ⟨h1,a,c,h2,h3,?_⟩
 rcases h4 with h4|⟨b,cs,t,fr,e,p1,p2,hb,hc⟩
 ·exact .inl h4
 ·have hk':=hk b p1 p2 (Array.getElem?_eq_some_iff.1 hb).1
  exact .inr ⟨b,cs,t,fr,e,p1,p2,hk'.trans hb,fun j hj=>(World.cell?_of_block (a:=⟨b,j,none⟩) hk').trans (hc j hj)⟩
theorem Made.row{f:ByteArray}{e:Int}{sl:Value}{c u:Int}{ds:List Int}{s:Int}{n:Nat}{W:World}(hm:Made f e ds c u s n W sl):DaysIn (n+2) W.heap.size W sl ds:=by
 obtain ⟨_,_,h,h20⟩:=hm
 rcases h.2 with ⟨rfl,h0⟩|⟨g,cap,cur,rfl,hb,hg,hcap,hmax,hsz,htake⟩
 ·exact ⟨h20,none,0,by rw [h0],by omega,.inl (List.length_eq_zero_iff.1 h0)⟩
 ·refine ⟨h20,_,cap,rfl,hcap,.inr ⟨g,cur,3,(0,0),rfl,hb,(Array.getElem?_eq_some_iff.1 hg).1,hg,fun j hj=> ?_⟩⟩
  have:=World.ownsRow.cellAt h j (by omega)
  rw [this,List.getElem?_map,List.getElem?_eq_getElem hj];rfl
end Go.Proofs.YtpeafgddbbojaaaGreatDoor
namespace Go.Proofs.YtpeafgddbbojaaaGreatDoor
open Go Go.RowKit Cal
def zV:Value:= .agg #[.string ⟨#[]⟩,.string ⟨#[]⟩,.int .i64 0,.int .i64 0,.string ⟨#[]⟩,.int .i64 0,.slice none 0 0,.int .i64 0,.int .i64 0,.slice none 0 0,.slice none 0 0]
def zjN(W:World)(B:Nat)(r0 r1 r2 r3 r4:Value):World:=(((((W.setCell ⟨B,4,none⟩ r0).setCell ⟨B,5,none⟩ r1).setCell ⟨B,6,none⟩ r2).setCell ⟨B,7,none⟩ r3).setCell ⟨B,8,none⟩ r4)
theorem jd(W:World)(B:Nat)(r0 r1 r2 r3 r4:Value):(((((W.setCell ⟨B,4,none⟩ r0).setCell ⟨B,5,none⟩ r1).setCell ⟨B,6,none⟩ r2).setCell ⟨B,7,none⟩ r3).setCell ⟨B,8,none⟩ r4)=zjN W B r0 r1 r2 r3 r4:=rfl
theorem xj(W:World)(B:Nat)(r0 r1 r2 r3 r4:Value):W.grownBy (zjN W B r0 r1 r2 r3 r4) (some B):=(zL (zL (zL (zL (zG _ ⟨B,4,none⟩ _) (zG _ ⟨B,5,none⟩ _)) (zG _ ⟨B,6,none⟩ _)) (zG _ ⟨B,7,none⟩ _)) (zG _ ⟨B,8,none⟩ _))
theorem zaQ{W:World}{B:Nat}{u0 u1 u2 u3 u4 u5 u6 u7 u8 u9 u10:Value}{t:TypeId}{fr:Nat×Nat}(r0 r1 r2 r3 r4:Value)(h:W.heap[B]? =some (.cells #[u0,u1,u2,u3,u4,u5,u6,u7,u8,u9,u10] t fr)):(zjN W B r0 r1 r2 r3 r4).heap[B]? =some (.cells #[u0,u1,u2,u3,r0,r1,r2,r3,r4,u9,u10] t fr):=
 zef r4 (zee r3 (zct r2 (zed r1 (zec r0 h))))
def OffI(N:Nat→Prop)(W:World)(v:Value)(xs:List Int):Prop:=
 ∃ (a:Option Addr) (c:Nat),v= .slice a xs.length c∧xs.length≤60∧xs.length≤c∧ ∀ (j:Nat) (h:j<xs.length),∃ b:Nat,a=some ⟨b,0,none⟩∧ ¬ N b∧b<W.heap.size∧W.cell? ⟨b,j,none⟩=some (.int .i64 xs[j])
def OffM(N:Nat→Prop)(W:World)(v:Value)(ms:List (Int×Int)):Prop:=
 ∃ (a:Option Addr) (c:Nat),v= .slice a ms.length c∧ms.length≤60∧ms.length≤c∧ ∀ (j:Nat) (h:j<ms.length),∃ b:Nat,a=some ⟨b,0,none⟩∧ ¬ N b∧b<W.heap.size∧W.cell? ⟨b,j*2,none⟩=some (.int .i64 ms[j].1)∧W.cell? ⟨b,j*2+1,none⟩=some (.int .i64 ms[j].2)
theorem OffI.grown{N:Nat→Prop}{B:Nat}{W W':World}{v:Value}{xs:List Int}(h:OffI N W v xs)(hN:N B)(hg:W.grownBy W' (some B)):OffI N W' v xs:=by
 obtain ⟨a,c,h1,h2,h3,h4⟩:=h
 refine ⟨a,c,h1,h2,h3,fun j hj=> ?_⟩
 obtain ⟨b,e,hb,hl,hc⟩:=h4 j hj
 exact ⟨b,e,hb,Nat.lt_of_lt_of_le hl hg.size,yG hg hc (fun q=>hb (q▸hN))⟩
theorem OffM.grown{N:Nat→Prop}{B:Nat}{W W':World}{v:Value}{xs:List (Int×Int)}(h:OffM N W v xs)(hN:N B)(hg:W.grownBy W' (some B)):OffM N W' v xs:=by
 obtain ⟨a,c,h1,h2,h3,h4⟩:=h
 refine ⟨a,c,h1,h2,h3,fun j hj=> ?_⟩
 obtain ⟨b,e,hb,hl,hc,hd⟩:=h4 j hj
 exact ⟨b,e,hb,Nat.lt_of_lt_of_le hl hg.size,yG hg hc (fun q=>hb (q▸hN)),yG hg hd (fun q=>hb (q▸hN))⟩
theorem OffI.ints{N:Nat→Prop}{W:World}{v:Value}{xs:List Int}(h:OffI N W v xs):Ints W v xs:=by
 obtain ⟨a,c,h1,h2,h3,h4⟩:=h
 refine ⟨a,c,h1,by omega,h3,fun j hj=> ?_⟩
 obtain ⟨b,e,_,hl,hc⟩:=h4 j hj
 exact ⟨b,e,hl,hc⟩
theorem xk{W:World}{v:Value}{xs:List Int}(h:Ints W v xs)(h20:xs.length≤20):Days W v xs:=by
 obtain ⟨a,c,h1,h2,h3,h4⟩:=h
 exact ⟨a,c,h1,h20,h3,h4⟩
theorem zgL{W:World}{v:Value}{xs:List Int}(h:Days W v xs):Ints W v xs:=by
 obtain ⟨a,c,h1,h2,h3,h4⟩:=h
 exact ⟨a,c,h1,by omega,h3,h4⟩
theorem OffM.movs{N:Nat→Prop}{W:World}{v:Value}{xs:List (Int×Int)}(h:OffM N W v xs):Movs W v xs:=by
 obtain ⟨a,c,h1,h2,h3,h4⟩:=h
 refine ⟨a,c,h1,by omega,h3,fun j hj=> ?_⟩
 obtain ⟨b,e,_,hl,hc⟩:=h4 j hj
 exact ⟨b,e,hl,hc⟩
theorem OffI.nil(N:Nat→Prop)(W:World)(c:Nat):OffI N W (.slice none 0 c) []:=⟨none,c,rfl,by simp,by simp,fun j h=>absurd h (by simp)⟩
theorem OffM.nil(N:Nat→Prop)(W:World)(c:Nat):OffM N W (.slice none 0 c) []:=⟨none,c,rfl,by simp,by simp,fun j h=>absurd h (by simp)⟩
theorem zaC{N:Nat→Prop}{base:Nat}{W:World}{v:Value}{xs:List Int}(h:Ow base W v xs)(hN: ∀ n,N n→n<base)(h30:xs.length≤60):OffI N W v xs:=by
 rcases h.2 with ⟨rfl,h0⟩|⟨g,cap,cur,rfl,hb,hg,hcap,hmax,hsz,htake⟩
 ·rw [List.length_eq_zero_iff.1 h0];exact OffI.nil N W 0
 ·refine ⟨_,cap,rfl,h30,hcap,fun j hj=>⟨g,rfl,fun q=>by have:=hN g q;omega,(Array.getElem?_eq_some_iff.1 hg).1,?_⟩⟩
  have:=World.ownsRow.cellAt h j (by omega)
  rw [this,List.getElem?_map,List.getElem?_eq_getElem hj];rfl
theorem zch{N:Nat→Prop}{base:Nat}{W:World}{v:Value}{xs:List (Int×Int)}(h:OwM base W v xs)(hN: ∀ n,N n→n<base)(h30:xs.length≤60):OffM N W v xs:=by
 rcases h.2 with ⟨rfl,h0⟩|⟨g,cap,cur,rfl,hb,hg,hcap,hmax,hsz,htake⟩
 ·rw [List.length_eq_zero_iff.1 h0];exact OffM.nil N W 0
 ·refine ⟨_,cap,rfl,h30,hcap,fun j hj=> ?_⟩
  obtain ⟨c1,c2⟩:=zaW hg htake j hj
  exact ⟨g,rfl,fun q=>by have:=hN g q;omega,(Array.getElem?_eq_some_iff.1 hg).1,c1,c2⟩
structure Off(N:Nat→Prop)(W:World)(E:EV)(sl skv mvv:Value):Prop where
 d:OffI N W sl E.ds
 s:OffI N W skv E.sk
 m:OffM N W mvv E.mv
theorem Off.grown{N:Nat→Prop}{B:Nat}{W W':World}{E:EV}{sl skv mvv:Value}(h:Off N W E sl skv mvv)(hN:N B)(hg:W.grownBy W' (some B)):Off N W' E sl skv mvv:=⟨h.d.grown hN hg,h.s.grown hN hg,h.m.grown hN hg⟩
end Go.Proofs.YtpeafgddbbojaaaGreatDoor
namespace Go.Proofs.YtpeafgddbbojaaaGreatDoor
open Go Go.RowKit Cal
attribute [local go_sem] Oper.semAt_some
set_option maxHeartbeats 2000000 in
set_option maxRecDepth 100000 in
theorem zfL(ms:List (Int×Int))(sl:Value)(w:World)(hd:Movs w sl ms)(h30:ms.length≤60):
  Calls Tryz.prog 104 #[sl] w fun r w'=> ∃ v,r= .returned v∧OwM w.heap.size w' v ms∧Below w.heap.size w w':=by
 obtain ⟨a,cap,rfl,_,hcap,hc⟩:=hd
 obtain ⟨i1,hi1,hy0,hy1,hy2⟩:=info_parts xN
 have q22: ∀ (w:World) (a:Option Addr) (n c n' c':Nat),(binOp .eql 46 (.slice a n c) (.slice none n' c')).run Tryz.prog w= .ok (.bool a.isNone) w:=fun w a n c n' c'=>Lib.run_eql_slice_nil w _ _ a n c n' c' Tryz.underlying46
 cases a with
 |none=>
  have h0:ms=[]:=by
   cases ms with
   |nil=>rfl
   |cons x r=>obtain ⟨b,e,_⟩:=hc 0 (by simp);cases e
  subst h0
  clear hc
  go_enter Tryz.func104,Tryz.ntmps104
  go_wp2
  go_ret
  exact ⟨_,rfl,World.ownsRow_nil _ _ _ _,Below.refl _ _⟩
 |some ad=>
  have HC:Hid (∀ (j:Nat) (v:Value),(yF ms)[j]? =some v→(w.alloc (.cells #[] 114)).cell? (ad.add j)=some v):=zbd ms (fun i u=>(w.alloc (.cells #[] 114)).cell? (ad.add i)=some u) (fun j hj=>by
   obtain ⟨b,e,hl,hcc,hcd⟩:=hc j hj
   cases e
   rw [Addr.add_lit,Addr.add_lit,Nat.zero_add,Nat.zero_add]
   exact ⟨yL _ hcc,yL _ hcd⟩)
  clear hc
  go_enter Tryz.func104,Tryz.ntmps104
  go_wp2_with (at_builtin;refine wpList_append_own _ rfl _ _ 46 rfl w.heap.size 114 i1 (.agg #[.int .i64 0,.int .i64 0]) 2 16 Tryz.underlying46 hi1 hy0 hy1 hy2 rfl (by decide) _ _ _ rfl (World.ownsRow_made w #[] 0 (Nat.le_refl _) (Nat.zero_le _) rfl) ad ms.length cap (yF ms) rfl (xG ms) HC.out (xH ms) (by unfold maxLen;omega) (by omega) (by simp) ?_;intro v' w1 hown hgrow _)
  have OW:Hid (OwM w.heap.size w1 v' ms):=by
   show World.ownsRow _ _ _ _ _ _ _
   simpa using hown
  have HB:Hid (Below w.heap.size w w1):=(zC w (.cells #[] 114)).grown (show (w.alloc (.cells #[] 114)).grownBy w1 (Value.slice (some ⟨w.heap.size,0,none⟩) 0 0).ownBlock from hgrow) (by simp) (fun k q=>(World.ownsRow.lt (World.ownsRow_made (e:=114) (size:=2) w #[] 0 (Nat.le_refl _) (Nat.zero_le _) rfl) k q).1)
  obtain ⟨va,vc,rfl⟩:=zo (zr OW.out (by omega)).2
  clear hown hgrow HC
  go_wp2
  go_ret
  exact ⟨_,rfl,OW.out,HB.out⟩
structure Ls(W:World)(E:EV)(sl skv mvv:Value):Prop where
 d:Days W sl E.ds
 s:Ints W skv E.sk
 m:Movs W mvv E.mv
theorem Ls.step{W W':World}{E:EV}{sl skv mvv:Value}(h:Ls W E sl skv mvv)(hb:Below W.heap.size W W'):Ls W' E sl skv mvv:=⟨h.d.step hb,h.s.step hb,h.m.step hb⟩
set_option maxHeartbeats 4000000 in
set_option maxRecDepth 100000 in
theorem je(E:EV)(sl skv mvv:Value)(w:World)(hL:Ls w E sl skv mvv)(k20:E.sk.length≤20)(m20:E.mv.length≤20):
  Calls Tryz.prog 63 #[ev E sl skv mvv] w fun r w'=> ∃ sl' skv' mvv',r= .returned (ev E sl' skv' mvv')∧Ow w.heap.size w' sl' E.ds∧Ow w.heap.size w' skv' E.sk∧OwM w.heap.size w' mvv' E.mv∧Below w.heap.size w w':=by
 obtain ⟨hd,hs,hm⟩:=hL
 have h20:E.ds.length≤20:=by obtain ⟨_,_,_,h,_⟩:=hd;exact h
 have HD:=hid hd
 have HS:=hid hs
 have HM:=hid hm
 obtain ⟨ra,rc,rfl,_⟩:=hd
 obtain ⟨sa,sc,rfl,_⟩:=hs
 obtain ⟨ma,mc,rfl,_⟩:=hm
 obtain ⟨idn,ti,st,lg,f,e,ds,c,u,sk,mv⟩:=E
 unfold ev
 dsimp only at*
 have hA:=xt w (.cells (eW idn ti st lg f e ra ds.length rc c u sa sk.length sc ma mv.length mc) 48) (.cells zA 48)
 have k0:((w.alloc (.cells (eW idn ti st lg f e ra ds.length rc c u sa sk.length sc ma mv.length mc) 48)).alloc (.cells zA 48)).heap[w.heap.size]? =some (.cells (eW idn ti st lg f e ra ds.length rc c u sa sk.length sc ma mv.length mc) 48 (0,0)):=zH _ (zJ _ rfl)
 have k1:((w.alloc (.cells (eW idn ti st lg f e ra ds.length rc c u sa sk.length sc ma mv.length mc) 48)).alloc (.cells zA 48)).heap[w.heap.size+1]? =some (.cells zA 48 (0,0)):=zJ _ (by simp)
 have hz:((w.alloc (.cells (eW idn ti st lg f e ra ds.length rc c u sa sk.length sc ma mv.length mc) 48)).alloc (.cells zA 48)).heap.size=w.heap.size+2:=by simp
 have C1:=zbW ds _ _ (HD.out.step hA)
 have HA:Hid (_):=hA
 have HZ:Hid (_):=hz
 clear hA hz
 generalize hw0:(w.alloc (.cells (eW idn ti st lg f e ra ds.length rc c u sa sk.length sc ma mv.length mc) 48)).alloc (.cells zA 48)=w0 at HA k0 k1 HZ C1
 have KA:=hid k0
 have KB:=hid k1
 obtain ⟨x0,x1,x2,x3,x4,x5,x6,x7,x8,x9,x10⟩:=zK k0
 clear k0 k1
 have HC1:=hid C1
 clear C1
 go_enter Tryz.func63,Tryz.ntmps63
 go_upto_region 2 with (go_at_call 103;refine Calls.mono HC1.out ?_;rintro r w1 ⟨v1,rfl,ho1,hb1⟩;obtain ⟨ra1,rc1,rfl⟩:=zw ho1;have ka:w1.heap[w.heap.size]? =some (.cells (eW idn ti st lg f e ra ds.length rc c u sa sk.length sc ma mv.length mc) 48 (0,0)):=(hb1.block _ (by rw [HZ.out];omega)).trans KA.out;have z:=zF ka 6;obtain ⟨y0,y1,y2,y3,y4,y5,y6,y7,y8,y9,y10⟩:=zK ka;have KA1:Hid (_):=ka;clear ka x0 x1 x2 x3 x4 x5 x6 x7 x8 x9 x10)
 have hs1:=hb1.size
 rw [HZ.out] at hs1 ho1
 have KA2:=hid (zct (.slice ra1 ds.length rc1) KA1.out)
 have g2:w1.grownBy (w1.setCell ⟨w.heap.size,6,none⟩ (.slice ra1 ds.length rc1)) (some (w.heap.size)):=zG w1 ⟨w.heap.size,6,none⟩ (.slice ra1 ds.length rc1)
 have KB2:Hid ((w1.setCell ⟨w.heap.size,6,none⟩ (.slice ra1 ds.length rc1)).heap[w.heap.size+1]? =some (.cells zA 48 (0,0))):=(g2.block _ (by omega) (fun q=>by have q':w.heap.size+1=w.heap.size:=Option.some.inj q;omega)).trans ((hb1.block _ (by rw [HZ.out];omega)).trans KB.out)
 have O2:=hid (Ow.grown ho1 g2 (by omega))
 have B2:Hid (Below w.heap.size w (w1.setCell ⟨w.heap.size,6,none⟩ (.slice ra1 ds.length rc1))):=(zB HA.out hb1).grown g2 (by omega) (fun k q=>by cases q;exact Nat.le_refl _)
 have hs2:w.heap.size+2≤(w1.setCell ⟨w.heap.size,6,none⟩ (.slice ra1 ds.length rc1)).heap.size:=Nat.le_trans hs1 g2.size
 clear KA1 KA KB HA hb1 ho1 g2 y0 y1 y2 y3 y4 y5 y6 y7 y8 y9 y10 z hs1 HZ HC1
 generalize w1.setCell ⟨w.heap.size,6,none⟩ (.slice ra1 ds.length rc1)=w2 at KA2 KB2 O2 B2 hs2 ⊢
 have HC2:Hid (Calls _ _ _ _ _):=zbW sk _ w2 (xk (HS.out.step B2.out) k20)
 obtain ⟨x0,x1,x2,x3,x4,x5,x6,x7,x8,x9,x10⟩:=zK KA2.out
 go_upto_region 3 with (go_at_call 103;refine Calls.mono HC2.out ?_;rintro r w3 ⟨v3,rfl,ho3,hb3⟩;obtain ⟨sa1,sc1,rfl⟩:=zw ho3;have ka:w3.heap[w.heap.size]? =some (.cells (eW idn ti st lg f e ra1 ds.length rc1 c u sa sk.length sc ma mv.length mc) 48 (0,0)):=(hb3.block _ (by omega)).trans KA2.out;have z:=zF ka 9;obtain ⟨y0,y1,y2,y3,y4,y5,y6,y7,y8,y9,y10⟩:=zK ka;have KA3:Hid (_):=ka;clear ka x0 x1 x2 x3 x4 x5 x6 x7 x8 x9 x10)
 have hs3:=hb3.size
 have KA4:=hid (vX (.slice sa1 sk.length sc1) KA3.out)
 have g4:w3.grownBy (w3.setCell ⟨w.heap.size,9,none⟩ (.slice sa1 sk.length sc1)) (some (w.heap.size)):=zG w3 ⟨w.heap.size,9,none⟩ (.slice sa1 sk.length sc1)
 have KB4:Hid ((w3.setCell ⟨w.heap.size,9,none⟩ (.slice sa1 sk.length sc1)).heap[w.heap.size+1]? =some (.cells zA 48 (0,0))):=(g4.block _ (by omega) (fun q=>by have q':w.heap.size+1=w.heap.size:=Option.some.inj q;omega)).trans ((hb3.block _ (by omega)).trans KB2.out)
 have O4:=hid (Ow.grown (Ow.step O2.out hb3) g4 (by omega))
 have P4:=hid (Ow.grown (zW ho3 hs2) g4 (by omega))
 have B4:Hid (Below w.heap.size w (w3.setCell ⟨w.heap.size,9,none⟩ (.slice sa1 sk.length sc1))):=(zB B2.out hb3).grown g4 (by omega) (fun k q=>by cases q;exact Nat.le_refl _)
 have hs4:w.heap.size+2≤(w3.setCell ⟨w.heap.size,9,none⟩ (.slice sa1 sk.length sc1)).heap.size:=Nat.le_trans (Nat.le_trans hs2 hs3) g4.size
 clear KA3 KA2 KB2 O2 B2 hb3 ho3 g4 y0 y1 y2 y3 y4 y5 y6 y7 y8 y9 y10 z hs3 hs2 HC2
 generalize w3.setCell ⟨w.heap.size,9,none⟩ (.slice sa1 sk.length sc1)=w4 at KA4 KB4 O4 P4 B4 hs4 ⊢
 have HC3:Hid (Calls _ _ _ _ _):=zfL mv _ w4 (HM.out.step B4.out) (by omega)
 obtain ⟨x0,x1,x2,x3,x4,x5,x6,x7,x8,x9,x10⟩:=zK KA4.out
 go_upto_region 4 with (go_at_call 104;refine Calls.mono HC3.out ?_;rintro r w5 ⟨v5,rfl,ho5,hb5⟩;obtain ⟨ma1,mc1,rfl⟩:=zo (zr ho5 (by omega)).2;have ka:w5.heap[w.heap.size]? =some (.cells (eW idn ti st lg f e ra1 ds.length rc1 c u sa1 sk.length sc1 ma mv.length mc) 48 (0,0)):=(hb5.block _ (by omega)).trans KA4.out;have z:=zF ka 10;obtain ⟨y0,y1,y2,y3,y4,y5,y6,y7,y8,y9,y10⟩:=zK ka;have KA5:Hid (_):=ka;clear ka x0 x1 x2 x3 x4 x5 x6 x7 x8 x9 x10)
 have hs5:=hb5.size
 have KA6:=hid (xY (.slice ma1 mv.length mc1) KA5.out)
 have g6:w5.grownBy (w5.setCell ⟨w.heap.size,10,none⟩ (.slice ma1 mv.length mc1)) (some (w.heap.size)):=zG w5 ⟨w.heap.size,10,none⟩ (.slice ma1 mv.length mc1)
 have KB6:Hid ((w5.setCell ⟨w.heap.size,10,none⟩ (.slice ma1 mv.length mc1)).heap[w.heap.size+1]? =some (.cells zA 48 (0,0))):=(g6.block _ (by omega) (fun q=>by have q':w.heap.size+1=w.heap.size:=Option.some.inj q;omega)).trans ((hb5.block _ (by omega)).trans KB4.out)
 have O6:=hid (Ow.grown (Ow.step O4.out hb5) g6 (by omega))
 have P6:=hid (Ow.grown (Ow.step P4.out hb5) g6 (by omega))
 have Q6:=hid (OwM.grown (zW ho5 hs4) g6 (by omega))
 have B6:Hid (Below w.heap.size w (w5.setCell ⟨w.heap.size,10,none⟩ (.slice ma1 mv.length mc1))):=(zB B4.out hb5).grown g6 (by omega) (fun k q=>by cases q;exact Nat.le_refl _)
 have hs6:w.heap.size+2≤(w5.setCell ⟨w.heap.size,10,none⟩ (.slice ma1 mv.length mc1)).heap.size:=Nat.le_trans (Nat.le_trans hs4 hs5) g6.size
 clear KA5 KA4 KB4 O4 P4 B4 hb5 ho5 g6 y0 y1 y2 y3 y4 y5 y6 y7 y8 y9 y10 z hs5 hs4 HC3
 generalize w5.setCell ⟨w.heap.size,10,none⟩ (.slice ma1 mv.length mc1)=w6 at KA6 KB6 O6 P6 Q6 B6 hs6 ⊢
 obtain ⟨x0,x1,x2,x3,x4,x5,x6,x7,x8,x9,x10⟩:=zK KA6.out
 obtain ⟨f0,f1,f2,f3,f4,f5,f6,f7,f8,f9,f10⟩:=frz KB6.out
 obtain ⟨t0,t1,t2,t3,t4,t5,t6,t7,t8,t9,t10⟩:=zK KB6.out
 go_wp2
 rw [zX]
 have n10:=zk (.string idn) (.string ti) (.int .i64 st) (.int .i64 lg) (.string f) (.int .i64 e) (.slice ra1 ds.length rc1) (.int .i64 c) (.int .i64 u) (.slice sa1 sk.length sc1) (.slice ma1 mv.length mc1) KB6.out
 have g7:=zT w6 (w.heap.size+1) (.string idn) (.string ti) (.int .i64 st) (.int .i64 lg) (.string f) (.int .i64 e) (.slice ra1 ds.length rc1) (.int .i64 c) (.int .i64 u) (.slice sa1 sk.length sc1) (.slice ma1 mv.length mc1)
 clear x0 x1 x2 x3 x4 x5 x6 x7 x8 x9 x10 t0 t1 t2 t3 t4 t5 t6 t7 t8 t9 t10 f0 f1 f2 f3 f4 f5 f6 f7 f8 f9 f10
 generalize yI w6 (w.heap.size+1) (.string idn) (.string ti) (.int .i64 st) (.int .i64 lg) (.string f) (.int .i64 e) (.slice ra1 ds.length rc1) (.int .i64 c) (.int .i64 u) (.slice sa1 sk.length sc1) (.slice ma1 mv.length mc1)=w7 at n10 g7 ⊢
 obtain ⟨c0,c1,c2,c3,c4,c5,c6,c7,c8,c9,c10⟩:=zK n10
 have o1:=Ow.grown O6.out g7 (by omega)
 have o2:=Ow.grown P6.out g7 (by omega)
 have o3:=OwM.grown Q6.out g7 (by omega)
 refine bodyPost_ret (v:= .agg (eW idn ti st lg f e ra1 ds.length rc1 c u sa1 sk.length sc1 ma1 mv.length mc1)) (by simp [results,Tryz.f63,go_sem,c0,c1,c2,c3,c4,c5,c6,c7,c8,c9,c10]) rfl ⟨_,_,_,rfl,zW o1 (by omega),zW o2 (by omega),zW o3 (by omega),B6.out.grown g7 (by omega) (fun k q=>by cases q;omega)⟩
end Go.Proofs.YtpeafgddbbojaaaGreatDoor
