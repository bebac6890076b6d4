import Derived.Test.YtpeafgddbbojaaaGreatDoorJqAA
import Derived.Test.YtpeafgddbbojaaaGreatDoorJqAM
import Derived.Sort.Walk0
import Derived.Deep.RegionWith
import Derived.Test.YtpeafgddbbojaaaGreatDoorJqAB
import Derived.BigQuiet
import Derived.Deep.DeepCutAuto
namespace Go.Proofs.YtpeafgddbbojaaaGreatDoor
open Go Go.RowKit Go.Maps Cal
attribute [local go_sem] Oper.semAt_some
def EX.lt(X Y:EX):Bool:=Op.bytesLess X.E.id.toList Y.E.id.toList
def ins(X:EX):List EX→List EX
 |[]=>[X]
 |Y::r=>if X.lt Y then X::Y::r else Y::ins X r
def zgB(X:EX)(put:Bool)(l:List EX):List EX:=if put then l else ins X l
theorem zcm(X:EX): ∀ l,(ins X l).length=l.length+1
 |[]=>rfl
 |Y::r=>by
  unfold ins
  split
  ·rfl
  ·rw [List.length_cons,zcm X r];rfl
theorem jK{X Z:EX}: ∀ {l:List EX},Z∈ins X l↔Z=X∨Z∈l
 |[]=>by simp [ins]
 |Y::r=>by
  unfold ins
  split
  ·simp
  ·rw [List.mem_cons,jK,List.mem_cons]
   constructor
   ·rintro (h|h|h)
    ·exact .inr (.inl h)
    ·exact .inl h
    ·exact .inr (.inr h)
   ·rintro (h|h|h)
    ·exact .inr (.inl h)
    ·exact .inl h
    ·exact .inr (.inr h)
theorem zgU{X Y:EX}{put g:Bool}{L:List EX}(hg:g=(!put&&X.lt Y)):zgB X put (Y::L)=(if g then [X] else [])++Y::zgB X (put||g) L:=by
 subst hg
 cases put with
 |true=>simp [zgB]
 |false=>
  cases h:X.lt Y<;>simp [zgB,ins,h]
theorem EX.one(X:EX)(h:X.ok): ∀ u∈X.cells,u.oneCell'=true:=fun u hu=>by
 obtain ⟨⟨_,_,_,e1⟩,⟨_,_,_,e2⟩,⟨_,_,_,e3⟩⟩:=h
 unfold EX.cells at hu
 rw [e1,e2,e3] at hu
 simp only [List.mem_cons,List.not_mem_nil,or_false] at hu
 rcases hu with rfl|rfl|rfl|rfl|rfl|rfl|rfl|rfl|rfl|rfl|rfl<;>rfl
def WSt(w2:World)(bo:Nat)(T R:List EX)(wr:World):Prop:=
 ∃ vo out,wr.heap[bo]? =some (.cells #[vo] 27 (0,0))∧MR (bo+1) wr vo out∧out++R=T∧w2.grownBy wr (some bo)
theorem zd2{w2 wr w3:World}{bo gb capb:Nat}{T R out:List EX}{Z:EX}{vo:Value}(hvo:wr.heap[bo]? =some (.cells #[vo] 27 (0,0)))(hT:out++Z::R=T)
  (h1:w3.ownsRow (bo+1) 48 11 (.slice (some ⟨gb,0,none⟩) (out.length+1) capb) (out.length+1) (out.flatMap EX.cells++Z.cells)) (h2:w2.grownBy w3 (some bo)) (h3: ∀ k,k<bo+1→w3.heap[k]? =wr.heap[k]?):
  WSt w2 bo T R (w3.setCell ⟨bo,0,none⟩ (.slice (some ⟨gb,0,none⟩) (out.length+1) capb)):=by
 refine ⟨_,out++[Z],zM (i:=0) _ ((h3 _ (by omega)).trans hvo),?_,by rw [←hT];simp,zL h2 (zG w3 ⟨bo,0,none⟩ _)⟩
 refine MR.far (W:=w3) ?_ (fun k hk _=>Below.heap_setCell _ _ _ k (by intro q;have q':k=bo:=q;omega))
 show w3.ownsRow _ _ _ _ _ _
 rw [List.length_append,List.flatMap_append,List.flatMap_cons,List.flatMap_nil,List.append_nil]
 exact h1
set_option maxHeartbeats 4000000 in
set_option maxRecDepth 100000 in
theorem zcn(base:Nat)(E:EV)(ra:Option Addr)(rn rc:Nat)(sa:Option Addr)(sn sc:Nat)(ma:Option Addr)(mn mc:Nat)(v:Value)(Xs:List EX)(w:World)(hR:MR base w v Xs)(h8:Xs.length≤1000)(hok: ∀ X∈Xs,X.ok):
  Calls Tryz.prog 23 #[.agg #[v],ev E (.slice ra rn rc) (.slice sa sn sc) (.slice ma mn mc)] w fun r w'=> ∃ v',r= .returned (.agg #[v'])∧MR w.heap.size w' v' (ins ⟨E,.slice ra rn rc,.slice sa sn sc,.slice ma mn mc⟩ (Xs.filter fun X=>decide (X.E.id≠E.id)))∧Below w.heap.size w w':=by
 obtain ⟨i0,hi,hz0,hz1,hz2⟩:=info_parts zbR
 obtain ⟨a,cap,rfl,hcap,_⟩:=hR.form
 unfold ev
 have A3:Below w.heap.size w (((w.alloc (.cells #[.slice a Xs.length cap] 27)).alloc (.cells (eW E.id E.ti E.st E.lg E.f E.e ra rn rc E.c E.u sa sn sc ma mn mc) 48)).alloc (.cells #[.slice none 0 0] 27)):=zB (zB (zC _ _) (zC _ _)) (zC _ _)
 have k0:(((w.alloc (.cells #[.slice a Xs.length cap] 27)).alloc (.cells (eW E.id E.ti E.st E.lg E.f E.e ra rn rc E.c E.u sa sn sc ma mn mc) 48)).alloc (.cells #[.slice none 0 0] 27)).heap[w.heap.size]? =some (.cells #[.slice a Xs.length cap] 27 (0,0)):=zH _ (zH _ (zJ _ rfl))
 have k1:(((w.alloc (.cells #[.slice a Xs.length cap] 27)).alloc (.cells (eW E.id E.ti E.st E.lg E.f E.e ra rn rc E.c E.u sa sn sc ma mn mc) 48)).alloc (.cells #[.slice none 0 0] 27)).heap[w.heap.size+1]? =some (.cells (eW E.id E.ti E.st E.lg E.f E.e ra rn rc E.c E.u sa sn sc ma mn mc) 48 (0,0)):=zH _ (zJ _ (World.size_alloc _ _))
 have k2:(((w.alloc (.cells #[.slice a Xs.length cap] 27)).alloc (.cells (eW E.id E.ti E.st E.lg E.f E.e ra rn rc E.c E.u sa sn sc ma mn mc) 48)).alloc (.cells #[.slice none 0 0] 27)).heap[w.heap.size+2]? =some (.cells #[.slice none 0 0] 27 (0,0)):=zJ _ (by rw [World.size_alloc,World.size_alloc])
 have sz:(((w.alloc (.cells #[.slice a Xs.length cap] 27)).alloc (.cells (eW E.id E.ti E.st E.lg E.f E.e ra rn rc E.c E.u sa sn sc ma mn mc) 48)).alloc (.cells #[.slice none 0 0] 27)).heap.size=w.heap.size+3:=by rw [World.size_alloc,World.size_alloc,World.size_alloc]
 have WO:Hid (Calls _ _ _ _ _):=zd1 base E.id (.slice a Xs.length cap) Xs _ (hR.far (fun k _ hk=>A3.block k hk)) h8 hok
 have hokY: ∀ X∈Xs.filter (fun X=>decide (X.E.id≠E.id)),X.ok:=fun X hX=>hok X (List.mem_filter.1 hX).1
 have h8Y:(Xs.filter (fun X=>decide (X.E.id≠E.id))).length≤1000:=Nat.le_trans (List.length_filter_le _ _) h8
 have K0:Hid (_):=k0
 have K1:Hid (_):=k1
 have K2:Hid (_):=k2
 have A0:Hid (_):=A3
 have SZ:Hid (_):=sz
 have HOKY:Hid (_):=hokY
 obtain ⟨e0,e1,e2,e3,e4,e5,e6,e7,e8,e9,e10⟩:=zK k1
 have cB0:=zR k0
 clear A3 k0 k1 k2 sz hR hok hokY
 generalize Xs.filter (fun X=>decide (X.E.id≠E.id))=Ys at WO HOKY h8Y ⊢
 obtain ⟨X,hX⟩: ∃ X:EX,X=⟨E,.slice ra rn rc,.slice sa sn sc,.slice ma mn mc⟩:=⟨_,rfl⟩
 rw [←hX]
 have HX:=hid hX
 generalize hT:ins X Ys=T
 have HT:=hid hT
 clear hX hT
 go_enter Tryz.func23,Tryz.ntmps23
 generalize hw0:((w.alloc (.cells #[.slice a Xs.length cap] 27)).alloc (.cells (eW E.id E.ti E.st E.lg E.f E.e ra rn rc E.c E.u sa sn sc ma mn mc) 48)).alloc (.cells #[.slice none 0 0] 27)=w0 at WO K0 K1 K2 A0 SZ cB0 e0 e1 e2 e3 e4 e5 e6 e7 e8 e9 e10
 go_upto_region 2 with (go_at_call 48;refine Calls.mono WO.out ?_;rintro r w1 ⟨v1,rfl,hm1,hb1⟩;obtain ⟨a1,c1,rfl,hcap1,hc1⟩:=hm1.form)
 have KX1:w1.heap[w.heap.size+1]? =some (.cells (eW E.id E.ti E.st E.lg E.f E.e ra rn rc E.c E.u sa sn sc ma mn mc) 48 (0,0)):=(hb1.block _ (by rw [SZ.out];omega)).trans K1.out
 have K21:w1.heap[w.heap.size+2]? =some (.cells #[.slice none 0 0] 27 (0,0)):=(hb1.block _ (by rw [SZ.out];omega)).trans K2.out
 have hs1:w.heap.size+3≤w1.heap.size:=by rw [←SZ.out];exact hb1.size
 have B1:Below w.heap.size w w1:=zB A0.out hb1
 clear WO K0 K1 K2 A0 SZ cB0 e0 e1 e2 e3 e4 e5 e6 e7 e8 e9 e10 hw0 hb1
 have KX2:Hid (((w1.alloc (.cells #[.slice a1 Ys.length c1] 27)).alloc (.cells #[.slice none 0 0] 27)).heap[w.heap.size+1]? =some (.cells (eW E.id E.ti E.st E.lg E.f E.e ra rn rc E.c E.u sa sn sc ma mn mc) 48 (0,0))):=zH _ (zH _ KX1)
 have K22:Hid (((w1.alloc (.cells #[.slice a1 Ys.length c1] 27)).alloc (.cells #[.slice none 0 0] 27)).heap[w.heap.size+2]? =some (.cells #[.slice none 0 0] 27 (0,0))):=zH _ (zH _ K21)
 have K5:Hid (((w1.alloc (.cells #[.slice a1 Ys.length c1] 27)).alloc (.cells #[.slice none 0 0] 27)).heap[w1.heap.size]? =some (.cells #[.slice a1 Ys.length c1] 27 (0,0))):=zH _ (zJ _ rfl)
 have K6:Hid (((w1.alloc (.cells #[.slice a1 Ys.length c1] 27)).alloc (.cells #[.slice none 0 0] 27)).heap[w1.heap.size+1]? =some (.cells #[.slice none 0 0] 27 (0,0))):=zJ _ (World.size_alloc _ _)
 have SZ2:Hid (((w1.alloc (.cells #[.slice a1 Ys.length c1] 27)).alloc (.cells #[.slice none 0 0] 27)).heap.size=w1.heap.size+2):=by show _=_;rw [World.size_alloc,World.size_alloc]
 have B2:Hid (Below w.heap.size w ((w1.alloc (.cells #[.slice a1 Ys.length c1] 27)).alloc (.cells #[.slice none 0 0] 27))):=zB B1 (zB (zC _ _) (zC _ _))
 have HC2:Hid (∀ (j:Nat) (hj:j<Ys.length),∃ b,a1=some ⟨b,0,none⟩∧b<w1.heap.size∧EvAt ((w1.alloc (.cells #[.slice a1 Ys.length c1] 27)).alloc (.cells #[.slice none 0 0] 27)) b (j*11) Ys[j].E Ys[j].sl Ys[j].skv Ys[j].mvv):=fun j hj=>by
  obtain ⟨b,q1,q2⟩:=hc1 j hj
  exact ⟨b,q1,xI q2.c0,q2.step (zB (zC _ _) (zC _ _))⟩
 clear KX1 K21 hc1 hm1 B1
 go_wp2
 generalize hw2:(w1.alloc (.cells #[.slice a1 Ys.length c1] 27)).alloc (.cells #[.slice none 0 0] 27)=w2 at KX2 K22 K5 K6 SZ2 B2 HC2 ⊢
 go_loopw [7,8] (fun p i wr=> ∃ (m:Nat) (put:Bool),m≤Ys.length∧p= .bool put∧i= .int .i64 m∧Hid (WSt w2 (w1.heap.size+1) T (zgB X put (Ys.drop m)) wr)) (fun _ i _=>Ys.length - (intOf i).toNat)
 case atStart=>exact ⟨0,false,Nat.zero_le _,rfl,rfl,_,[],K6.out,MR.nil _ _,by rw [←HT.out];rfl,zO (Below.refl _ _) _⟩
 case round=>
  obtain ⟨m,put,hm,rfl,rfl,HV⟩:=hrel
  obtain ⟨vo,out,hvo,hmr,hap,hgr⟩:=HV.out
  have KR5:wr.heap[w1.heap.size]? =some (.cells #[.slice a1 Ys.length c1] 27 (0,0)):=(hgr.block _ (by have:=SZ2.out;omega) (fun q=>by have:=Option.some.inj q;omega)).trans K5.out
  have KRX:wr.heap[w.heap.size+1]? =some (.cells (eW E.id E.ti E.st E.lg E.f E.e ra rn rc E.c E.u sa sn sc ma mn mc) 48 (0,0)):=(hgr.block _ (by have:=SZ2.out;omega) (fun q=>by have:=Option.some.inj q;omega)).trans KX2.out
  have cB5:=zR KR5
  have hsw:w1.heap.size+2≤wr.heap.size:=by rw [←SZ2.out];exact hgr.size
  have hlT:out.length≤1000+1:=by
   have h1:(out++zgB X put (Ys.drop m)).length=T.length:=by rw [hap]
   have h2:T.length=Ys.length+1:=by rw [←HT.out,zcm]
   rw [List.length_append] at h1
   omega
  by_cases hlt:m<Ys.length
  ·obtain ⟨b,rfl,hbw,hE⟩:=HC2.out m hlt
   obtain ⟨⟨rb,rbn,rbc,e1⟩,⟨sb,sbn,sbc,e2⟩,⟨mb,mbn,mbc,e3⟩⟩:=HOKY.out Ys[m] (List.getElem_mem hlt)
   have hE2:EvAt wr b (m*11) Ys[m].E (.slice rb rbn rbc) (.slice sb sbn sbc) (.slice mb mbn mbc):=by
    rw [e1,e2,e3] at hE
    have Fc: ∀ {o:Nat} {u:Value},w2.cell? ⟨b,o,none⟩=some u→wr.cell? ⟨b,o,none⟩=some u:=fun h=>yG hgr h (by omega)
    exact ⟨Fc hE.c0,Fc hE.c1,Fc hE.c2,Fc hE.c3,Fc hE.c4,Fc hE.c5,Fc hE.c6,Fc hE.c7,Fc hE.c8,Fc hE.c9,Fc hE.c10⟩
   have hdr:Ys.drop m=Ys[m]::Ys.drop (m+1):=List.drop_eq_getElem_cons hlt
   obtain ⟨g,hg⟩: ∃ g:Bool,g=(!put&&X.lt Ys[m]):=⟨_,rfl⟩
   have hap2:=hap
   rw [hdr,zgU hg] at hap2
   have HE:Hid (EvAt w2 b (m*11) Ys[m].E (.slice rb rbn rbc) (.slice sb sbn sbc) (.slice mb mbn mbc)):=by rw [←e1,←e2,←e3];exact hE
   have HY:Hid (Ys[m]=⟨Ys[m].E,.slice rb rbn rbc,.slice sb sbn sbc,.slice mb mbn mbc⟩):=by
    show Ys[m]=_
    rw [←e1,←e2,←e3]
   clear HV hap hdr e1 e2 e3 hE
   have HG:=hid hg
   clear hg
   generalize hYm:Ys[m]=Y at hE2 HE HY HG hap2
   generalize hFm:Y.E=F at hE2 HE HY
   have HF:=hid hFm
   clear hYm hFm
   generalize hRm:Ys.drop (m+1)=R at hap2
   have HR:=hid hRm
   clear hRm
   obtain ⟨y0,y1,y2,y3,y4,y5,y6,y7,y8,y9,y10⟩:=hE2
   obtain ⟨e0,e1,e2,e3,e4,e5,e6,e7,e8,e9,e10⟩:=zK KRX
   have HVO:Hid (_):=hvo
   have HMR:Hid (_):=hmr
   have HAP:Hid (_):=hap2
   have HGR:Hid (_):=hgr
   have HKX:Hid (_):=KRX
   have HK5:Hid (_):=KR5
   clear hvo hmr hap2 hgr KRX KR5
   have HB:Hid (g=(!put&&Op.bytesLess E.id.toList F.id.toList)):=by
    show g=_
    rw [HG.out,HX.out,←HF.out];rfl
   go_upto_region 7 with fail
   go_cut [33] (fun v wx=>v= .bool g∧Hid (Below wr.heap.size wr wx))
   case first=>
    cases put with
    |true=>
     have hq:=HB.out
     simp only [Bool.not_true,Bool.false_and] at hq
     have HQ:=hid hq
     clear hq HB
     go_quiet (fail)
     go_wp2
     go_meet
     case rel=>exact ⟨by rw [HQ.out],zN _ _⟩
    |false=>
     have hq:=HB.out
     simp only [Bool.not_false,Bool.true_and] at hq
     have HQ:=hid hq
     clear hq HB
     go_quiet (fail)
     go_wp2
     go_meet
     case rel=>exact ⟨by rw [HQ.out],zN _ _⟩
   case rest=>
    obtain ⟨rfl,HBc⟩:=hcut
    have KXc:wc.heap[w.heap.size+1]? =some (.cells (eW E.id E.ti E.st E.lg E.f E.e ra rn rc E.c E.u sa sn sc ma mn mc) 48 (0,0)):=(HBc.out.block _ (by omega)).trans HKX.out
    have HK5c:Hid (wc.heap[w1.heap.size]? =_):=(HBc.out.block _ (by omega)).trans HK5.out
    have hvoc:wc.heap[w1.heap.size+1]? =some (.cells #[vo] 27 (0,0)):=(HBc.out.block _ (by omega)).trans HVO.out
    have hmrc:MR (w1.heap.size+1+1) wc vo out:=MR.far HMR.out (fun k _ hk=>HBc.out.block k hk)
    have hgrc:w2.grownBy wc (some (w1.heap.size+1)):=zL HGR.out (zO HBc.out _)
    have hswc:w1.heap.size+2≤wc.heap.size:=Nat.le_trans hsw HBc.out.size
    have HYC:=hid (EvAt.step ⟨y0,y1,y2,y3,y4,y5,y6,y7,y8,y9,y10⟩ HBc.out)
    clear y0 y1 y2 y3 y4 y5 y6 y7 y8 y9 y10 e0 e1 e2 e3 e4 e5 e6 e7 e8 e9 e10 cB5 HKX HK5 HVO HMR HGR hsw HB
    go_upto_if 33 with fail
    go_cut [7] (fun q wx=>q= .bool (put||g)∧Hid (WSt w2 (w1.heap.size+1) T (Y::zgB X (put||g) R) wx))
    case first=>
     cases g with
     |false=>
      have HST:Hid (WSt w2 (w1.heap.size+1) T (Y::zgB X put R) wc):=⟨vo,out,hvoc,hmrc,by have:=HAP.out;simpa using this,hgrc⟩
      clear hvoc hmrc hgrc KXc
      go_wp2
      go_meet
      case rel=>exact ⟨by rw [Bool.or_false],by rw [Bool.or_false];exact HST.out⟩
     |true=>
      obtain ⟨oa,oc,rfl,_,_⟩:=hmrc.form
      have HAP2:Hid (out++X::(Y::zgB X (put||true) R)=T):=by show _=T;have:=HAP.out;simpa using this
      have HVO:Hid (_):=hvoc
      have HGR:Hid (_):=hgrc
      have hT1:out.length≤1001:=hlT
      have HFR:Hid (∀ k,k<w1.heap.size+1+1→(Value.slice oa out.length oc).ownBlock≠some k):=fun k hk=>hmrc.own k hk
      have HOWN:Hid (∀ W,Below wc.heap.size wc W→W.ownsRow (w1.heap.size+1+1) 48 11 (.slice oa out.length oc) out.length (out.flatMap EX.cells)):=fun W hW=>hmrc.far (fun k _ hk=>hW.block k hk)
      have HONE:Hid (∀ u∈([.string E.id,.string E.ti,.int .i64 E.st,.int .i64 E.lg,.string E.f,.int .i64 E.e,.slice ra rn rc,.int .i64 E.c,.int .i64 E.u,.slice sa sn sc,.slice ma mn mc]:List Value),u.oneCell'=true):=fun u hu=>by
       simp only [List.mem_cons,List.not_mem_nil,or_false] at hu
       rcases hu with rfl|rfl|rfl|rfl|rfl|rfl|rfl|rfl|rfl|rfl|rfl<;>rfl
      have HMAX:Hid (out.length+1≤maxLen):=by show out.length+1≤maxLen;unfold maxLen;omega
      have HBY:Hid ((out.length+1)*160≤140737488355328):=by show (out.length+1)*160≤_;omega
      have cV:=zR hvoc
      obtain ⟨e0,e1,e2,e3,e4,e5,e6,e7,e8,e9,e10⟩:=zK KXc
      clear hvoc hmrc hgrc
      go_wp2_with (at_builtin;refine wpList_append_lies _ rfl _ _ 22 rfl (w1.heap.size+1+1) 48 i0 zV 11 160 Tryz.underlying22 hi hz0 hz1 hz2 rfl (by decide) (.slice oa out.length oc) out.length (out.flatMap EX.cells) rfl (HOWN.out _ (zC _ _)) ⟨wc.heap.size,0,none⟩ 1 1 [.string E.id,.string E.ti,.int .i64 E.st,.int .i64 E.lg,.string E.f,.int .i64 E.e,.slice ra rn rc,.int .i64 E.c,.int .i64 E.u,.slice sa sn sc,.slice ma mn mc] rfl rfl (World.news_of_block (cs:= (eW E.id E.ti E.st E.lg E.f E.e ra rn rc E.c E.u sa sn sc ma mn mc)) (zJ _ rfl)) HONE.out (by decide) HMAX.out HBY.out (by rw [World.size_alloc];omega) _ rfl ?_;intro gb capb w3 hown hgrow hat hlt3;have HG8:Hid (_):=vl HGR.out SZ2.out (zC _ _) hgrow HFR.out;have hW8:=HG8.out.2;have cw3:w3.cell? ⟨w1.heap.size+1,0,none⟩=some (.slice oa out.length oc):=zR ((hW8 _ (by omega)).trans HVO.out);have fw3:w3.frozen? ⟨w1.heap.size+1,0,none⟩=false:=zF ((hW8 _ (by omega)).trans HVO.out) 0)
      have HOW3:Hid (w3.ownsRow (w1.heap.size+1+1) 48 11 (.slice (some ⟨gb,0,none⟩) (out.length+1) capb) (out.length+1) (out.flatMap EX.cells++X.cells)):=by rw [HX.out];exact hown
      have HST:Hid (WSt w2 (w1.heap.size+1) T (Y::zgB X (put||true) R) (w3.setCell ⟨w1.heap.size+1,0,none⟩ (.slice (some ⟨gb,0,none⟩) (out.length+1) capb))):=zd2 HVO.out HAP2.out HOW3.out HG8.out.1 (fun k hk=>HG8.out.2 k (by omega))
      clear hown hgrow hat hlt3 HG8 hW8 cw3 fw3
      go_meet
      case rel=>exact ⟨by rw [Bool.or_true],HST.out⟩
    case rest=>
     clear HYC HK5c KXc hvoc hmrc hgrc hswc HBc HAP
     obtain ⟨rfl,HST⟩:=hcut
     obtain ⟨vo2,L,hvo2,hmr2,hap2,hgr2⟩:=HST.out
     have K5c:wc.heap[w1.heap.size]? =some (.cells #[.slice (some ⟨b,0,none⟩) Ys.length c1] 27 (0,0)):=(hgr2.block _ (by have:=SZ2.out;omega) (fun q=>by have:=Option.some.inj q;omega)).trans K5.out
     have hYc:EvAt wc b (m*11) F (.slice rb rbn rbc) (.slice sb sbn sbc) (.slice mb mbn mbc):=by
      have hq:=HE.out
      have Fc: ∀ {o:Nat} {u:Value},w2.cell? ⟨b,o,none⟩=some u→wc.cell? ⟨b,o,none⟩=some u:=fun h=>yG hgr2 h (by omega)
      exact ⟨Fc hq.c0,Fc hq.c1,Fc hq.c2,Fc hq.c3,Fc hq.c4,Fc hq.c5,Fc hq.c6,Fc hq.c7,Fc hq.c8,Fc hq.c9,Fc hq.c10⟩
     have hsw2:w1.heap.size+2≤wc.heap.size:=by rw [←SZ2.out];exact hgr2.size
     have hLl:L.length≤1001:=by
      have h1:(L++Y::zgB X (put||g) R).length=T.length:=by rw [hap2]
      have h2:T.length=Ys.length+1:=by rw [←HT.out,zcm]
      rw [List.length_append] at h1
      omega
     obtain ⟨oa,oc,rfl,_,_⟩:=hmr2.form
     have HVO:Hid (_):=hvo2
     have HAP:Hid (_):=hap2
     have HGR:Hid (_):=hgr2
     have cB5:=zR K5c
     have cB2:wc.cell? ⟨w1.heap.size+1,0,none⟩=some (.slice oa L.length oc):=zR hvo2
     have cB3:(wc.alloc (.cells (eW F.id F.ti F.st F.lg F.f F.e rb rbn rbc F.c F.u sb sbn sbc mb mbn mbc) 48)).cell? ⟨w1.heap.size+1,0,none⟩=some (.slice oa L.length oc):=yL _ cB2
     have HOWN:Hid (∀ W,Below wc.heap.size wc W→W.ownsRow (w1.heap.size+1+1) 48 11 (.slice oa L.length oc) L.length (L.flatMap EX.cells)):=fun W hW=>hmr2.far (fun k _ hk=>hW.block k hk)
     have HONE:Hid (∀ u∈([.string F.id,.string F.ti,.int .i64 F.st,.int .i64 F.lg,.string F.f,.int .i64 F.e,.slice rb rbn rbc,.int .i64 F.c,.int .i64 F.u,.slice sb sbn sbc,.slice mb mbn mbc]:List Value),u.oneCell'=true):=fun u hu=>by
      simp only [List.mem_cons,List.not_mem_nil,or_false] at hu
      rcases hu with rfl|rfl|rfl|rfl|rfl|rfl|rfl|rfl|rfl|rfl|rfl<;>rfl
     have HMAX:Hid (L.length+1≤maxLen):=by show L.length+1≤maxLen;unfold maxLen;omega
     have HBY:Hid ((L.length+1)*160≤140737488355328):=by show (L.length+1)*160≤_;omega
     have HFR:Hid (∀ k,k<w1.heap.size+1+1→(Value.slice oa L.length oc).ownBlock≠some k):=fun k hk=>hmr2.own k hk
     have HYCL:Hid (Y.cells=[.string F.id,.string F.ti,.int .i64 F.st,.int .i64 F.lg,.string F.f,.int .i64 F.e,.slice rb rbn rbc,.int .i64 F.c,.int .i64 F.u,.slice sb sbn sbc,.slice mb mbn mbc]):=by
      show Y.cells=_
      rw [HY.out];rfl
     have REL:Hid (∀ (w3:World) (gb capb:Nat),w3.ownsRow (w1.heap.size+1+1) 48 11 (.slice (some ⟨gb,0,none⟩) (L.length+1) capb) (L.length+1) (L.flatMap EX.cells++[.string F.id,.string F.ti,.int .i64 F.st,.int .i64 F.lg,.string F.f,.int .i64 F.e,.slice rb rbn rbc,.int .i64 F.c,.int .i64 F.u,.slice sb sbn sbc,.slice mb mbn mbc])→w2.grownBy w3 (some (w1.heap.size+1))→(∀ k,k<w1.heap.size+1+1→w3.heap[k]? =wc.heap[k]?)→
       WSt w2 (w1.heap.size+1) T (zgB X (put||g) (Ys.drop (m+1))) (w3.setCell ⟨w1.heap.size+1,0,none⟩ (.slice (some ⟨gb,0,none⟩) (L.length+1) capb))):=fun w3 gb capb h1 h2 h3=>by
      rw [HR.out]
      exact zd2 HVO.out HAP.out (by rw [HYCL.out];exact h1) h2 h3
     obtain ⟨x0,x1,x2,x3,x4,x5,x6,x7,x8,x9,x10⟩:=hYc
     clear hvo2 hmr2 hap2 hgr2 K5c HST HY HE HG
     generalize (put||g)=pg at REL HAP ⊢
     go_wp2_with fail
     go_region_law
      ((refine step_append_lies _ (by rfl) _ _ 22 (by rfl) (w1.heap.size+1+1) 48 i0 zV 11 160 Tryz.underlying22 hi hz0 hz1 hz2 rfl (by decide) (.slice oa L.length oc) L.length (L.flatMap EX.cells) (by rfl) (HOWN.out _ (by (first|with_reducible exact zB (zI _) (zC _ _)|with_reducible exact zB (zC _ _) (zI _)))) ⟨wc.heap.size,0,none⟩ 1 1 [.string F.id,.string F.ti,.int .i64 F.st,.int .i64 F.lg,.string F.f,.int .i64 F.e,.slice rb rbn rbc,.int .i64 F.c,.int .i64 F.u,.slice sb sbn sbc,.slice mb mbn mbc] (by rfl) rfl (World.news_of_block (cs:= (eW F.id F.ti F.st F.lg F.f F.e rb rbn rbc F.c F.u sb sbn sbc mb mbn mbc)) (by first|exact zJ _ rfl|exact (zJ (W:=wc) _ rfl))) HONE.out (by decide) HMAX.out HBY.out (Nat.le_trans hsw2 (Below.size (B:=wc.heap.size) (w:=wc) (by (first|with_reducible exact zB (zI _) (zC _ _)|with_reducible exact zB (zC _ _) (zI _))))) _ rfl ?_;intro gb capb w3 hown hgrow hat hlt3;have HG8:Hid (_):=vl HGR.out SZ2.out (by (first|with_reducible exact zB (zI _) (zC _ _)|with_reducible exact zB (zC _ _) (zI _))) hgrow HFR.out;have hW8:=HG8.out.2;have cw3:w3.cell? ⟨w1.heap.size+1,0,none⟩=some (.slice oa L.length oc):=zR ((hW8 _ (by omega)).trans HVO.out);have fw3:w3.frozen? ⟨w1.heap.size+1,0,none⟩=false:=zF ((hW8 _ (by omega)).trans HVO.out) 0))
     all_goals
      have H3:Hid (_):=REL.out w3 gb capb hown HG8.out.1 (fun k hk=>HG8.out.2 k (by omega))
      clear hown hgrow hat hlt3 HG8 hW8 cw3 fw3
      go_wp2
      go_roundw<;>first|exact ⟨m+1,pg,by omega,rfl,by go_num,H3.out⟩|(simp [intOf];omega)
  ·have hdr:Ys.drop m=[]:=List.drop_eq_nil_iff.2 (by omega)
   rw [hdr] at hap
   clear HV HC2 HOKY hdr
   have FIN:Hid (∀ W,WSt w2 (w1.heap.size+1) T [] W→ ∃ oa oc,W.cell? ⟨w1.heap.size+1,0,none⟩=some (.slice oa T.length oc)∧W.cell? ⟨w.heap.size+1+1,0,none⟩=some (.slice none 0 0)∧W.frozen? ⟨w.heap.size+1+1,0,none⟩=false∧(W.setCell ⟨w.heap.size+1+1,0,none⟩ (.slice oa T.length oc)).cell? ⟨w.heap.size+1+1,0,none⟩=some (.slice oa T.length oc)∧MR w.heap.size (W.setCell ⟨w.heap.size+1+1,0,none⟩ (.slice oa T.length oc)) (.slice oa T.length oc) T∧Below w.heap.size w (W.setCell ⟨w.heap.size+1+1,0,none⟩ (.slice oa T.length oc))):=fun W hW=>by
    obtain ⟨vo,out,hvo,hmr,hap,hgr⟩:=hW
    rw [List.append_nil] at hap
    rw [hap] at hmr
    obtain ⟨oa,oc,rfl,_,_⟩:=hmr.form
    have k2:W.heap[w.heap.size+1+1]? =some (.cells #[.slice none 0 0] 27 (0,0)):=(hgr.block _ (by have:=SZ2.out;omega) (fun q=>by have:=Option.some.inj q;omega)).trans K22.out
    have g1:=zG W ⟨w.heap.size+1+1,0,none⟩ (.slice oa T.length oc)
    have hs:=SZ2.out
    have hs1':=hgr.size
    refine ⟨oa,oc,zR hvo,zR k2,zF k2 0,zR (zM (i:=0) _ k2),zW (MR.far hmr (fun k hk _=>Below.heap_setCell _ _ _ k (by intro q;have q':k=w.heap.size+1+1:=q;omega))) (by omega),?_⟩
    exact ⟨g1.os.trans (hgr.os.trans B2.out.os),g1.tape.trans (hgr.tape.trans B2.out.tape),g1.output.trans (hgr.output.trans B2.out.output),by have:=g1.size;have:=B2.out.size;omega,fun k hk=>(g1.block k (by omega) (fun q=>by have:k=w.heap.size+1+1:=Option.some.inj q;omega)).trans ((hgr.block k (by omega) (fun q=>by have:k=w1.heap.size+1:=Option.some.inj q;omega)).trans (B2.out.block k hk))⟩
   go_upto_if 51 with fail
   go_cut [] (fun wx=>Hid (WSt w2 (w1.heap.size+1) T [] wx))
   case first=>
    cases put with
    |true=>
     have HST:Hid (WSt w2 (w1.heap.size+1) T [] wr):=⟨vo,out,hvo,hmr,hap,hgr⟩
     clear hvo hmr hgr KRX KR5 hap
     go_wp2
     go_meet
     case rel=>exact HST.out
    |false=>
     obtain ⟨oa,oc,rfl,_,_⟩:=hmr.form
     have HAP2:=hid hap
     have HVO:Hid (_):=hvo
     have HGR:Hid (_):=hgr
     have HFR:Hid (∀ k,k<w1.heap.size+1+1→(Value.slice oa out.length oc).ownBlock≠some k):=fun k hk=>hmr.own k hk
     have HOWN:Hid (∀ W,Below wr.heap.size wr W→W.ownsRow (w1.heap.size+1+1) 48 11 (.slice oa out.length oc) out.length (out.flatMap EX.cells)):=fun W hW=>hmr.far (fun k _ hk=>hW.block k hk)
     have HONE:Hid (∀ u∈([.string E.id,.string E.ti,.int .i64 E.st,.int .i64 E.lg,.string E.f,.int .i64 E.e,.slice ra rn rc,.int .i64 E.c,.int .i64 E.u,.slice sa sn sc,.slice ma mn mc]:List Value),u.oneCell'=true):=fun u hu=>by
      simp only [List.mem_cons,List.not_mem_nil,or_false] at hu
      rcases hu with rfl|rfl|rfl|rfl|rfl|rfl|rfl|rfl|rfl|rfl|rfl<;>rfl
     have HMAX:Hid (out.length+1≤maxLen):=by show out.length+1≤maxLen;unfold maxLen;omega
     have HBY:Hid ((out.length+1)*160≤140737488355328):=by show (out.length+1)*160≤_;omega
     have cV:=zR hvo
     obtain ⟨e0,e1,e2,e3,e4,e5,e6,e7,e8,e9,e10⟩:=zK KRX
     clear hvo hmr hgr hap
     go_wp2_with (at_builtin;refine wpList_append_lies _ rfl _ _ 22 rfl (w1.heap.size+1+1) 48 i0 zV 11 160 Tryz.underlying22 hi hz0 hz1 hz2 rfl (by decide) (.slice oa out.length oc) out.length (out.flatMap EX.cells) rfl (HOWN.out _ (zC _ _)) ⟨wr.heap.size,0,none⟩ 1 1 [.string E.id,.string E.ti,.int .i64 E.st,.int .i64 E.lg,.string E.f,.int .i64 E.e,.slice ra rn rc,.int .i64 E.c,.int .i64 E.u,.slice sa sn sc,.slice ma mn mc] rfl rfl (World.news_of_block (cs:= (eW E.id E.ti E.st E.lg E.f E.e ra rn rc E.c E.u sa sn sc ma mn mc)) (zJ _ rfl)) HONE.out (by decide) HMAX.out HBY.out (by rw [World.size_alloc];omega) _ rfl ?_;intro gb capb w3 hown hgrow hat hlt3;have HG8:Hid (_):=vl HGR.out SZ2.out (zC _ _) hgrow HFR.out;have hW8:=HG8.out.2;have cw3:w3.cell? ⟨w1.heap.size+1,0,none⟩=some (.slice oa out.length oc):=zR ((hW8 _ (by omega)).trans HVO.out);have fw3:w3.frozen? ⟨w1.heap.size+1,0,none⟩=false:=zF ((hW8 _ (by omega)).trans HVO.out) 0)
     have HOW3:Hid (w3.ownsRow (w1.heap.size+1+1) 48 11 (.slice (some ⟨gb,0,none⟩) (out.length+1) capb) (out.length+1) (out.flatMap EX.cells++X.cells)):=by rw [HX.out];exact hown
     have HST:Hid (WSt w2 (w1.heap.size+1) T [] (w3.setCell ⟨w1.heap.size+1,0,none⟩ (.slice (some ⟨gb,0,none⟩) (out.length+1) capb))):=zd2 HVO.out HAP2.out HOW3.out HG8.out.1 (fun k hk=>HG8.out.2 k (by omega))
     clear hown hgrow hat hlt3 HG8 hW8 cw3 fw3
     go_meet
     case rel=>exact HST.out
   case rest=>
    clear hvo hmr hgr hap KRX KR5 cB5
    obtain ⟨oa,oc,c1',c2',f2',c3',hM,hBl⟩:=FIN.out wc hcut.out
    have HM:=hid hM
    have HBL:Hid (_):=hBl
    clear hM hBl FIN
    generalize T.length=tl at c1' c2' f2' c3' HM HBL
    go_wp2
    refine bodyPost_ret (v:= .agg #[.slice oa tl oc]) (by simp [results,Tryz.f23,go_sem,c3']) rfl ⟨_,rfl,HM.out,HBL.out⟩
def MPutIs(base:Nat)(v:Value)(Xs:List EX)(X:EX)(k:Int)(v':Value)(k':Int)(w':World):Prop:=
 (k≠0∧k'=k∧v'=v)∨(k=0∧((¬ ∃ Y∈Xs,Y.E.id=X.E.id)∧60≤Xs.length)∧k'=7∧v'=v)∨
  (k=0∧ ¬ ((¬ ∃ Y∈Xs,Y.E.id=X.E.id)∧60≤Xs.length)∧k'=0∧MR base w' v' (ins X (Xs.filter fun Y=>decide (Y.E.id≠X.E.id))))
set_option maxHeartbeats 4000000 in
set_option maxRecDepth 100000 in
theorem zco(base:Nat)(E:EV)(ra:Option Addr)(rn rc:Nat)(sa:Option Addr)(sn sc:Nat)(ma:Option Addr)(mn mc:Nat)(v:Value)(Xs:List EX)(k:Int)(w:World)(hR:MR base w v Xs)(h8:Xs.length≤1000)(hok: ∀ X∈Xs,X.ok)(hk:k=0∨(1≤k∧k≤8))
  (EE: ∀ W,Below w.heap.size w W→Calls Tryz.prog 39 #[ev E (.slice ra rn rc) (.slice sa sn sc) (.slice ma mn mc)] W fun r w'=>r= .returned (.int .i64 k)∧Below W.heap.size W w'):
  Calls Tryz.prog 18 #[.agg #[v],ev E (.slice ra rn rc) (.slice sa sn sc) (.slice ma mn mc)] w fun r w'=> ∃ a' n' c' k',r= .returned (.tuple #[.agg #[.slice a' n' c'],.int .i64 k'])∧Below w.heap.size w w'∧MPutIs w.heap.size v Xs ⟨E,.slice ra rn rc,.slice sa sn sc,.slice ma mn mc⟩ k (.slice a' n' c') k' w':=by
 obtain ⟨a,cap,rfl,hcap,_⟩:=hR.form
 have A3:Below w.heap.size w (((w.alloc (.cells #[.slice a Xs.length cap] 27)).alloc (.cells (eW E.id E.ti E.st E.lg E.f E.e ra rn rc E.c E.u sa sn sc ma mn mc) 48)).alloc (.cells #[.slice none 0 0] 27)):=zB (zB (zC _ _) (zC _ _)) (zC _ _)
 have k0:(((w.alloc (.cells #[.slice a Xs.length cap] 27)).alloc (.cells (eW E.id E.ti E.st E.lg E.f E.e ra rn rc E.c E.u sa sn sc ma mn mc) 48)).alloc (.cells #[.slice none 0 0] 27)).heap[w.heap.size]? =some (.cells #[.slice a Xs.length cap] 27 (0,0)):=zH _ (zH _ (zJ _ rfl))
 have k1:(((w.alloc (.cells #[.slice a Xs.length cap] 27)).alloc (.cells (eW E.id E.ti E.st E.lg E.f E.e ra rn rc E.c E.u sa sn sc ma mn mc) 48)).alloc (.cells #[.slice none 0 0] 27)).heap[w.heap.size+1]? =some (.cells (eW E.id E.ti E.st E.lg E.f E.e ra rn rc E.c E.u sa sn sc ma mn mc) 48 (0,0)):=zH _ (zJ _ (World.size_alloc _ _))
 have k2:(((w.alloc (.cells #[.slice a Xs.length cap] 27)).alloc (.cells (eW E.id E.ti E.st E.lg E.f E.e ra rn rc E.c E.u sa sn sc ma mn mc) 48)).alloc (.cells #[.slice none 0 0] 27)).heap[w.heap.size+1+1]? =some (.cells #[.slice none 0 0] 27 (0,0)):=zJ _ (by rw [World.size_alloc,World.size_alloc])
 have sz:(((w.alloc (.cells #[.slice a Xs.length cap] 27)).alloc (.cells (eW E.id E.ti E.st E.lg E.f E.e ra rn rc E.c E.u sa sn sc ma mn mc) 48)).alloc (.cells #[.slice none 0 0] 27)).heap.size=w.heap.size+3:=by rw [World.size_alloc,World.size_alloc,World.size_alloc]
 have HEE:Hid (Calls _ _ _ _ _):=EE _ A3
 have K0:Hid (_):=k0
 have K1:Hid (_):=k1
 have K2:Hid (_):=k2
 have A0:Hid (_):=A3
 have SZ:Hid (_):=sz
 have HR:=hid hR
 have HOK:=hid hok
 unfold ev at HEE ⊢
 obtain ⟨e0,e1,e2,e3,e4,e5,e6,e7,e8,e9,e10⟩:=zK k1
 have cB0:=zR k0
 clear A3 k0 k1 k2 sz hR hok EE
 have FIN:Hid (∀ (W:World) (oa:Option Addr) (n oc:Nat),Below w.heap.size w W→w.heap.size+3≤W.heap.size→W.heap[w.heap.size+1+1]? =some (.cells #[.slice none 0 0] 27 (0,0))→W.cell? ⟨w.heap.size+1+1,0,none⟩=some (.slice none 0 0)∧W.frozen? ⟨w.heap.size+1+1,0,none⟩=false∧(W.setCell ⟨w.heap.size+1+1,0,none⟩ (.slice oa n oc)).cell? ⟨w.heap.size+1+1,0,none⟩=some (.slice oa n oc)∧Below w.heap.size w (W.setCell ⟨w.heap.size+1+1,0,none⟩ (.slice oa n oc))):=fun W oa n oc hB hs k2=>by
  have g1:=zG W ⟨w.heap.size+1+1,0,none⟩ (.slice oa n oc)
  refine ⟨zR k2,zF k2 0,zR (zM (i:=0) _ k2),?_⟩
  exact ⟨g1.os.trans hB.os,g1.tape.trans hB.tape,g1.output.trans hB.output,by have:=g1.size;have:=hB.size;omega,fun k hk=>(g1.block k (by omega) (fun q=>by have:k=w.heap.size+1+1:=Option.some.inj q;omega)).trans (hB.block k hk)⟩
 go_enter Tryz.func18,Tryz.ntmps18
 generalize hw0:((w.alloc (.cells #[.slice a Xs.length cap] 27)).alloc (.cells (eW E.id E.ti E.st E.lg E.f E.e ra rn rc E.c E.u sa sn sc ma mn mc) 48)).alloc (.cells #[.slice none 0 0] 27)=w0 at HEE K0 K1 K2 A0 SZ cB0 e0 e1 e2 e3 e4 e5 e6 e7 e8 e9 e10
 go_upto_region 2 with (go_at_call 39;refine Calls.mono HEE.out ?_;rintro r w1 ⟨rfl,hb1⟩)
 have B1:=hid (zB A0.out hb1)
 have s1:w.heap.size+3≤w1.heap.size:=by rw [←SZ.out];exact hb1.size
 have K01:Hid (w1.heap[w.heap.size]? =some (.cells #[.slice a Xs.length cap] 27 (0,0))):=(hb1.block _ (by rw [SZ.out];omega)).trans K0.out
 have K11:Hid (w1.heap[w.heap.size+1]? =some (.cells (eW E.id E.ti E.st E.lg E.f E.e ra rn rc E.c E.u sa sn sc ma mn mc) 48 (0,0))):=(hb1.block _ (by rw [SZ.out];omega)).trans K1.out
 have K21:Hid (w1.heap[w.heap.size+1+1]? =some (.cells #[.slice none 0 0] 27 (0,0))):=(hb1.block _ (by rw [SZ.out];omega)).trans K2.out
 clear HEE K0 K1 K2 A0 SZ cB0 e0 e1 e2 e3 e4 e5 e6 e7 e8 e9 e10 hw0 hb1
 by_cases hk0:k=0
 case neg=>
  have hk1:0<k:=by omega
  have HK0:=hid hk0
  have cB0:=zR K01.out
  obtain ⟨c2,f2,c3,hBl⟩:=FIN.out w1 a Xs.length cap B1.out s1 K21.out
  have HBL:Hid (_):=hBl
  clear hBl FIN hk0
  generalize hxl:Xs.length=xl at cB0 c2 f2 c3 HBL
  have HXL:=hid hxl
  clear hxl
  go_wp2
  refine bodyPost_ret (v:= .tuple #[.agg #[.slice a xl cap],.int .i64 k]) (by simp [results,Tryz.f18,go_sem,c3]) rfl ⟨_,_,_,_,rfl,HBL.out,.inl ⟨HK0.out,rfl,by rw [HXL.out]⟩⟩
 case pos=>
  subst hk0
  have FD:Hid (Calls _ _ _ _ _):=ziS base E.id (.slice a Xs.length cap) Xs w1 (HR.out.far (fun k _ hk=>B1.out.block k hk)) h8
  have WI:Hid (∀ W,Below w1.heap.size w1 W→Calls Tryz.prog 23 #[.agg #[.slice a Xs.length cap],ev E (.slice ra rn rc) (.slice sa sn sc) (.slice ma mn mc)] W fun r w'=> ∃ v',r= .returned (.agg #[v'])∧MR W.heap.size w' v' (ins ⟨E,.slice ra rn rc,.slice sa sn sc,.slice ma mn mc⟩ (Xs.filter fun X=>decide (X.E.id≠E.id)))∧Below W.heap.size W w'):=fun W hW=>zcn base E ra rn rc sa sn sc ma mn mc _ Xs W (HR.out.far (fun k _ hk=>(zB B1.out hW).block k hk)) h8 HOK.out
  unfold ev at WI
  have cB0:=zR K01.out
  obtain ⟨e0,e1,e2,e3,e4,e5,e6,e7,e8,e9,e10⟩:=zK K11.out
  have TAIL:Hid (∀ w5:World,Below w1.heap.size w1 w5→w5.cell? ⟨w.heap.size,0,none⟩=some (.slice a Xs.length cap)∧w5.cell? ⟨w.heap.size+1,0,none⟩=some (.string E.id)∧w5.heap[w.heap.size+1]? =some (.cells (eW E.id E.ti E.st E.lg E.f E.e ra rn rc E.c E.u sa sn sc ma mn mc) 48 (0,0))∧w5.heap[w.heap.size+1+1]? =some (.cells #[.slice none 0 0] 27 (0,0))∧w.heap.size+3≤w5.heap.size):=fun w5 hb5=>⟨zD cB0 hb5,zD e0 hb5,(hb5.block _ (by omega)).trans K11.out,(hb5.block _ (by omega)).trans K21.out,Nat.le_trans s1 hb5.size⟩
  by_cases hf: ∃ X∈Xs,X.E.id=E.id
  case pos=>
   have HF:=hid hf
   go_upto_region 6 with (go_at_call 28;refine Calls.mono FD.out ?_;rintro r w5 ⟨kf,rfl,hkf,hkf1,hkf2,hb5⟩;have hkf0:0≤kf:=hkf.2 HF.out;clear hkf)
   have HB5:=hid hb5
   obtain ⟨d0,_,d1,d2,s5⟩:=TAIL.out w5 hb5
   have WI5:=hid (WI.out w5 hb5)
   clear e0 e1 e2 e3 e4 e5 e6 e7 e8 e9 e10 cB0 FD WI hb5 hf
   have HD2:Hid (_):=d2
   obtain ⟨e0,e1,e2,e3,e4,e5,e6,e7,e8,e9,e10⟩:=zK d1
   go_wp2_with (go_at_call 23;refine Calls.mono WI5.out ?_;rintro r w6 ⟨v6,rfl,hm6,hb6⟩;obtain ⟨oa,oc,rfl,_,_⟩:=hm6.form;have B6:=hid (zB B1.out (zB HB5.out hb6));have k26:=(hb6.block _ (by omega)).trans HD2.out;have s6:w.heap.size+3≤w6.heap.size:=Nat.le_trans s5 hb6.size;have HM6:=hid hm6;clear hm6 hb6;generalize hil:(ins ⟨E,.slice ra rn rc,.slice sa sn sc,.slice ma mn mc⟩ (Xs.filter fun X=>decide (X.E.id≠E.id))).length=il at HM6 ⊢;obtain ⟨c2,f2,c3,hBl⟩:=FIN.out w6 oa il oc B6.out s6 k26;have HBL:Hid (_):=hBl;clear hBl k26)
   refine bodyPost_ret (v:= .tuple #[.agg #[.slice oa il oc],.int .i64 0]) (by simp [results,Tryz.f18,go_sem,c3]) rfl ⟨_,_,_,_,rfl,HBL.out,.inr (.inr ⟨rfl,fun q=>q.1 HF.out,rfl,?_⟩)⟩
   exact zW (MR.far HM6.out (fun k hk _=>Below.heap_setCell _ _ _ k (by intro q;have q':k=w.heap.size+1+1:=q;omega))) (by omega)
  case neg=>
   have HF:=hid hf
   by_cases h60:60≤Xs.length
   case pos=>
    have h60':(60:Int)≤(Xs.length:Int):=by omega
    have H60:=hid h60
    have hl9:(Xs.length:Int)≤1000:=by omega
    clear h60
    go_upto_region 5 with (go_at_call 28;refine Calls.mono FD.out ?_;rintro r w5 ⟨kf,rfl,hkf,hkf1,hkf2,hb5⟩;have hkf0:kf<0:=Int.not_le.1 (fun q=>HF.out (hkf.1 q));clear hkf;have d0:=zD cB0 hb5)
    have HB5:=hid hb5
    obtain ⟨d0',_,d1,d2,s5⟩:=TAIL.out w5 hb5
    obtain ⟨c2,f2,c3,hBl⟩:=FIN.out w5 a Xs.length cap (zB B1.out hb5) s5 d2
    have HBL:Hid (_):=hBl
    clear hBl FIN d0' d1 d2 hb5 TAIL WI FD
    go_wp2
    refine bodyPost_ret (v:= .tuple #[.agg #[.slice a Xs.length cap],.int .i64 7]) (by simp [results,Tryz.f18,go_sem,c3]) rfl ⟨_,_,_,_,rfl,HBL.out,.inr (.inl ⟨rfl,⟨HF.out,H60.out⟩,rfl,rfl⟩)⟩
   case neg=>
    have h60':(Xs.length:Int)<60:=by omega
    have HN6:=hid h60
    clear h60
    go_upto_region 6 with (go_at_call 28;refine Calls.mono FD.out ?_;rintro r w5 ⟨kf,rfl,hkf,hkf1,hkf2,hb5⟩;have hkf0:kf<0:=Int.not_le.1 (fun q=>HF.out (hkf.1 q));clear hkf;have d0:=zD cB0 hb5)
    have HB5:=hid hb5
    obtain ⟨d0',_,d1,d2,s5⟩:=TAIL.out w5 hb5
    have WI5:=hid (WI.out w5 hb5)
    clear e0 e1 e2 e3 e4 e5 e6 e7 e8 e9 e10 cB0 FD WI hb5 hf
    have HD2:Hid (_):=d2
    obtain ⟨e0,e1,e2,e3,e4,e5,e6,e7,e8,e9,e10⟩:=zK d1
    go_wp2_with (go_at_call 23;refine Calls.mono WI5.out ?_;rintro r w6 ⟨v6,rfl,hm6,hb6⟩;obtain ⟨oa,oc,rfl,_,_⟩:=hm6.form;have B6:=hid (zB B1.out (zB HB5.out hb6));have k26:=(hb6.block _ (by omega)).trans HD2.out;have s6:w.heap.size+3≤w6.heap.size:=Nat.le_trans s5 hb6.size;have HM6:=hid hm6;clear hm6 hb6;generalize hil:(ins ⟨E,.slice ra rn rc,.slice sa sn sc,.slice ma mn mc⟩ (Xs.filter fun X=>decide (X.E.id≠E.id))).length=il at HM6 ⊢;obtain ⟨c2,f2,c3,hBl⟩:=FIN.out w6 oa il oc B6.out s6 k26;have HBL:Hid (_):=hBl;clear hBl k26)
    refine bodyPost_ret (v:= .tuple #[.agg #[.slice oa il oc],.int .i64 0]) (by simp [results,Tryz.f18,go_sem,c3]) rfl ⟨_,_,_,_,rfl,HBL.out,.inr (.inr ⟨rfl,fun q=>HN6.out q.2,rfl,?_⟩)⟩
    exact zW (MR.far HM6.out (fun k hk _=>Below.heap_setCell _ _ _ k (by intro q;have q':k=w.heap.size+1+1:=q;omega))) (by omega)
end Go.Proofs.YtpeafgddbbojaaaGreatDoor
namespace Go.Proofs.YtpeafgddbbojaaaGreatDoor
open Go.RowKit Cal
theorem in_yes(n a b:Int)(w:World)(h0:a≤n)(h1:n≤b):
  Calls Tryz.prog 69 #[.int .i64 n,.int .i64 a,.int .i64 b] w fun e w'=>e= .returned (.bool true)∧w'=w:=by
 go_enter Tryz.func69,Tryz.ntmps69
 go_wp2
 go_ret
 exact ⟨rfl,rfl⟩
theorem in_no(n a b:Int)(w:World)(h:n<a∨b<n):
  Calls Tryz.prog 69 #[.int .i64 n,.int .i64 a,.int .i64 b] w fun e w'=>e= .returned (.bool false)∧w'=w:=by
 by_cases h0:n<a
 ·clear h
  go_enter Tryz.func69,Tryz.ntmps69
  go_wp2
  go_ret
  exact ⟨rfl,rfl⟩
 ·have h1:b<n:=by omega
  have h2:a≤n:=by omega
  clear h h0
  go_enter Tryz.func69,Tryz.ntmps69
  go_wp2
  go_ret
  exact ⟨zg (by simp;omega),rfl⟩
theorem isDayR_yes(n:Int)(w:World)(h0:0≤n)(h1:n≤73048):
  Calls Tryz.prog 68 #[.int .i64 n] w fun e w'=>e= .returned (.bool true)∧w'=w:=by
 go_enter Tryz.func68,Tryz.ntmps68
 go_wp2_with (go_at_call 69;refine (in_yes _ _ _ _ h0 h1).mono ?_;rintro e w' ⟨rfl,rfl⟩)
 go_ret
 exact ⟨rfl,rfl⟩
theorem isDayR_no(n:Int)(w:World)(h:n<0∨73048<n):
  Calls Tryz.prog 68 #[.int .i64 n] w fun e w'=>e= .returned (.bool false)∧w'=w:=by
 go_enter Tryz.func68,Tryz.ntmps68
 go_wp2_with (go_at_call 69;refine (in_no _ _ _ _ h).mono ?_;rintro e w' ⟨rfl,rfl⟩)
 go_ret
 exact ⟨rfl,rfl⟩
theorem monthOf_out(y m:Int)(w:World)(h:y<2000∨2199<y):
  Calls Tryz.prog 175 #[.int .i64 y,.int .i64 m] w fun e w'=>e= .returned (.int .i64 0)∧w'=w:=by
 by_cases hm:m<1∨12<m
 ·go_enter Tryz.func175,Tryz.ntmps175
  go_wp2_with (first
   |(go_at_call_of 69 (Value.int .i64 y);refine (in_no y _ _ _ h).mono ?_;rintro e w' ⟨rfl,rfl⟩)
   |(go_at_call_of 69 (Value.int .i64 m);refine (in_no m _ _ _ hm).mono ?_;rintro e w' ⟨rfl,rfl⟩))
  go_ret
  exact ⟨rfl,rfl⟩
 ·go_enter Tryz.func175,Tryz.ntmps175
  go_wp2_with (first
   |(go_at_call_of 69 (Value.int .i64 y);refine (in_no y _ _ _ h).mono ?_;rintro e w' ⟨rfl,rfl⟩)
   |(go_at_call_of 69 (Value.int .i64 m);refine (in_yes m _ _ _ (by omega) (by omega)).mono ?_;rintro e w' ⟨rfl,rfl⟩))
  go_ret
  exact ⟨rfl,rfl⟩
theorem monthOf_none(y m:Int)(w:World)(h0:2000≤y)(h1:y≤2199)(h:m<1∨12<m):
  Calls Tryz.prog 175 #[.int .i64 y,.int .i64 m] w fun e w'=>e= .returned (.int .i64 0)∧w'=w:=by
 go_enter Tryz.func175,Tryz.ntmps175
 go_wp2_with (first
  |(go_at_call_of 69 (Value.int .i64 y);refine (in_yes y _ _ _ h0 h1).mono ?_;rintro e w' ⟨rfl,rfl⟩)
  |(go_at_call_of 69 (Value.int .i64 m);refine (in_no m _ _ _ h).mono ?_;rintro e w' ⟨rfl,rfl⟩))
 go_ret
 exact ⟨rfl,rfl⟩
theorem monthOf_feb(y:Int)(w:World)(h0:2000≤y)(h1:y≤2199):
  Calls Tryz.prog 175 #[.int .i64 y,.int .i64 2] w fun e w'=>e= .returned (.int .i64 (28+lp y))∧w'=w:=by
 have hy:Hid (2000≤y∧y≤2199):=⟨h0,h1⟩
 rcases zht y with ⟨hb,hl⟩|⟨hb,hl⟩
 ·rw [hl]
  rw [xi] at hb
  by_cases c:y % 400=0
  ·clear hb hl
   go_enter Tryz.func175,Tryz.ntmps175
   go_wp2_with (first
    |(go_at_call_of 69 (Value.int .i64 y);refine (in_yes y _ _ _ hy.out.1 hy.out.2).mono ?_;rintro e w' ⟨rfl,rfl⟩)
    |(go_at_call 69;refine (in_yes 2 _ _ _ (by omega) (by omega)).mono ?_;rintro e w' ⟨rfl,rfl⟩))
   go_ret
   exact ⟨rfl,rfl⟩
  ·have c':(y % 400==0)=false:=by simpa using c
   have a':(y % 4==0)=true:=by simp;omega
   have b':(y % 100==0)=false:=by simp;omega
   clear hb hl c
   go_enter Tryz.func175,Tryz.ntmps175
   go_wp2_with (first
    |(go_at_call_of 69 (Value.int .i64 y);refine (in_yes y _ _ _ hy.out.1 hy.out.2).mono ?_;rintro e w' ⟨rfl,rfl⟩)
    |(go_at_call 69;refine (in_yes 2 _ _ _ (by omega) (by omega)).mono ?_;rintro e w' ⟨rfl,rfl⟩))
   go_ret
   exact ⟨rfl,rfl⟩
 ·rw [hl]
  rw [←Bool.not_eq_true,xi] at hb
  have c':(y % 400==0)=false:=by simp;omega
  by_cases a:y % 4=0
  ·have a':(y % 4==0)=true:=by simpa using a
   have b':(y % 100==0)=true:=by simp;omega
   clear hb hl a
   go_enter Tryz.func175,Tryz.ntmps175
   go_wp2_with (first
    |(go_at_call_of 69 (Value.int .i64 y);refine (in_yes y _ _ _ hy.out.1 hy.out.2).mono ?_;rintro e w' ⟨rfl,rfl⟩)
    |(go_at_call 69;refine (in_yes 2 _ _ _ (by omega) (by omega)).mono ?_;rintro e w' ⟨rfl,rfl⟩))
   go_ret
   exact ⟨rfl,rfl⟩
  ·have a':(y % 4==0)=false:=by simpa using a
   clear hb hl a
   go_enter Tryz.func175,Tryz.ntmps175
   go_wp2_with (first
    |(go_at_call_of 69 (Value.int .i64 y);refine (in_yes y _ _ _ hy.out.1 hy.out.2).mono ?_;rintro e w' ⟨rfl,rfl⟩)
    |(go_at_call 69;refine (in_yes 2 _ _ _ (by omega) (by omega)).mono ?_;rintro e w' ⟨rfl,rfl⟩))
   go_ret
   exact ⟨rfl,rfl⟩
theorem monthOf_any(y m:Int)(w:World):
  Calls Tryz.prog 175 #[.int .i64 y,.int .i64 m] w fun e w'=>e= .returned (.int .i64 (dim y m))∧w'=w:=by
 by_cases hy:y<2000∨2199<y
 ·rw [zaq y m (by omega)];exact monthOf_out y m w hy
 ·by_cases hm:m<1∨12<m
  ·rw [zaq y m (by omega)];exact monthOf_none y m w (by omega) (by omega) hm
  ·have h0:2000≤y:=by omega
   have h1:y≤2199:=by omega
   by_cases h2:m=2
   ·subst h2
    rw [zcx y h0 h1];exact monthOf_feb y w h0 h1
   ·by_cases h30:m=4∨m=6∨m=9∨m=11
    ·rw [zhv y m h0 h1 h30]
     rcases h30 with h|h|h|h
     all_goals
      subst h
      clear hm hy h2
      go_enter Tryz.func175,Tryz.ntmps175
      go_wp2_with (first
       |(go_at_call_of 69 (Value.int .i64 y);refine (in_yes y _ _ _ h0 h1).mono ?_;rintro e w' ⟨rfl,rfl⟩)
       |(go_at_call 69;refine (in_yes _ _ _ _ (by omega) (by omega)).mono ?_;rintro e w' ⟨rfl,rfl⟩))
      go_ret
      exact ⟨rfl,rfl⟩
    ·have h31:m=1∨m=3∨m=5∨m=7∨m=8∨m=10∨m=12:=by omega
     rw [zhu y m h0 h1 h31]
     clear h2 h30 hm hy
     rcases h31 with h|h|h|h|h|h|h
     all_goals
      subst h
      go_enter Tryz.func175,Tryz.ntmps175
      go_wp2_with (first
       |(go_at_call_of 69 (Value.int .i64 y);refine (in_yes y _ _ _ h0 h1).mono ?_;rintro e w' ⟨rfl,rfl⟩)
       |(go_at_call 69;refine (in_yes _ _ _ _ (by omega) (by omega)).mono ?_;rintro e w' ⟨rfl,rfl⟩))
      go_ret
      exact ⟨rfl,rfl⟩
end Go.Proofs.YtpeafgddbbojaaaGreatDoor
namespace Go.Proofs.YtpeafgddbbojaaaGreatDoor
open Go Go.RowKit Cal
attribute [local go_sem] Oper.semAt_some
set_option maxHeartbeats 1000000 in
theorem zeg(s:ByteArray)(w:World)(hs:s.size≤60)(b:Bool)(hb:b=true↔zdX s):
  Calls Tryz.prog 66 #[.string s] w fun r w'=>r= .returned (.bool b)∧w'=w:=by
 have HB:=hid hb
 clear hb
 go_enter Tryz.func66,Tryz.ntmps66
 go_wp2
 go_loop [3,4,5,6] (fun i _ _ _=> ∃ k:Nat,k≤s.size∧i= .int .i64 k∧Hid (∀ (j:Nat) (h:j<s.size),j<k→okc s[j])) (fun i _ _ _=>s.size - (intOf i).toNat)
 case atStart=>exact ⟨0,Nat.zero_le _,rfl,fun j _ h=>absurd h (Nat.not_lt_zero _)⟩
 case round=>
  obtain ⟨k,hk,rfl,HA⟩:=hrel
  by_cases hlt:k<s.size
  ·have HN:Hid (okc s[k]→ ∀ (j:Nat) (h:j<s.size),j<k+1→okc s[j]):=fun hx j hj hjk=>by
    by_cases ej:j=k
    ·subst ej;exact hx
    ·exact HA.out j hj (by omega)
   have HF:Hid (¬ okc s[k]→b=false):=fun hx=>by
    cases b with
    |false=>rfl
    |true=>exact absurd ((HB.out.1 rfl).1 k hlt) hx
   clear HA HB
   have hok:Hid (okc s[k]↔(97≤(s[k].toNat:Int)∧(s[k].toNat:Int)≤122)∨(48≤(s[k].toNat:Int)∧(s[k].toNat:Int)≤57)):=Iff.rfl
   by_cases h1:97≤(s[k].toNat:Int)∧(s[k].toNat:Int)≤122
   ·have HN':Hid (_):=HN.out (hok.out.2 (.inl h1))
    clear HF HN hok
    obtain ⟨h1,h2⟩:=h1
    go_wp2
    go_round
    case rel=>exact ⟨k+1,by omega,by go_num,HN'.out⟩
    case measure=>simp [intOf];omega
   ·by_cases h2:48≤(s[k].toNat:Int)∧(s[k].toNat:Int)≤57
    ·have HN':Hid (_):=HN.out (hok.out.2 (.inr h2))
     clear HF HN hok h1
     obtain ⟨h1,h2⟩:=h2
     go_wp2
     go_round
     case rel=>exact ⟨k+1,by omega,by go_num,HN'.out⟩
     case measure=>simp [intOf];omega
    ·have HF':Hid (b=false):=HF.out (fun q=>by rcases hok.out.1 q with q|q;exact h1 q;exact h2 q)
     clear HF HN hok
     have h3:(s[k].toNat:Int)<48∨(57<(s[k].toNat:Int)∧(s[k].toNat:Int)<97)∨122<(s[k].toNat:Int):=by omega
     clear h1 h2
     rcases h3 with h3|⟨h3,h4⟩|h3
     ·go_wp2
      go_ret
      exact ⟨zg HF'.out.symm,rfl⟩
     ·have e1:decide ((s[k].toNat:Int)≤57)=false:=decide_eq_false (by omega)
      go_wp2
      go_ret
      exact ⟨zg HF'.out.symm,rfl⟩
     ·have e1:decide ((s[k].toNat:Int)≤57)=false:=decide_eq_false (by omega)
      have e2:decide ((s[k].toNat:Int)≤122)=false:=decide_eq_false (by omega)
      go_wp2
      go_ret
      exact ⟨zg HF'.out.symm,rfl⟩
  ·have HR:Hid (b=true↔1≤s.size∧s.size≤12):=by
    show _↔_
    rw [HB.out]
    exact ⟨fun q=>q.2,fun q=>⟨fun j hj=>HA.out j hj (by omega),q⟩⟩
   clear HA HB
   go_wp2
   all_goals
    go_ret
    refine ⟨zg ?_,rfl⟩
    rw [Bool.eq_iff_iff,HR.out]
    simp
    try omega
def okp(c:UInt8):Prop:=32≤(c.toNat:Int)∧(c.toNat:Int)≤126
set_option maxHeartbeats 1000000 in
theorem zdo(s:ByteArray)(w:World)(hs:s.size≤60)(b:Bool)(hb:b=true↔ ∀ (j:Nat) (h:j<s.size),okp s[j]):
  Calls Tryz.prog 106 #[.string s] w fun r w'=>r= .returned (.bool b)∧Below w.heap.size w w':=by
 have HB:=hid hb
 clear hb
 go_enter Tryz.func106,Tryz.ntmps106
 go_wp2
 go_loopw [3] (fun i wr=> ∃ k:Nat,k≤s.size∧i= .int .i64 k∧Hid (Below w.heap.size w wr)∧Hid (∀ (j:Nat) (h:j<s.size),j<k→okp s[j])) (fun i _=>s.size - (intOf i).toNat)
 case atStart=>exact ⟨0,Nat.zero_le _,rfl,Below.refl _ _,fun j _ h=>absurd h (Nat.not_lt_zero _)⟩
 case round=>
  obtain ⟨k,hk,rfl,hBw,HA⟩:=hrel
  by_cases hlt:k<s.size
  ·have HN:Hid (okp s[k]→ ∀ (j:Nat) (h:j<s.size),j<k+1→okp s[j]):=fun hx j hj hjk=>by
    by_cases ej:j=k
    ·subst ej;exact hx
    ·exact HA.out j hj (by omega)
   have HF:Hid (¬ okp s[k]→b=false):=fun hx=>by
    cases b with
    |false=>rfl
    |true=>exact absurd (HB.out.1 rfl k hlt) hx
   have hok:Hid (okp s[k]↔32≤(s[k].toNat:Int)∧(s[k].toNat:Int)≤126):=Iff.rfl
   clear HA HB
   by_cases h1:(s[k].toNat:Int)<32
   ·have HF':Hid (b=false):=HF.out (fun x=>by have:=hok.out.1 x;omega)
    have e1:decide ((s[k].toNat:Int)<32)=true:=decide_eq_true h1
    clear HF HN hok
    go_wp2_with (fail)
    try go_quiet (fail)
    go_wp2
    go_ret
    exact ⟨zg HF'.out.symm,zB hBw.out (by first|exact Below.refl _ _|exact zN _ _)⟩
   ·have e1:decide ((s[k].toNat:Int)<32)=false:=decide_eq_false h1
    by_cases h2:126<(s[k].toNat:Int)
    ·have HF':Hid (b=false):=HF.out (fun x=>by have:=hok.out.1 x;omega)
     have e2:decide (126<(s[k].toNat:Int))=true:=decide_eq_true h2
     clear HF HN hok
     go_wp2_with (fail)
     try go_quiet (fail)
     go_wp2
     go_ret
     exact ⟨zg HF'.out.symm,zB hBw.out (by first|exact Below.refl _ _|exact zN _ _)⟩
    ·have e2:decide (126<(s[k].toNat:Int))=false:=decide_eq_false h2
     have HN':Hid (_):=HN.out (hok.out.2 ⟨by omega,by omega⟩)
     clear HF HN hok
     go_wp2_with (fail)
     try go_quiet (fail)
     go_wp2
     go_roundw
     case rel=>exact ⟨k+1,by omega,by go_num,zB hBw.out (by first|exact Below.refl _ _|exact zN _ _),HN'.out⟩
     case measure=>simp [intOf];omega
  ·have HR:Hid (b=true):=HB.out.2 (fun j hj=>HA.out j hj (by omega))
   clear HA HB
   go_wp2
   go_ret
   exact ⟨zg HR.out.symm,hBw.out⟩
set_option maxHeartbeats 1000000 in
theorem zdp(s:ByteArray)(w:World)(hs:s.size≤60)(b:Bool)(hb:b=true↔zfe s):
  Calls Tryz.prog 67 #[.string s] w fun r w'=>r= .returned (.bool b)∧Below w.heap.size w w':=by
 have HB:=hid hb
 have IP:Hid (∀ (W:World) (b:Bool),(b=true↔ ∀ (j:Nat) (h:j<s.size),okp s[j])→Calls Tryz.prog 106 #[.string s] W fun r w'=>r= .returned (.bool b)∧Below W.heap.size W w'):=fun W b h=>zdo s W hs b h
 clear hb
 go_enter Tryz.func67,Tryz.ntmps67
 go_wp2
 go_loop [3] (fun i=> ∃ k:Nat,k≤s.size∧i= .int .i64 k∧Hid (∀ (j:Nat) (h:j<s.size),j<k→(s[j].toNat:Int)≠124)) (fun i=>s.size - (intOf i).toNat)
 case atStart=>exact ⟨0,Nat.zero_le _,rfl,fun j _ h=>absurd h (Nat.not_lt_zero _)⟩
 case round=>
  obtain ⟨k,hk,rfl,HA⟩:=hrel
  by_cases hlt:k<s.size
  ·by_cases h3:(s[k].toNat:Int)=124
   ·have HF':Hid (b=false):=by
     cases b with
     |false=>trivial
     |true=>exact absurd h3 ((HB.out.1 rfl).1 k hlt).2.2
    have e3:((s[k].toNat:Int)==124)=true:=by rw [beq_iff_eq];exact h3
    clear HA HB IP h3
    go_wp2
    go_ret
    exact ⟨zg HF'.out.symm,Below.refl _ _⟩
   ·have HN:Hid (∀ (j:Nat) (h:j<s.size),j<k+1→(s[j].toNat:Int)≠124):=fun j hj hjk=>by
     by_cases ej:j=k
     ·subst ej;exact h3
     ·exact HA.out j hj (by omega)
    have e3:((s[k].toNat:Int)==124)=false:=by rw [beq_eq_false_iff_ne];exact h3
    clear HA HB IP h3
    go_wp2
    go_round
    case rel=>exact ⟨k+1,by omega,by go_num,HN.out⟩
    case measure=>simp [intOf];omega
  ·have HK:Hid (∀ (j:Nat) (h:j<s.size),(s[j].toNat:Int)≠124):=fun j hj=>HA.out j hj (by omega)
   clear HA
   by_cases h40:s.size≤40
   ·have IP':Hid (_):=IP.out w b (by
     rw [HB.out]
     constructor
     ·rintro ⟨q,_⟩ j hj;exact ⟨(q j hj).1,(q j hj).2.1⟩
     ·intro q;exact ⟨fun j hj=>⟨(q j hj).1,(q j hj).2,HK.out j hj⟩,h40⟩)
    clear HB IP HK
    go_wp2_with (go_at_call 106;refine Calls.mono IP'.out ?_;rintro r w1 ⟨rfl,hb1⟩)
    go_ret
    exact ⟨rfl,hb1⟩
   ·have HF':Hid (b=false):=by
     cases b with
     |false=>trivial
     |true=>exact absurd (HB.out.1 rfl).2 h40
    clear HB IP HK
    go_wp2
    go_ret
    exact ⟨zg HF'.out.symm,Below.refl _ _⟩
end Go.Proofs.YtpeafgddbbojaaaGreatDoor
namespace Go.Proofs.YtpeafgddbbojaaaGreatDoor
open Go.RowKit Cal
end Go.Proofs.YtpeafgddbbojaaaGreatDoor
namespace Go.Proofs.YtpeafgddbbojaaaGreatDoor.Cal
end Go.Proofs.YtpeafgddbbojaaaGreatDoor.Cal
namespace Go.Proofs.YtpeafgddbbojaaaGreatDoor
open Go.RowKit Cal
def Gcl(w:World)(ad:Addr)(ds:List Int):Prop:= ∀ (j:Nat) (h:j<ds.length),w.cell? (ad.add j)=some (.int .i64 ds[j])
def inB(ds:List Int)(x:Int):Bool:=ds.contains x
theorem zhk(x:Int)(ad:Addr)(cap:Nat)(ds:List Int)(w:World)(hn:ds.length≤100000)(hc:Gcl w ad ds):
  Calls Tryz.prog 71 #[.int .i64 x,.slice (some ad) ds.length cap] w fun r w'=>r= .returned (.bool (inB ds x))∧w'=w:=by
 have HC:Hid (_):=hc
 clear hc
 go_enter Tryz.func71,Tryz.ntmps71
 go_wp2
 go_loop [5] (fun i=> ∃ k:Nat,k≤ds.length∧i= .int .i64 k∧Hid (inB ds x=inB (ds.drop k) x)) (fun i=>ds.length - (intOf i).toNat)
 case atStart=>exact ⟨0,Nat.zero_le _,rfl,rfl⟩
 case round=>
  obtain ⟨k,hk,rfl,HA⟩:=hrel
  by_cases hlt:k<ds.length
  ·have hcell:=HC.out k hlt
   have HD:Hid (inB (ds.drop k) x=((x==ds[k])||inB (ds.drop (k+1)) x)):=by
    show _=_
    unfold inB
    rw [List.drop_eq_getElem_cons hlt,List.contains_cons]
   by_cases hx:ds[k]=x
   ·have hb:(ds[k]==x)=true:=by rw [beq_iff_eq];exact hx
    have HR:Hid (inB ds x=true):=by
     show _=_
     rw [HA.out,HD.out,hx];simp
    clear hx HA HD
    go_wp2
    go_ret
    exact ⟨zg HR.out.symm,rfl⟩
   ·have hb:(ds[k]==x)=false:=by rw [beq_eq_false_iff_ne];exact hx
    have HR:Hid (inB ds x=inB (ds.drop (k+1)) x):=by
     show _=_
     rw [HA.out,HD.out,beq_eq_false_iff_ne.2 (Ne.symm hx),Bool.false_or]
    clear hx HA HD
    go_wp2
    go_round
    case rel=>exact ⟨k+1,by omega,by go_num,HR⟩
    case measure=>simp [intOf];omega
  ·have HR:Hid (inB ds x=false):=by
    show _=_
    rw [HA.out,List.drop_eq_nil_of_le (by omega)];rfl
   clear HA
   go_wp2
   go_ret
   exact ⟨zg HR.out.symm,rfl⟩
theorem zhl(x:Int)(w:World):
  Calls Tryz.prog 71 #[.int .i64 x,.slice none 0 0] w fun r w'=>r= .returned (.bool false)∧w'=w:=by
 go_enter Tryz.func71,Tryz.ntmps71
 go_wp2
 go_loop [5] (fun i=>i= .int .i64 0) (fun i=>0)
 case atStart=>rfl
 case round=>
  subst hrel
  go_wp2
  go_ret
  exact ⟨rfl,rfl⟩
end Go.Proofs.YtpeafgddbbojaaaGreatDoor
namespace Go.Proofs.YtpeafgddbbojaaaGreatDoor
open Go Go.RowKit Cal
theorem zku{l:List Int}{j:Nat}(h:j<l.length):l.getD j 0=l[j]:=by rw [List.getD_eq_getElem?_getD,List.getElem?_eq_getElem h];rfl
def zS(sk:List Int)(j:Nat):Int:=sk.getD j 0
def pM'(mv:List (Int×Int))(j:Nat):Int:=(mv.getD j (0,0)).1
def qM'(mv:List (Int×Int))(j:Nat):Int:=(mv.getD j (0,0)).2
theorem zbe{sk:List Int}{j:Nat}(h:j<sk.length):zS sk j=sk[j]:=zku h
theorem pM_at{mv:List (Int×Int)}{j:Nat}(h:j<mv.length):pM' mv j=mv[j].1:=by unfold pM';rw [List.getD_eq_getElem?_getD,List.getElem?_eq_getElem h];rfl
theorem zg9{mv:List (Int×Int)}{j:Nat}(h:j<mv.length):qM' mv j=mv[j].2:=by unfold qM';rw [List.getD_eq_getElem?_getD,List.getElem?_eq_getElem h];rfl
def upS(sk:List Int):Prop:= ∀ m,m+1<sk.length→zS sk m<zS sk (m+1)
def upM(mv:List (Int×Int)):Prop:= ∀ m,m+1<mv.length→pM' mv m<pM' mv (m+1)
theorem zha(sk:List Int):vB sk=true↔upS sk:=by
 rw [xM]
 constructor
 ·intro h m hm;rw [zbe hm,zbe (show m<sk.length by omega)];exact h m hm
 ·intro h m hm;have:=h m hm;rwa [zbe hm,zbe (show m<sk.length by omega)] at this
theorem zhb(mv:List (Int×Int)):vB (mv.map Prod.fst)=true↔upM mv:=by
 rw [xM]
 constructor
 ·intro h m hm
  have:=h m (by simpa using hm)
  rw [pM_at hm,pM_at (show m<mv.length by omega)]
  simpa using this
 ·intro h m hm
  have hm':m+1<mv.length:=by simpa using hm
  have:=h m hm'
  rw [pM_at hm',pM_at (show m<mv.length by omega)] at this
  simpa using this
def xW(x:Int):Prop:=0≤x∧x≤73048
theorem xr(x:Int):yQ x=true↔ ¬ xW x:=by
 unfold yQ xW
 rw [decide_eq_true_iff]
theorem zfb(sk:List Int):sk.any yQ=true↔ ∃ j,j<sk.length∧ ¬ xW (zS sk j):=by
 rw [List.any_eq_true]
 constructor
 ·rintro ⟨x,hx,h⟩
  obtain ⟨j,hj,rfl⟩:=List.mem_iff_getElem.1 hx
  exact ⟨j,hj,by rw [zbe hj];exact (xr _).1 h⟩
 ·rintro ⟨j,hj,h⟩
  rw [zbe hj] at h
  exact ⟨_,List.getElem_mem hj,(xr _).2 h⟩
theorem zfc(mv:List (Int×Int)):mv.any (fun m=>yQ m.1||yQ m.2)=true↔ ∃ j,j<mv.length∧(¬ xW (pM' mv j)∨ ¬ xW (qM' mv j)):=by
 rw [List.any_eq_true]
 constructor
 ·rintro ⟨x,hx,h⟩
  obtain ⟨j,hj,rfl⟩:=List.mem_iff_getElem.1 hx
  rw [Bool.or_eq_true,xr,xr] at h
  exact ⟨j,hj,by rw [pM_at hj,zg9 hj];exact h⟩
 ·rintro ⟨j,hj,h⟩
  rw [pM_at hj,zg9 hj] at h
  exact ⟨_,List.getElem_mem hj,by rw [Bool.or_eq_true,xr,xr];exact h⟩
theorem zfd(sk:List Int)(mv:List (Int×Int)):mv.any (fun m=>decide (m.1∈sk))=true↔ ∃ j,j<mv.length∧inB sk (pM' mv j)=true:=by
 rw [List.any_eq_true]
 constructor
 ·rintro ⟨x,hx,h⟩
  obtain ⟨j,hj,rfl⟩:=List.mem_iff_getElem.1 hx
  exact ⟨j,hj,by rw [pM_at hj];unfold inB;rw [List.contains_iff_mem];simpa using h⟩
 ·rintro ⟨j,hj,h⟩
  rw [pM_at hj] at h
  unfold inB at h
  rw [List.contains_iff_mem] at h
  exact ⟨_,List.getElem_mem hj,by simpa using h⟩
structure LKF(sk:List Int)(mv:List (Int×Int))(k:Int):Prop where
 full:20<sk.length∨20<mv.length→k=7
 f1: ¬ (20<sk.length∨20<mv.length)→ ∀ m,m+1<sk.length→zS sk (m+1)≤zS sk m→k=8
 f2: ¬ (20<sk.length∨20<mv.length)→ ∀ m,m+1<mv.length→pM' mv (m+1)≤pM' mv m→k=8
 f3: ¬ (20<sk.length∨20<mv.length)→upS sk→upM mv→ ∀ j,j<sk.length→ ¬ xW (zS sk j)→k=2
 f4: ¬ (20<sk.length∨20<mv.length)→upS sk→upM mv→(∀ j,j<sk.length→xW (zS sk j))→ ∀ j,j<mv.length→(¬ xW (pM' mv j)∨ ¬ xW (qM' mv j))→k=2
 f5: ¬ (20<sk.length∨20<mv.length)→upS sk→upM mv→(∀ j,j<sk.length→xW (zS sk j))→(∀ j,j<mv.length→xW (pM' mv j)∧xW (qM' mv j))→ ∀ j,j<mv.length→inB sk (pM' mv j)=true→k=6
 f6: ¬ (20<sk.length∨20<mv.length)→upS sk→upM mv→(∀ j,j<sk.length→xW (zS sk j))→(∀ j,j<mv.length→xW (pM' mv j)∧xW (qM' mv j))→(∀ j,j<mv.length→inB sk (pM' mv j)=false)→k=0
theorem lkf(sk:List Int)(mv:List (Int×Int)):LKF sk mv (lk sk mv):=by
 have R:upS sk→upM mv→ ¬ ((vB sk&&vB (mv.map Prod.fst))=false):=fun h1 h2=>by
  rw [(zha sk).2 h1,(zhb mv).2 h2];decide
 have S:(∀ j,j<sk.length→xW (zS sk j))→ ¬ (sk.any yQ=true):=fun h q=>by
  obtain ⟨j,hj,hn⟩:=(zfb sk).1 q;exact hn (h j hj)
 have M:(∀ j,j<mv.length→xW (pM' mv j)∧xW (qM' mv j))→ ¬ (mv.any (fun m=>yQ m.1||yQ m.2)=true):=fun h q=>by
  obtain ⟨j,hj,hn⟩:=(zfc mv).1 q
  rcases hn with hn|hn
  ·exact hn (h j hj).1
  ·exact hn (h j hj).2
 unfold lk
 refine ⟨fun h=>if_pos h,fun h m hm hz=> ?_,fun h m hm hz=> ?_,fun h u1 u2 j hj hn=> ?_,fun h u1 u2 s j hj hn=> ?_,fun h u1 u2 s d j hj hn=> ?_,fun h u1 u2 s d hn=> ?_⟩
 ·have:vB sk=false:=by
   cases hr:vB sk with
   |false=>rfl
   |true=>have:=(zha sk).1 hr m hm;omega
  rw [if_neg h,this,Bool.false_and,if_pos rfl]
 ·have:vB (mv.map Prod.fst)=false:=by
   cases hr:vB (mv.map Prod.fst) with
   |false=>rfl
   |true=>have:=(zhb mv).1 hr m hm;omega
  rw [if_neg h,this,Bool.and_false,if_pos rfl]
 ·rw [if_neg h,if_neg (R u1 u2),if_pos ((zfb sk).2 ⟨j,hj,hn⟩)]
 ·rw [if_neg h,if_neg (R u1 u2),if_neg (S s),if_pos ((zfc mv).2 ⟨j,hj,hn⟩)]
 ·rw [if_neg h,if_neg (R u1 u2),if_neg (S s),if_neg (M d),if_pos ((zfd sk mv).2 ⟨j,hj,hn⟩)]
 ·rw [if_neg h,if_neg (R u1 u2),if_neg (S s),if_neg (M d),if_neg (fun q=>by obtain ⟨j,hj,hq⟩:=(zfd sk mv).1 q;rw [hn j hj] at hq;exact absurd hq (by decide))]
end Go.Proofs.YtpeafgddbbojaaaGreatDoor
