import Derived.Test.YtpeafgddbbojaaaGreatDoorJqAA
import Derived.Test.YtpeafgddbbojaaaGreatDoorJqAU
import Derived.Test.YtpeafgddbbojaaaGreatDoorJqAG
import Derived.Test.YtpeafgddbbojaaaGreatDoorJqAW
import Derived.Test.YtpeafgddbbojaaaGreatDoorJqAK
import Derived.Test.YtpeafgddbbojaaaGreatDoorJqAH
import Derived.Test.YtpeafgddbbojaaaGreatDoorJqAT
import Derived.Test.YtpeafgddbbojaaaGreatDoorJqAO
import Derived.Test.YtpeafgddbbojaaaGreatDoorJqAP
import Derived.Test.YtpeafgddbbojaaaGreatDoorJqAR
namespace Go.Proofs.YtpeafgddbbojaaaGreatDoor
open Go Go.RowKit Go.Sort Cal
attribute [local go_sem] Oper.semAt_some
theorem zez{ops:Array Oper}{rest:List Oper}{o:Oper}{a:Act}{Q:Exit→Act→World→Prop}{w:World}(hgd:o.guard=none)(s x:Operand)
  (ho:o.op= .call { callee:= .builtin .append,args:= #[s,x],argTypes:= #[46,46] })
  (base:Nat) (xs ys:List (Int×Int)) (v u:Value) (hs:a.eval s=v) (hown:OwM base w v xs) (hx:a.eval x=u) (hg:GotM w u ys) (hl:xs.length+ys.length≤100000) (hbase:base≤w.heap.size)
  (h: ∀ v' w',OwM base w' v' (xs++ys)→Below base w w'→wpList Tryz.prog ops Q rest (a.put o.dst v') w'):wpList Tryz.prog ops Q (o::rest) a w:=by
 obtain ⟨i0,hi,hz0,hz1,hz2⟩:=info_parts xN
 obtain ⟨ad,cap,rfl,hn,hs'⟩:=hg
 cases ad with
 |none=>
  obtain ⟨h0,rfl⟩:=hn rfl
  have hys:ys=[]:=List.length_eq_zero_iff.1 h0
  subst hys
  refine wpList_append_own_none hgd s x 46 ho base 114 i0 2 Tryz.underlying46 hi v xs.length (yF xs) hs hown hx ?_
  exact h v w (by rw [List.append_nil];exact hown) (Below.refl _ _)
 |some ad=>
  refine wpList_append_own w hgd s x 46 ho base 114 i0 (.agg #[.int .i64 0,.int .i64 0]) 2 16 Tryz.underlying46 hi hz0 hz1 hz2 rfl (by decide) v xs.length (yF xs) hs hown ad ys.length cap (yF ys) hx (xG ys) ?_ (fun v hv=>xH ys v hv) (by unfold maxLen;omega) (by omega) hbase ?_
  ·exact zbd ys (fun j v=>w.cell? (ad.add j)=some v) (fun j hj=>⟨(hs' ad rfl j hj).2.1,(hs' ad rfl j hj).2.2⟩)
  ·intro v' w' h1 h2 _
   refine h v' w' ?_ ?_
   ·unfold OwM
    rw [List.length_append]
    rw [zaj]
    exact h1
   ·refine (Below.refl base w).grown h2 hbase (fun k e=> ?_)
    exact (World.ownsRow.lt hown k e).1
theorem zh0{base n c:Nat}{W:World}{a:Option Addr}{xs:List (Int×Int)}(h:OwM base W (.slice a n c) xs){j:Nat}(hj:j<xs.length): ∃ g,a=some ⟨g,0,none⟩∧base≤g∧g<W.heap.size∧W.cell? ⟨g,j*2,none⟩=some (.int .i64 xs[j].1):=by
 rcases h.2 with ⟨_,h0⟩|⟨g,cap,cur,hv,hb,hg,_,_,_,htake⟩
 ·omega
 ·injection hv with e1 e2 e3
  subst e1 e2 e3
  exact ⟨g,rfl,hb,(Array.getElem?_eq_some_iff.1 hg).1,(zaW hg htake j hj).1⟩
def dSt(l1 l2 l3:List (Int×Int))(acc:Option (List (Int×Int)))(f:Int):Option (List (Int×Int)):=acc.bind fun o=>(yD (toM l1 f) (toM l2 f) (toM l3 f)).map fun t=>if 0≤t then o++[(f,t)] else o
theorem zft(l1 l2 l3:List (Int×Int)): ∀ F:List Int,F.foldl (dSt l1 l2 l3) none=none
 |[]=>rfl
 |_::r=>zft l1 l2 l3 r
def lsK(F:List Int)(k:Nat):Int:=if k=0 then -1 else F.getD (k - 1) 0
theorem zk4(F:List Int)(k:Nat)(hk:k≤F.length)(x:Int)(hx:0≤x):decide (lsK F k<x)=true↔(true=true∧ ∀ (i:Nat) (h:i<F.length),i+1=k→F[i]<x):=by
 unfold lsK
 rw [decide_eq_true_eq]
 by_cases h0:k=0
 ·rw [if_pos h0]
  exact ⟨fun _=>⟨rfl,fun i h e=>by omega⟩,fun _=>by omega⟩
 ·rw [if_neg h0,List.getD_eq_getElem?_getD,List.getElem?_eq_getElem (show k - 1<F.length by omega)]
  constructor
  ·intro h
   refine ⟨rfl,fun i hi e=> ?_⟩
   have:i=k - 1:=by omega
   subst this
   exact h
  ·intro h
   exact h.2 (k - 1) (by omega) (by omega)
set_option maxHeartbeats 8000000 in
set_option maxRecDepth 100000 in
theorem zeA(v1 v2 v3:Value)(l1 l2 l3:List (Int×Int))(F:List Int)(w:World)(h1:GotM w v1 l1)(h2:GotM w v2 l2)(h3:GotM w v3 l3)(hl1:l1.length≤100)(hl2:l2.length≤100)(hl3:l3.length≤100)(h0: ∀ x∈(l1++l2++l3).map Prod.fst,0≤x)(h9: ∀ x∈(l1++l2++l3).map Prod.fst,x≤73048)(hF:F.Pairwise (· < ·))(hFl:F.length≤1000)(hm: ∀ x,x∈F↔x∈(l1++l2++l3).map Prod.fst):
  Calls Tryz.prog 55 #[v1,v2,v3] w fun r w'=> ∃ v,r= .returned (.tuple #[v,.bool (F.foldl (dSt l1 l2 l3) (some [])).isSome])∧OwM w.heap.size w' v ((F.foldl (dSt l1 l2 l3) (some [])).getD [])∧Below w.heap.size w w':=by
 obtain ⟨i0,hi,hz0,hz1,hz2⟩:=info_parts xN
 have G1:=hid h1
 have G2:=hid h2
 have G3:=hid h3
 have C1:Hid (∀ (x:Int) (W:World),Below w.heap.size w W→Calls Tryz.prog 89 #[v1,.int .i64 x] W fun r w'=>r= .returned (.int .i64 (toM l1 x))∧w'=W):=fun x W hW=>zcI l1 v1 x W (h1.step hW) (by omega)
 have C2:Hid (∀ (x:Int) (W:World),Below w.heap.size w W→Calls Tryz.prog 89 #[v2,.int .i64 x] W fun r w'=>r= .returned (.int .i64 (toM l2 x))∧w'=W):=fun x W hW=>zcI l2 v2 x W (h2.step hW) (by omega)
 have C3:Hid (∀ (x:Int) (W:World),Below w.heap.size w W→Calls Tryz.prog 89 #[v3,.int .i64 x] W fun r w'=>r= .returned (.int .i64 (toM l3 x))∧w'=W):=fun x W hW=>zcI l3 v3 x W (h3.step hW) (by omega)
 obtain ⟨n1,hn1⟩: ∃ n,l1.length=n:=⟨_,rfl⟩
 obtain ⟨n2,hn2⟩: ∃ n,l2.length=n:=⟨_,rfl⟩
 obtain ⟨n3,hn3⟩: ∃ n,l3.length=n:=⟨_,rfl⟩
 obtain ⟨a1,k1,rfl,_⟩:=h1
 obtain ⟨a2,k2,rfl,_⟩:=h2
 obtain ⟨a3,k3,rfl,_⟩:=h3
 rw [hn1] at C1 G1 ⊢
 rw [hn2] at C2 G2 ⊢
 rw [hn3] at C3 G3 ⊢
 have HL:Hid (l1.length≤100∧l2.length≤100∧l3.length≤100):=⟨hl1,hl2,hl3⟩
 have HNX:Hid (∀ (k:Nat),k≤F.length→(∀ h:k<F.length,mnF (fun x=>decide (lsK F k<x)) ((l1++l2++l3).map Prod.fst)=F[k])∧(k=F.length→mnF (fun x=>decide (lsK F k<x)) ((l1++l2++l3).map Prod.fst)= -1)):=fun k hk=>zfq (p:=fun _=>true) hF (fun x=>by rw [hm x];simp) h0 hk (fun x hx=>zk4 F k hk x (h0 x hx))
 have HJ0:Hid (∀ (k:Nat) (h:k<F.length),0≤F[k]∧F[k]≤73048∧lsK F k<F[k]∧lsK F (k+1)=F[k]):=fun k h=>by
  have q0:=h0 _ ((hm _).1 (List.getElem_mem h))
  refine ⟨q0,h9 _ ((hm _).1 (List.getElem_mem h)),?_,?_⟩
  ·unfold lsK
   by_cases hk0:k=0
   ·rw [if_pos hk0];omega
   ·rw [if_neg hk0,List.getD_eq_getElem?_getD,List.getElem?_eq_getElem (show k - 1<F.length by omega)]
    exact zjn hF (by omega) h (by omega)
  ·unfold lsK
   rw [if_neg (by omega),Nat.add_sub_cancel,List.getD_eq_getElem?_getD,List.getElem?_eq_getElem h]
   rfl
 clear h0 h9 hF hm hl1 hl2 hl3 hn1 hn2 hn3
 have hFi:(F.length:Int)≤1000:=by omega
 obtain ⟨L2,hL2⟩: ∃ L,L=l1++l2:=⟨_,rfl⟩
 obtain ⟨AL,hAL⟩: ∃ L,L=L2++l3:=⟨_,rfl⟩
 have HL2:=hid hL2
 have HAL:=hid hAL
 have HLL:Hid (L2.length≤200∧AL.length≤300):=by
  show _∧_
  rw [hAL,List.length_append,hL2,List.length_append]
  have:=HL.out
  omega
 rw [←hL2,←hAL] at HNX
 clear hL2 hAL
 generalize hRR:F.foldl (dSt l1 l2 l3) (some [])=RR
 have HRR:=hid hRR
 clear hRR
 go_enter Tryz.func55,Tryz.ntmps55
 go_upto_region 3 with (at_builtin;refine zez rfl _ _ rfl w.heap.size [] l1 _ _ rfl (World.ownsRow_nil _ _ _ _) rfl G1.out (by have:=HL.out;simp;omega) (Nat.le_refl _) ?_;intro v' w1 ho hb;have O1:=hid ho;have B1:=hid hb;obtain ⟨q1,q2,rfl⟩:=zQ ho;clear ho hb)
 go_upto_region 4 with (at_builtin;refine zez rfl _ _ rfl w.heap.size l1 l2 _ _ rfl O1.out rfl (G2.out.step B1.out) (by have:=HL.out;omega) B1.out.size ?_;intro v' w2 ho hb;rw [←HL2.out] at ho;have O2:=hid ho;have B2:=hid (zfs B1.out hb);obtain ⟨q3,q4,rfl⟩:=zQ ho;clear ho hb)
 go_upto_region 5 with (at_builtin;refine zez rfl _ _ rfl w.heap.size L2 l3 _ _ rfl O2.out rfl (G3.out.step B2.out) (by have:=HL.out;have:=HLL.out;omega) B2.out.size ?_;intro v' w3 ho hb;rw [←HAL.out] at ho;have O3:=hid ho;have B3:=hid (zfs B2.out hb);obtain ⟨q5,q6,rfl⟩:=zQ ho;clear ho hb)
 have HCA:Hid (∀ W,Below w3.heap.size w3 W→ ∀ (j:Nat) (hj:j<AL.length),∃ g,q5=some ⟨g,0,none⟩∧W.cell? ⟨g,j*2,none⟩=some (.int .i64 AL[j].1)):=fun W hW j hj=>by
  obtain ⟨g,e,_,hg,hc⟩:=zh0 O3.out hj
  exact ⟨g,e,(World.cell?_of_block (a:=⟨g,j*2,none⟩) (hW.block _ hg)).trans hc⟩
 have BW:Hid (∀ W,Below w3.heap.size w3 W→Below w.heap.size w W):=fun W hW=>zB B3.out hW
 have hALi:(AL.length:Int)≤300:=by have:=HLL.out;omega
 clear O1 O2 B1 B2
 go_wp2
 go_loopw [9,10,11,12,13,14,15,16] (fun ov lv _ _ _ _ _ _ wr=> ∃ (k n:Nat) (oa:Option Addr) (oc:Nat) (o:List (Int×Int)),k≤F.length∧n≤k∧ov= .slice oa n oc∧lv= .int .i64 (lsK F k)∧Hid (n=o.length∧(F.take k).foldl (dSt l1 l2 l3) (some [])=some o)∧Hid (OwM w3.heap.size wr (.slice oa n oc) o)∧Hid (Below w3.heap.size w3 wr)) (fun _ lv _ _ _ _ _ _ _=>(73049 - intOf lv).toNat)
 case atStart=>exact ⟨0,0,none,0,[],Nat.zero_le _,Nat.le_refl _,rfl,rfl,⟨rfl,rfl⟩,World.ownsRow_nil _ _ _ _,Below.refl _ _⟩
 case round=>
 obtain ⟨k,n,oa,oc,o,hk,hnk,rfl,rfl,HO,HOW,HBW⟩:=hrel
 have HNK:Hid (_):=HNX.out k hk
 have HWO:Hid (∀ W,Below wr.heap.size wr W→Below w3.heap.size w3 W):=fun W hW=>zB HBW.out hW
 generalize wr=wo at HOW HBW HWO ⊢
 have HJK:=hid (HJ0.out k)
 generalize lsK F k=ls at HNK HJK ⊢
 go_wp2
 go_loopw [11,12] (fun dv iv wq=> ∃ i:Nat,i≤AL.length∧iv= .int .i64 i∧dv= .int .i64 (mnF (fun x=>decide (ls<x)) ((AL.take i).map Prod.fst))∧Hid (Below wo.heap.size wo wq)) (fun _ iv _=>AL.length - (intOf iv).toNat)
 case atStart=>exact ⟨0,Nat.zero_le _,rfl,rfl,Below.refl _ _⟩
 case round=>
  obtain ⟨i,hi',rfl,rfl,HBI⟩:=hrel
  by_cases hlt:i<AL.length
  ·obtain ⟨g,rfl,hcell⟩:=HCA.out wr (HWO.out _ HBI.out) i hlt
   have HF:Hid (mnF (fun x=>decide (ls<x)) ((AL.take (i+1)).map Prod.fst)=if decide (ls<AL[i].1)=true∧(mnF (fun x=>decide (ls<x)) ((AL.take i).map Prod.fst)<0∨AL[i].1<mnF (fun x=>decide (ls<x)) ((AL.take i).map Prod.fst)) then AL[i].1 else mnF (fun x=>decide (ls<x)) ((AL.take i).map Prod.fst)):=by
    show _=_
    rw [List.take_succ_eq_append_getElem hlt,List.map_append]
    exact zcJ _ _ _
   have g1:(0:Int)≤(i:Int):=by omega
   have g2:(i:Int)<(AL.length:Int):=by omega
   generalize AL[i].1=x at hcell HF
   generalize mnF (fun x=>decide (ls<x)) ((AL.take i).map Prod.fst)=d at HF ⊢
   by_cases hyx:ls<x
   ·by_cases hd1:d<0
    ·go_wp2
     refine ⟨⟨i+1,by omega,by go_num,(by rw [HF.out];simp [hyx,hd1]),HBI.out⟩,?_⟩
     simp [intOf];omega
    ·by_cases hd2:x<d
     ·go_wp2
      refine ⟨⟨i+1,by omega,by go_num,(by rw [HF.out];simp [hyx,hd1,hd2]),HBI.out⟩,?_⟩
      simp [intOf];omega
     ·go_wp2
      refine ⟨⟨i+1,by omega,by go_num,(by rw [HF.out];simp [hyx,hd1,hd2]),HBI.out⟩,?_⟩
      simp [intOf];omega
   ·go_wp2
    refine ⟨⟨i+1,by omega,by go_num,(by rw [HF.out];simp [hyx]),HBI.out⟩,?_⟩
    simp [intOf];omega
  ·have hin:i=AL.length:=by omega
   have g2:(AL.length:Int)≤(i:Int):=by omega
   rw [hin,List.take_length]
   have HO2:=hid (zU HOW.out HBI.out)
   have B2:Hid (Below w3.heap.size w3 wr):=HWO.out _ HBI.out
   have hni:(n:Int)≤1000:=by omega
   by_cases hkF:k<F.length
   ·have hd:=HNK.out.1 hkF
    obtain ⟨h0k,h9k,hls,hls1⟩:=HJK.out hkF
    have HLS:=hid hls1
    have HN2:Hid ((F.take (k+1)).foldl (dSt l1 l2 l3) (some [])=(yD (toM l1 F[k]) (toM l2 F[k]) (toM l3 F[k])).map fun t=>if 0≤t then o++[(F[k],t)] else o):=by
     show _=_
     rw [List.take_succ_eq_append_getElem hkF,List.foldl_append,HO.out.2]
     rfl
    have HCL:Hid ((F.take (k+1)).foldl (dSt l1 l2 l3) (some [])=none→RR=none):=fun q=>by
     rw [←HRR.out,←List.take_append_drop (k+1) F,List.foldl_append,q]
     exact zft l1 l2 l3 _
    rw [hd]
    generalize F[k]=dk at HLS HN2 h0k h9k hls ⊢
    clear hd HNK HJK HOW hls1 HBI
    go_upto_region 17 with (go_at_call 89;refine Calls.mono (C1.out _ _ (BW.out _ B2.out)) ?_;rintro r w' ⟨rfl,hq⟩;have hq:=hq.symm;subst hq)
    go_upto_region 18 with (go_at_call 89;refine Calls.mono (C2.out _ _ (BW.out _ B2.out)) ?_;rintro r w' ⟨rfl,hq⟩;have hq:=hq.symm;subst hq)
    go_upto_region 19 with (go_at_call 89;refine Calls.mono (C3.out _ _ (BW.out _ B2.out)) ?_;rintro r w' ⟨rfl,hq⟩;have hq:=hq.symm;subst hq)
    generalize toM l1 dk=X at HN2 ⊢
    generalize toM l2 dk=Y at HN2 ⊢
    generalize toM l3 dk=Z at HN2 ⊢
    by_cases hYZ:Y=Z
    ·have HONE:yD X Y Z=some Y:=by unfold yD;rw [if_pos (.inl hYZ)]
     subst hYZ
     by_cases ht:0≤Y
     ·have hA:=zC wr (.cells #[.int .i64 dk,.int .i64 Y] 114)
      have HROW:Hid (World.ownsRow (wr.alloc (.cells #[.int .i64 dk,.int .i64 Y] 114)) w3.heap.size 114 2 (.slice oa n oc) n (yF o)):=by
       have z:World.ownsRow _ _ _ _ _ _ _:=zU HO2.out hA
       rw [←HO.out.1] at z
       exact z
      have NC:Hid (∀ (j:Nat) (v:Value),[Value.int .i64 dk,.int .i64 Y][j]? =some v→(wr.alloc (.cells #[.int .i64 dk,.int .i64 Y] 114)).cell? ((⟨wr.heap.size,0,none⟩:Addr).add j)=some v):=za0 wr _ _
      have HNX2:Hid ((F.take (k+1)).foldl (dSt l1 l2 l3) (some [])=some (o++[(dk,Y)])):=by
       show _=_
       rw [HN2.out,HONE]
       simp [ht]
      clear hA
      go_wp2_with (at_builtin;refine wpList_append_own_at _ rfl _ _ 46 rfl w3.heap.size 114 i0 (.agg #[.int .i64 0,.int .i64 0]) 2 16 Tryz.underlying46 hi hz0 hz1 hz2 rfl (by decide) _ _ _ rfl HROW.out ⟨wr.heap.size,0,none⟩ 1 1 [.int .i64 dk,.int .i64 Y] rfl rfl NC.out (fun v hv=>by simp only [List.mem_cons,List.not_mem_nil,or_false] at hv;rcases hv with rfl|rfl<;>rfl) (by unfold maxLen;omega) (by omega) (by have:=B2.out.size;rw [World.size_alloc];omega) ?_;intro v' w7 hown' hgrow _ hat;have HOWN:=hid hown';have HGR:=hid hgrow;obtain ⟨na,nc,rfl⟩:=zQ hown';clear hown' hgrow hat)
      refine ⟨⟨k+1,n+1,na,nc,o++[(dk,Y)],hkF,by omega,rfl,(by rw [HLS.out]),⟨by rw [List.length_append,←HO.out.1];rfl,HNX2.out⟩,?_,?_⟩,?_⟩
      ·show OwM _ _ _ _
       unfold OwM
       rw [vI,List.length_append,←HO.out.1]
       exact HOWN.out
      ·exact (zB B2.out (zC _ _)).grown HGR.out (Nat.le_trans B2.out.size (zC _ _).size) (fun k q=>(World.ownsRow.lt HROW.out k q).1)
      ·simp [intOf];omega
     ·have HNX2:Hid ((F.take (k+1)).foldl (dSt l1 l2 l3) (some [])=some o):=by
       show _=_
       rw [HN2.out,HONE]
       simp [ht]
      go_wp2
      refine ⟨⟨k+1,n,oa,oc,o,hkF,by omega,rfl,(by rw [HLS.out]),⟨HO.out.1,HNX2.out⟩,HO2.out,B2.out⟩,?_⟩
      simp [intOf];omega
    ·by_cases hYX:Y=X
     ·have HONE:yD X Y Z=some Z:=by unfold yD;rw [if_neg (fun q=>by rcases q with q|q;exact hYZ q;exact hYZ (hYX.trans q.symm)),if_pos hYX]
      subst hYX
      by_cases ht:0≤Z
      ·have hA:=zC wr (.cells #[.int .i64 dk,.int .i64 Z] 114)
       have HROW:Hid (World.ownsRow (wr.alloc (.cells #[.int .i64 dk,.int .i64 Z] 114)) w3.heap.size 114 2 (.slice oa n oc) n (yF o)):=by
        have z:World.ownsRow _ _ _ _ _ _ _:=zU HO2.out hA
        rw [←HO.out.1] at z
        exact z
       have NC:Hid (∀ (j:Nat) (v:Value),[Value.int .i64 dk,.int .i64 Z][j]? =some v→(wr.alloc (.cells #[.int .i64 dk,.int .i64 Z] 114)).cell? ((⟨wr.heap.size,0,none⟩:Addr).add j)=some v):=za0 wr _ _
       have HNX2:Hid ((F.take (k+1)).foldl (dSt l1 l2 l3) (some [])=some (o++[(dk,Z)])):=by
        show _=_
        rw [HN2.out,HONE]
        simp [ht]
       clear hA
       go_wp2_with (at_builtin;refine wpList_append_own_at _ rfl _ _ 46 rfl w3.heap.size 114 i0 (.agg #[.int .i64 0,.int .i64 0]) 2 16 Tryz.underlying46 hi hz0 hz1 hz2 rfl (by decide) _ _ _ rfl HROW.out ⟨wr.heap.size,0,none⟩ 1 1 [.int .i64 dk,.int .i64 Z] rfl rfl NC.out (fun v hv=>by simp only [List.mem_cons,List.not_mem_nil,or_false] at hv;rcases hv with rfl|rfl<;>rfl) (by unfold maxLen;omega) (by omega) (by have:=B2.out.size;rw [World.size_alloc];omega) ?_;intro v' w7 hown' hgrow _ hat;have HOWN:=hid hown';have HGR:=hid hgrow;obtain ⟨na,nc,rfl⟩:=zQ hown';clear hown' hgrow hat)
       refine ⟨⟨k+1,n+1,na,nc,o++[(dk,Z)],hkF,by omega,rfl,(by rw [HLS.out]),⟨by rw [List.length_append,←HO.out.1];rfl,HNX2.out⟩,?_,?_⟩,?_⟩
       ·show OwM _ _ _ _
        unfold OwM
        rw [vI,List.length_append,←HO.out.1]
        exact HOWN.out
       ·exact (zB B2.out (zC _ _)).grown HGR.out (Nat.le_trans B2.out.size (zC _ _).size) (fun k q=>(World.ownsRow.lt HROW.out k q).1)
       ·simp [intOf];omega
      ·have HNX2:Hid ((F.take (k+1)).foldl (dSt l1 l2 l3) (some [])=some o):=by
        show _=_
        rw [HN2.out,HONE]
        simp [ht]
       go_wp2
       refine ⟨⟨k+1,n,oa,oc,o,hkF,by omega,rfl,(by rw [HLS.out]),⟨HO.out.1,HNX2.out⟩,HO2.out,B2.out⟩,?_⟩
       simp [intOf];omega
     ·by_cases hZX:Z=X
      ·have HONE:yD X Y Z=some Y:=by unfold yD;rw [if_pos (.inr hZX)]
       subst hZX
       by_cases ht:0≤Y
       ·have hA:=zC wr (.cells #[.int .i64 dk,.int .i64 Y] 114)
        have HROW:Hid (World.ownsRow (wr.alloc (.cells #[.int .i64 dk,.int .i64 Y] 114)) w3.heap.size 114 2 (.slice oa n oc) n (yF o)):=by
         have z:World.ownsRow _ _ _ _ _ _ _:=zU HO2.out hA
         rw [←HO.out.1] at z
         exact z
        have NC:Hid (∀ (j:Nat) (v:Value),[Value.int .i64 dk,.int .i64 Y][j]? =some v→(wr.alloc (.cells #[.int .i64 dk,.int .i64 Y] 114)).cell? ((⟨wr.heap.size,0,none⟩:Addr).add j)=some v):=za0 wr _ _
        have HNX2:Hid ((F.take (k+1)).foldl (dSt l1 l2 l3) (some [])=some (o++[(dk,Y)])):=by
         show _=_
         rw [HN2.out,HONE]
         simp [ht]
        clear hA
        go_wp2_with (at_builtin;refine wpList_append_own_at _ rfl _ _ 46 rfl w3.heap.size 114 i0 (.agg #[.int .i64 0,.int .i64 0]) 2 16 Tryz.underlying46 hi hz0 hz1 hz2 rfl (by decide) _ _ _ rfl HROW.out ⟨wr.heap.size,0,none⟩ 1 1 [.int .i64 dk,.int .i64 Y] rfl rfl NC.out (fun v hv=>by simp only [List.mem_cons,List.not_mem_nil,or_false] at hv;rcases hv with rfl|rfl<;>rfl) (by unfold maxLen;omega) (by omega) (by have:=B2.out.size;rw [World.size_alloc];omega) ?_;intro v' w7 hown' hgrow _ hat;have HOWN:=hid hown';have HGR:=hid hgrow;obtain ⟨na,nc,rfl⟩:=zQ hown';clear hown' hgrow hat)
        refine ⟨⟨k+1,n+1,na,nc,o++[(dk,Y)],hkF,by omega,rfl,(by rw [HLS.out]),⟨by rw [List.length_append,←HO.out.1];rfl,HNX2.out⟩,?_,?_⟩,?_⟩
        ·show OwM _ _ _ _
         unfold OwM
         rw [vI,List.length_append,←HO.out.1]
         exact HOWN.out
        ·exact (zB B2.out (zC _ _)).grown HGR.out (Nat.le_trans B2.out.size (zC _ _).size) (fun k q=>(World.ownsRow.lt HROW.out k q).1)
        ·simp [intOf];omega
       ·have HNX2:Hid ((F.take (k+1)).foldl (dSt l1 l2 l3) (some [])=some o):=by
         show _=_
         rw [HN2.out,HONE]
         simp [ht]
        go_wp2
        refine ⟨⟨k+1,n,oa,oc,o,hkF,by omega,rfl,(by rw [HLS.out]),⟨HO.out.1,HNX2.out⟩,HO2.out,B2.out⟩,?_⟩
        simp [intOf];omega
      ·have HRN:Hid (RR=none):=HCL.out (by rw [HN2.out];unfold yD;rw [if_neg (fun q=>by rcases q with q|q;exact hYZ q;exact hZX q),if_neg hYX];rfl)
       go_wp2
       go_ret2
       refine ⟨.slice none 0 0,?_,?_,BW.out _ B2.out⟩
       ·rw [HRN.out];rfl
       ·rw [HRN.out];exact World.ownsRow_nil _ _ _ _
   ·have hkF':k=F.length:=by omega
    have hd:=HNK.out.2 hkF'
    have HRS:Hid (RR=some o):=by
     show _=_
     rw [←HRR.out]
     have z:=HO.out.2
     rw [hkF',List.take_length] at z
     exact z
    rw [hd]
    clear hd HNK HJK HOW
    go_wp2
    go_ret2
    refine ⟨.slice oa n oc,?_,?_,BW.out _ B2.out⟩
    ·rw [HRS.out];rfl
    ·rw [HRS.out];exact zW HO2.out B3.out.size
end Go.Proofs.YtpeafgddbbojaaaGreatDoor
namespace Go.Proofs.YtpeafgddbbojaaaGreatDoor
open Go Go.RowKit Go.Maps Go.Sort Cal
theorem yz(l:List Int):(Go.Lib.compact (l.mergeSort fun x y=>decide (x≤y))).Pairwise (· < ·)∧ ∀ x,x∈Go.Lib.compact (l.mergeSort fun x y=>decide (x≤y))↔x∈l:=by
 have hs:(l.mergeSort fun x y=>decide (x≤y)).Pairwise (· ≤ ·):=by
  have:=List.pairwise_mergeSort (le:=fun (x y:Int)=>decide (x≤y)) (fun a b c h1 h2=>by simp at*;omega) (fun a b=>by simp;omega) l
  exact this.imp (fun h=>by simpa using h)
 obtain ⟨h1,h2⟩:=xq _ hs _ (Nat.le_refl _)
 refine ⟨h1,fun x=> ?_⟩
 have e:x∈l↔x∈l.mergeSort fun x y=>decide (x≤y):=List.mem_mergeSort.symm
 rw [e]
 refine (h2 x).trans ?_
 rw [List.mem_iff_getElem]
 constructor
 ·rintro ⟨j,hj,_,e⟩;exact ⟨j,hj,e⟩
 ·rintro ⟨j,hj,e⟩;exact ⟨j,hj,hj,e⟩
theorem zjp(l1 l2 l3:List Int):(jSk l1 l2 l3).Pairwise (· < ·):=by
 unfold jSk ris
 exact (yz _).1.filter _
theorem zk6(l1 l2 l3:List Int)(x:Int):x∈jSk l1 l2 l3↔x∈l1++l2++l3∧stB (decide (x∈l2)) (decide (x∈l3)) (decide (x∈l1))=true:=by
 have e1:x∈jSk l1 l2 l3↔(x∈l2∨x∈l3)∧ziJ l1 l2 l3 x=false:=by
  unfold jSk
  rw [List.mem_filter]
  have:=(yz (l2++l3)).2 x
  unfold ris
  rw [this,List.mem_append]
  simp
 rw [e1,List.mem_append,List.mem_append]
 unfold ziJ stB yD
 by_cases h1:x∈l1<;>by_cases h2:x∈l2<;>by_cases h3:x∈l3<;>simp [h1,h2,h3]
theorem zh3(v1 v2 v3:Value)(l1 l2 l3:List Int)(w:World)(h1:Got w v1 l1)(h2:Got w v2 l2)(h3:Got w v3 l3)(hl1:l1.length≤100)(hl2:l2.length≤100)(hl3:l3.length≤100)(p1: ∀ x∈l1,0≤x)(p2: ∀ x∈l2,0≤x)(p3: ∀ x∈l3,0≤x):
  Calls Tryz.prog 54 #[v1,v2,v3] w fun r w'=> ∃ v,r= .returned v∧Ow w.heap.size w' v (jSk l1 l2 l3)∧Below w.heap.size w w':=
 zey v1 v2 v3 l1 l2 l3 (jSk l1 l2 l3) w h1 h2 h3 hl1 hl2 hl3 (fun x hx=>by
  rcases List.mem_append.1 hx with q|q
  ·rcases List.mem_append.1 q with q|q
   ·exact p1 x q
   ·exact p2 x q
  ·exact p3 x q) (zjp l1 l2 l3) (by
   have:=Nat.le_trans (List.length_filter_le (fun d=> !ziJ l1 l2 l3 d) (ris l2 l3)) (jS l2 l3)
   unfold jSk
   omega) (fun x=>zk6 l1 l2 l3 x)
def zjq(p:Int×Bool):Int:=if p.2 then p.1 else -1
theorem zh4{ms:List (Int×Int)}{x:Int}(h: ∀ m∈ms,m.1≠x)(p:Int×Bool):ms.foldl (fun f m=>if m.1=x then (m.2,true) else f) p=p:=by
 induction ms generalizing p with
 |nil=>rfl
 |cons m r ih=>rw [List.foldl_cons,if_neg (h m List.mem_cons_self)];exact ih (fun n hn=>h n (List.mem_cons_of_mem _ hn)) p
theorem zfv{ms:List (Int×Int)}(hp:(ms.map Prod.fst).Pairwise (· < ·))(x:Int):toM ms x=zjq (gl ms x)∧((gl ms x).2=true→ ∃ m∈ms,m.1=x∧m.2=(gl ms x).1)∧((gl ms x).2=false→gl ms x=(0,false)):=by
 unfold toM gl
 induction ms with
 |nil=>exact ⟨rfl,fun q=>(by cases q),fun _=>rfl⟩
 |cons m r ih=>
  rw [List.map_cons,List.pairwise_cons] at hp
  rw [List.foldl_cons,List.find?_cons]
  by_cases h:m.1=x
  ·have hn: ∀ n∈r,n.1≠x:=fun n hn q=>by
    have:=hp.1 n.1 (List.mem_map_of_mem hn)
    omega
   rw [if_pos h,zh4 hn]
   have:(m.1==x)=true:=by simpa using h
   rw [this]
   exact ⟨rfl,fun _=>⟨m,List.mem_cons_self,h,rfl⟩,fun q=>(by cases q)⟩
  ·rw [if_neg h]
   have:(m.1==x)=false:=by simpa using h
   rw [this]
   obtain ⟨i1,i2,i3⟩:=ih hp.2
   refine ⟨i1,fun q=> ?_,i3⟩
   obtain ⟨n,hn,e⟩:=i2 q
   exact ⟨n,List.mem_cons_of_mem _ hn,e⟩
theorem zk7{p q r:Int×Bool}(hp:(p.2=true→0≤p.1)∧(p.2=false→p=(0,false)))(hq:(q.2=true→0≤q.1)∧(q.2=false→q=(0,false)))(hr:(r.2=true→0≤r.1)∧(r.2=false→r=(0,false))):yD (zjq p) (zjq q) (zjq r)=(yD p q r).map zjq:=by
 have inj: ∀ a b:Int×Bool,((a.2=true→0≤a.1)∧(a.2=false→a=(0,false)))→((b.2=true→0≤b.1)∧(b.2=false→b=(0,false)))→(zjq a=zjq b↔a=b):=by
  rintro ⟨a1,a2⟩ ⟨b1,b2⟩ ⟨ha,ha'⟩ ⟨hb,hb'⟩
  unfold zjq
  dsimp only at*
  cases a2<;>cases b2
  ·have e1:=ha' rfl
   have e2:=hb' rfl
   cases e1
   cases e2
   simp
  ·simp
   have:=hb rfl
   omega
  ·simp
   have:=ha rfl
   omega
  ·simp
 unfold yD
 simp only [inj q r hq hr,inj r p hr hp,inj q p hq hp]
 split
 ·rfl
 ·split<;>rfl
def ziL(ms:List (Int×Int)):Prop:=(ms.map Prod.fst).Pairwise (· < ·)∧ ∀ m∈ms,(0≤m.1∧m.1≤73048)∧0≤m.2∧m.2≤73048
theorem zh5{ms:List (Int×Int)}(h:ziL ms)(x:Int):((gl ms x).2=true→0≤(gl ms x).1)∧((gl ms x).2=false→gl ms x=(0,false)):=by
 obtain ⟨_,h2,h3⟩:=zfv h.1 x
 refine ⟨fun q=> ?_,h3⟩
 obtain ⟨m,hm,_,e⟩:=h2 q
 rw [←e]
 exact (h.2 m hm).2.1
theorem zk8{l1 l2 l3:List (Int×Int)}(h1:ziL l1)(h2:ziL l2)(h3:ziL l3)(acc:Option (List (Int×Int)))(f:Int):dSt l1 l2 l3 acc f=jSt l1 l2 l3 acc f:=by
 unfold dSt jSt
 rw [(zfv h1.1 f).1,(zfv h2.1 f).1,(zfv h3.1 f).1,zk7 (zh5 h1 f) (zh5 h2 f) (zh5 h3 f)]
 congr 1
 funext o
 have hin: ∀ p,yD (gl l1 f) (gl l2 f) (gl l3 f)=some p→p=gl l2 f∨p=gl l3 f:=fun p hp=>by
  unfold yD at hp
  split at hp
  ·exact .inl (Option.some.inj hp).symm
  ·split at hp
   ·exact .inr (Option.some.inj hp).symm
   ·cases hp
 cases hz:yD (gl l1 f) (gl l2 f) (gl l3 f) with
 |none=>rfl
 |some p=>
  have hpk:(p.2=true→0≤p.1):=by
   rcases hin p hz with rfl|rfl
   ·exact (zh5 h2 f).1
   ·exact (zh5 h3 f).1
  simp only [Option.map_some]
  unfold zjq
  cases hp2:p.2 with
  |true=>simp [hpk hp2]
  |false=>simp
theorem foldl_skip{α β:Type}(s:α→β→α)(p:β→Bool)(h: ∀ a b,p b=false→s a b=a): ∀ (l:List β) (a:α),l.foldl s a=(l.filter p).foldl s a
 |[],_=>rfl
 |b::r,a=>by
  rw [List.foldl_cons,List.filter_cons]
  cases hb:p b with
  |true=>rw [if_pos rfl,List.foldl_cons];exact foldl_skip s p h r _
  |false=>rw [if_neg (by simp),h a b hb];exact foldl_skip s p h r a
theorem zj5{ms:List (Int×Int)}{x:Int}(h:x∉ms.map Prod.fst):gl ms x=(0,false):=zh4 (fun m hm q=>h (by rw [←q];exact List.mem_map_of_mem hm)) _
theorem zk9{l1 l2 l3:List (Int×Int)}(h1:ziL l1)(h2:ziL l2)(h3:ziL l3):(Go.Lib.compact (((l1++l2++l3).map Prod.fst).mergeSort fun x y=>decide (x≤y))).foldl (dSt l1 l2 l3) (some [])=jMv l1 l2 l3:=by
 have e0:dSt l1 l2 l3=jSt l1 l2 l3:=by funext acc f;exact zk8 h1 h2 h3 acc f
 rw [e0]
 obtain ⟨c1,c2⟩:=yz ((l1++l2++l3).map Prod.fst)
 obtain ⟨d1,d2⟩:=yz (l2.map Prod.fst++l3.map Prod.fst)
 rw [foldl_skip (jSt l1 l2 l3) (fun x=>decide (x∈l2.map Prod.fst++l3.map Prod.fst)) (fun acc f hf=>by
  have hn:f∉l2.map Prod.fst++l3.map Prod.fst:=by simpa using hf
  rw [List.mem_append] at hn
  have g2:=zj5 (ms:=l2) (x:=f) (fun q=>hn (.inl q))
  have g3:=zj5 (ms:=l3) (x:=f) (fun q=>hn (.inr q))
  unfold jSt
  rw [g2,g3,zhz]
  cases acc with
  |none=>rfl
  |some o=>rfl)]
 unfold jMv ris
 congr 1
 refine zfa (c1.filter _) d1 (fun x=> ?_)
 rw [List.mem_filter,c2 x,d2 x]
 simp only [List.map_append,List.mem_append,decide_eq_true_eq]
 constructor
 ·exact fun q=>q.2
 ·intro q
  refine ⟨?_,q⟩
  rcases q with q|q
  ·exact .inl (.inr q)
  ·exact .inr q
theorem zh6(v1 v2 v3:Value)(l1 l2 l3:List (Int×Int))(w:World)(h1:GotM w v1 l1)(h2:GotM w v2 l2)(h3:GotM w v3 l3)(hl1:l1.length≤100)(hl2:l2.length≤100)(hl3:l3.length≤100)(p1:ziL l1)(p2:ziL l2)(p3:ziL l3):
  Calls Tryz.prog 55 #[v1,v2,v3] w fun r w'=> ∃ v,r= .returned (.tuple #[v,.bool (jMv l1 l2 l3).isSome])∧OwM w.heap.size w' v ((jMv l1 l2 l3).getD [])∧Below w.heap.size w w':=by
 obtain ⟨c1,c2⟩:=yz ((l1++l2++l3).map Prod.fst)
 have hb: ∀ x∈(l1++l2++l3).map Prod.fst,0≤x∧x≤73048:=fun x hx=>by
  obtain ⟨m,hm,rfl⟩:=List.mem_map.1 hx
  rcases List.mem_append.1 hm with q|q
  ·rcases List.mem_append.1 q with q|q
   ·exact (p1.2 m q).1
   ·exact (p2.2 m q).1
  ·exact (p3.2 m q).1
 have z:=zeA v1 v2 v3 l1 l2 l3 _ w h1 h2 h3 hl1 hl2 hl3 (fun x hx=>(hb x hx).1) (fun x hx=>(hb x hx).2) c1 (by
  refine Nat.le_trans (jN _) ?_
  rw [List.length_mergeSort,List.length_map,List.length_append,List.length_append]
  omega) c2
 rw [zk9 p1 p2 p3] at z
 exact z
end Go.Proofs.YtpeafgddbbojaaaGreatDoor
namespace Go.Proofs.YtpeafgddbbojaaaGreatDoor
open Go Go.RowKit Go.Sort Cal
attribute [local go_sem] Oper.semAt_some
theorem xT{W:World}{base:Nat}{e t:TypeId}{size n:Nat}{v:Value}{xs:List Value}{b:Nat}{cs:Array Value}{fr:Nat×Nat}(h:W.ownsRow base e size v n xs)(hb:W.heap[b]? =some (.cells cs t fr))(hne:e≠t):v.ownBlock≠some b:=by
 rcases h.2 with ⟨e1,_⟩|⟨g,cap,cur,hv,_,hh,_⟩
 ·rw [e1];exact fun q=>by cases q
 ·rw [hv]
  intro q
  have:g=b:=Option.some.inj q
  subst this
  rw [hb] at hh
  injection hh with hh
  injection hh with _ hh
  exact hne hh.symm
structure EP(base:Nat)(W:World)(E:EV)(k:Nat)(id ti f:ByteArray)(st lg e c u:Int)(dv kv mv:Value):Prop where
 id:id=E.id
 ti:ti=if 1≤k then E.ti else ⟨#[]⟩
 st:st=if 2≤k then E.st else 0
 lg:lg=if 3≤k then E.lg else 0
 ru:(4≤k∧f=E.f∧e=E.e∧c=E.c∧u=E.u∧Ow base W dv E.ds)∨(k<4∧f=⟨#[]⟩∧e=0∧c=0∧u=0∧dv= .slice none 0 0)
 sk:(5≤k∧Ow base W kv E.sk)∨(k<5∧kv= .slice none 0 0)
 mv:(6≤k∧OwM base W mv E.mv)∨(k<6∧mv= .slice none 0 0)
theorem EP.step{base:Nat}{W W':World}{E:EV}{k:Nat}{id ti f:ByteArray}{st lg e c u:Int}{dv kv mv:Value}(h:EP base W E k id ti f st lg e c u dv kv mv)(hb:Below W.heap.size W W'):EP base W' E k id ti f st lg e c u dv kv mv:=
 ⟨h.id,h.ti,h.st,h.lg,h.ru.imp (fun q=>⟨q.1,q.2.1,q.2.2.1,q.2.2.2.1,q.2.2.2.2.1,zU q.2.2.2.2.2 hb⟩) (fun q=>q),h.sk.imp (fun q=>⟨q.1,zU q.2 hb⟩) (fun q=>q),h.mv.imp (fun q=>⟨q.1,zU q.2 hb⟩) (fun q=>q)⟩
theorem EP.put{base:Nat}{W W':World}{E:EV}{k:Nat}{id ti f:ByteArray}{st lg e c u:Int}{dv kv mv:Value}{B:Nat}{cs:Array Value}{fr:Nat×Nat}(h:EP base W E k id ti f st lg e c u dv kv mv)(hb:W.heap[B]? =some (.cells cs 48 fr))(g:W.grownBy W' (some B)):EP base W' E k id ti f st lg e c u dv kv mv:=
 ⟨h.id,h.ti,h.st,h.lg,h.ru.imp (fun q=>⟨q.1,q.2.1,q.2.2.1,q.2.2.2.1,q.2.2.2.2.1,World.ownsRow.kept q.2.2.2.2.2 g (.inr (xT q.2.2.2.2.2 hb (by decide)))⟩) (fun q=>q),h.sk.imp (fun q=>⟨q.1,World.ownsRow.kept q.2 g (.inr (xT q.2 hb (by decide)))⟩) (fun q=>q),h.mv.imp (fun q=>⟨q.1,World.ownsRow.kept q.2 g (.inr (xT q.2 hb (by decide)))⟩) (fun q=>q)⟩
theorem zmo(E:EV)(hE:EW E)(h20:E.ds.length≤20)(k:Nat)(hk:k<6)(base:Nat)(W:World)(hb:base≤W.heap.size)(id ti f:ByteArray)(st lg e c u:Int)(ra sa ma:Option Addr)(rn rc sn sc mn mc:Nat)(h:EP base W E k id ti f st lg e c u (.slice ra rn rc) (.slice sa sn sc) (.slice ma mn mc)):
  Calls Tryz.prog 52 #[.agg (eW id ti st lg f e ra rn rc c u sa sn sc ma mn mc),.string (zt k),.string (bs (fT E k))] W fun r w'=>
   ∃ (ti' f':ByteArray) (st' lg' e' c' u':Int) (ra' sa' ma':Option Addr) (rn' rc' sn' sc' mn' mc':Nat),r= .returned (.tuple #[.agg (eW id ti' st' lg' f' e' ra' rn' rc' c' u' sa' sn' sc' ma' mn' mc'),.int .i64 0])∧EP base w' E (k+1) id ti' f' st' lg' e' c' u' (.slice ra' rn' rc') (.slice sa' sn' sc') (.slice ma' mn' mc')∧Below W.heap.size W w':=by
 obtain ⟨lk1,lk2,lk3,lk4,lk5,lk6,_⟩:=yX hE.ls
 have hbd:=hE.bd
 match k,hk with
 |0,_=>
  refine Calls.mono (zgk id ti f st lg e c u ra sa ma rn rc sn sc mn mc W (bs (fT E 0))) ?_
  rintro r w' ⟨rfl,hb'⟩
  have z:=h.step hb'
  refine ⟨_,_,_,_,_,_,_,_,_,_,_,_,_,_,_,_,rfl,⟨z.id,?_,by simpa using z.st,by simpa using z.lg,?_,?_,?_⟩,hb'⟩
  ·show bs E.ti.data.toList=_
   rw [if_pos (by omega)]
   exact zev (by rw [ByteArray.toList_eq]) |>.symm
  ·rcases z.ru with q|q
   ·omega
   ·exact .inr ⟨by omega,q.2⟩
  ·rcases z.sk with q|q
   ·omega
   ·exact .inr ⟨by omega,q.2⟩
  ·rcases z.mv with q|q
   ·omega
   ·exact .inr ⟨by omega,q.2⟩
 |1,_=>
  obtain ⟨y,m,d,q1,q2,q3⟩:=jG (n:=E.st) (by unfold bE at hbd;omega) (by unfold bE at hbd;omega)
  have e1:fT E 1=txt y m d:=q3
  rw [e1]
  refine Calls.mono (zgl id ti f st lg e c u ra sa ma rn rc sn sc mn mc W y m d E.st q1 q2) ?_
  rintro r w' ⟨rfl,hb'⟩
  have z:=h.step hb'
  refine ⟨_,_,_,_,_,_,_,_,_,_,_,_,_,_,_,_,rfl,⟨z.id,by simpa using z.ti,by rw [if_pos (by omega)],by simpa using z.lg,?_,?_,?_⟩,hb'⟩
  ·rcases z.ru with q|q
   ·omega
   ·exact .inr ⟨by omega,q.2⟩
  ·rcases z.sk with q|q
   ·omega
   ·exact .inr ⟨by omega,q.2⟩
  ·rcases z.mv with q|q
   ·omega
   ·exact .inr ⟨by omega,q.2⟩
 |2,_=>
  refine Calls.mono (zhX id ti f st lg e c u ra sa ma rn rc sn sc mn mc W E.lg (by unfold bE at hbd;omega) (by unfold bE at hbd;omega)) ?_
  rintro r w' ⟨rfl,hb'⟩
  have z:=h.step hb'
  refine ⟨_,_,_,_,_,_,_,_,_,_,_,_,_,_,_,_,rfl,⟨z.id,by simpa using z.ti,by simpa using z.st,by rw [if_pos (by omega)],?_,?_,?_⟩,hb'⟩
  ·rcases z.ru with q|q
   ·omega
   ·exact .inr ⟨by omega,q.2⟩
  ·rcases z.sk with q|q
   ·omega
   ·exact .inr ⟨by omega,q.2⟩
  ·rcases z.mv with q|q
   ·omega
   ·exact .inr ⟨by omega,q.2⟩
 |3,_=>
  obtain ⟨t,q1,q2⟩:=jH hE.rl
  have e1:fT E 3=yV (rd E.f E.e E.ds E.c E.u) t:=q2
  rw [e1]
  refine Calls.mono (zhW id ti f st lg e c u ra sa ma rn rc sn sc mn mc W E.f E.e E.c E.u E.ds t hE.rl q1 h20) ?_
  rintro r w' ⟨dv,rfl,how,hb'⟩
  have z:=h.step hb'
  obtain ⟨a',c',rfl⟩:=zQ how
  refine ⟨_,_,_,_,_,_,_,_,_,_,_,_,_,_,_,_,rfl,⟨z.id,by simpa using z.ti,by simpa using z.st,by simpa using z.lg,.inl ⟨by omega,rfl,rfl,rfl,rfl,zW how hb⟩,?_,?_⟩,hb'⟩
  ·rcases z.sk with q|q
   ·omega
   ·exact .inr ⟨by omega,q.2⟩
  ·rcases z.mv with q|q
   ·omega
   ·exact .inr ⟨by omega,q.2⟩
 |4,_=>
  refine Calls.mono (zgm id ti f st lg e c u ra sa ma rn rc sn sc mn mc W E.sk (fun d hd=>lk5 d hd) (by omega)) ?_
  rintro r w' ⟨kv,rfl,how,hb'⟩
  have z:=h.step hb'
  obtain ⟨a',c',rfl⟩:=zQ how
  refine ⟨_,_,_,_,_,_,_,_,_,_,_,_,_,_,_,_,rfl,⟨z.id,by simpa using z.ti,by simpa using z.st,by simpa using z.lg,?_,.inl ⟨by omega,zW how hb⟩,?_⟩,hb'⟩
  ·rcases z.ru with q|q
   ·exact .inl ⟨by omega,q.2⟩
   ·omega
  ·rcases z.mv with q|q
   ·omega
   ·exact .inr ⟨by omega,q.2⟩
 |5,_=>
  refine Calls.mono (zgn id ti f st lg e c u ra sa ma rn rc sn sc mn mc W E.mv (fun d hd=>lk6 d hd) (by omega)) ?_
  rintro r w' ⟨kv,rfl,how,hb'⟩
  have z:=h.step hb'
  obtain ⟨a',c',rfl⟩:=zQ how
  refine ⟨_,_,_,_,_,_,_,_,_,_,_,_,_,_,_,_,rfl,⟨z.id,by simpa using z.ti,by simpa using z.st,by simpa using z.lg,?_,?_,.inl ⟨by omega,zW how hb⟩⟩,hb'⟩
  ·rcases z.ru with q|q
   ·exact .inl ⟨by omega,q.2⟩
   ·omega
  ·rcases z.sk with q|q
   ·exact .inl ⟨by omega,q.2⟩
   ·omega
structure REW(w W:World)(b6 bl bf:Nat)(cs:Array Value)(l:List (List UInt8)):Prop where
 z:W.heap[w.heap.size]? =some (.cells #[.string ⟨#[]⟩,.string ⟨#[]⟩,.int .i64 0,.int .i64 0,.string ⟨#[]⟩,.int .i64 0,.slice none 0 0,.int .i64 0,.int .i64 0,.slice none 0 0,.slice none 0 0] 48 (0,0))
 e:W.heap[b6]? =some (.cells cs 48 (0,0))
 cw:CW W bl l
 fw: ∀ i,i<6→W.cell? ⟨bf,i,none⟩=some (.string (zt i))
 b:Below w.heap.size w W
 o:w.heap.size<bl∧bl<b6∧w.heap.size<bf∧bf<b6∧b6<W.heap.size
theorem REW.step{w W W':World}{b6 bl bf:Nat}{cs:Array Value}{l:List (List UInt8)}(h:REW w W b6 bl bf cs l)(hb:Below W.heap.size W W'):REW w W' b6 bl bf cs l:=by
 have ho:=h.o
 exact ⟨(hb.block _ (by omega)).trans h.z,(hb.block _ (by omega)).trans h.e,h.cw.same (hb.block _ (by omega)),fun i hi=>(World.cell?_of_block (a:=⟨bf,i,none⟩) (hb.block _ (by show bf<_;omega))).trans (h.fw i hi),zB h.b hb,by have:=hb.size;omega⟩
theorem REW.put{w W W':World}{b6 bl bf:Nat}{cs cs':Array Value}{l:List (List UInt8)}(h:REW w W b6 bl bf cs l)(g:W.grownBy W' (some b6))(he:W'.heap[b6]? =some (.cells cs' 48 (0,0))):REW w W' b6 bl bf cs' l:=by
 have ho:=h.o
 have ne: ∀ k,k<b6→some k≠some b6:=fun k hk q=>by have:=Option.some.inj q;omega
 exact ⟨(g.block _ (by omega) (ne _ (by omega))).trans h.z,he,h.cw.same (g.block _ (by omega) (ne _ (by omega))),fun i hi=>(World.cell?_of_block (a:=⟨bf,i,none⟩) (g.block _ (by show bf<_;omega) (ne bf (by omega)))).trans (h.fw i hi),zy h.b g (by omega),by have:=g.size;omega⟩
set_option maxHeartbeats 8000000 in
set_option maxRecDepth 100000 in
theorem zcK(E:EV)(w:World)(hE:EW E)(h20:E.ds.length≤20):
  Calls Tryz.prog 26 #[.string (bs (eT E))] w fun r w'=> ∃ sl skv mvv,r= .returned (.tuple #[ev E sl skv mvv,.int .i64 0])∧Ow w.heap.size w' sl E.ds∧Ow w.heap.size w' skv E.sk∧OwM w.heap.size w' mvv E.mv∧Below w.heap.size w w':=by
 have hpc:=zdc hE
 have hpl:(pT E).length=6:=rfl
 have CU:Hid (∀ W:World,Calls Tryz.prog 50 #[.string (bs (eT E)),.int .u8 124] W fun r w'=>Below W.heap.size W w'∧ ∃ v,r= .returned v∧w'.ownsRow W.heap.size 9 1 v 7 ((E.id.data.toList::pT E).map sv)):=fun W=>by
  have z:=xR (bs (eT E)) 124 W (by
   rw [Lib.size_eq,zh]
   have z:=yT (E.id.data.toList::pT E) [124] 1000 (fun y hy=>by
    rcases List.mem_cons.1 hy with rfl|hy
    ·have:=hE.id;unfold zdX at this;rw [←Lib.size_eq];omega
    ·unfold pT at hy
     simp only [List.mem_cons,List.not_mem_nil,or_false] at hy
     rcases hy with rfl|rfl|rfl|rfl|rfl|rfl<;>exact za9 hE h20 _)
   unfold eT
   simp only [List.length_cons,List.length_nil,hpl] at z
   omega)
  rw [zh,hpc] at z
  exact z
 have RF:Hid (∀ W:World,Calls Tryz.prog 51 #[] W fun r w'=>r= .returned (.slice (some ⟨W.heap.size,0,none⟩) 6 6)∧w'=W.alloc vD):=fun W=>jX W
 have PK:Hid (∀ (k:Nat),k<6→ ∀ (W:World),w.heap.size≤W.heap.size→ ∀ (id ti f:ByteArray) (st lg e c u:Int) (ra sa ma:Option Addr) (rn rc sn sc mn mc:Nat),EP w.heap.size W E k id ti f st lg e c u (.slice ra rn rc) (.slice sa sn sc) (.slice ma mn mc)→
  Calls Tryz.prog 52 #[.agg (eW id ti st lg f e ra rn rc c u sa sn sc ma mn mc),.string (zt k),.string (bs (fT E k))] W fun r w'=>
   ∃ (ti' f':ByteArray) (st' lg' e' c' u':Int) (ra' sa' ma':Option Addr) (rn' rc' sn' sc' mn' mc':Nat),r= .returned (.tuple #[.agg (eW id ti' st' lg' f' e' ra' rn' rc' c' u' sa' sn' sc' ma' mn' mc'),.int .i64 0])∧EP w.heap.size w' E (k+1) id ti' f' st' lg' e' c' u' (.slice ra' rn' rc') (.slice sa' sn' sc') (.slice ma' mn' mc')∧Below W.heap.size W w'):=fun k hk W hW id ti f st lg e c u ra sa ma rn rc sn sc mn mc h=>zmo E hE h20 k hk w.heap.size W hW id ti f st lg e c u ra sa ma rn rc sn sc mn mc h
 have HFT:Hid (∀ k (hk:k<6),(E.id.data.toList::pT E)[k+1]'(by rw [List.length_cons,hpl];omega)=fT E k):=fun k hk=>by
  match k,hk with
  |0,_=>rfl
  |1,_=>rfl
  |2,_=>rfl
  |3,_=>rfl
  |4,_=>rfl
  |5,_=>rfl
 have hidb:bs E.id.data.toList=E.id:=(zev (by rw [ByteArray.toList_eq])).symm
 generalize bs (eT E)=s at CU
 go_enter Tryz.func26,Tryz.ntmps26
 have Z0:Hid ((w.alloc (.cells zA 48)).heap[w.heap.size]? =some (.cells zA 48 (0,0))):=zJ _ rfl
 go_upto_region 1 with fail
 have A0:Hid (Below w.heap.size w (w.alloc (.cells zA 48))):=zC _ _
 have S0:Hid ((w.alloc (.cells zA 48)).heap.size=w.heap.size+1):=World.size_alloc _ _
 generalize w.alloc (.cells zA 48)=w1 at Z0 A0 S0 ⊢
 go_upto_region 2 with (go_at_call 50;refine Calls.mono (CU.out _) ?_;rintro r w2 ⟨hb2,v,rfl,hrow⟩;obtain ⟨va,vc,rfl⟩:=zQ hrow;obtain ⟨bl,rfl,hb3,hb4,hcw⟩:=zew hrow (by rw [List.length_cons,hpl]) (by simp))
 go_upto_region 3 with (go_at_call 51;refine Calls.mono (RF.out _) ?_;rintro r w3 ⟨rfl,hq⟩;have hq:=hq.symm;subst hq)
 have hs2:=hb2.size
 have hf2:w1.heap.size≤w2.heap.size:=hs2
 have F3:Hid (∀ i,i<6→(w2.alloc vD).cell? ⟨w2.heap.size,i,none⟩=some (.string (zt i))):=fun i hi=>vE w2 i hi
 have C3:Hid (CW (w2.alloc vD) bl (E.id.data.toList::pT E)):=hcw.same ((zC w2 vD).block _ hb4)
 have B3:Hid (Below w.heap.size w (w2.alloc vD)):=zB A0.out (zB hb2 (zC _ _))
 have Z3:Hid ((w2.alloc vD).heap[w.heap.size]? =some (.cells zA 48 (0,0))):=((zB hb2 (zC w2 vD)).block _ (by have:=S0.out;omega)).trans Z0.out
 have S3:Hid ((w2.alloc vD).heap.size=w2.heap.size+1):=World.size_alloc _ _
 have O3:Hid (w.heap.size<bl∧bl<w2.heap.size∧w.heap.size<w2.heap.size):=by have:=S0.out;show _∧_;omega
 have hc0:(w2.alloc vD).cell? ⟨bl,0,none⟩=some (.string E.id):=by
  have z:=C3.out 0 (by simp)
  rw [←hidb]
  exact z
 clear hb2 hrow hb3 hb4 hcw Z0 A0 S0 CU RF hs2 hf2
 generalize w2.alloc vD=w3 at F3 C3 B3 Z3 S3 hc0 ⊢
 go_upto_region 6 with fail
 have H4:Hid (REW w (w3.alloc (.cells #[.string E.id,.string ⟨#[]⟩,.int .i64 0,.int .i64 0,.string ⟨#[]⟩,.int .i64 0,.slice none 0 0,.int .i64 0,.int .i64 0,.slice none 0 0,.slice none 0 0] 48)) w3.heap.size bl w2.heap.size #[.string E.id,.string ⟨#[]⟩,.int .i64 0,.int .i64 0,.string ⟨#[]⟩,.int .i64 0,.slice none 0 0,.int .i64 0,.int .i64 0,.slice none 0 0,.slice none 0 0] (E.id.data.toList::pT E)):=by
  have hA:=zC w3 (.cells #[.string E.id,.string ⟨#[]⟩,.int .i64 0,.int .i64 0,.string ⟨#[]⟩,.int .i64 0,.slice none 0 0,.int .i64 0,.int .i64 0,.slice none 0 0,.slice none 0 0] 48)
  have h3:=S3.out
  have ho:=O3.out
  exact ⟨(hA.block _ (by omega)).trans Z3.out,zJ _ rfl,C3.out.same (hA.block _ (by omega)),fun i hi=>(World.cell?_of_block (a:=⟨w2.heap.size,i,none⟩) (hA.block _ (by show w2.heap.size<_;omega))).trans (F3.out i hi),zB B3.out hA,by rw [World.size_alloc];omega⟩
 have P4:Hid (EP w.heap.size (w3.alloc (.cells #[.string E.id,.string ⟨#[]⟩,.int .i64 0,.int .i64 0,.string ⟨#[]⟩,.int .i64 0,.slice none 0 0,.int .i64 0,.int .i64 0,.slice none 0 0,.slice none 0 0] 48)) E 0 E.id ⟨#[]⟩ ⟨#[]⟩ 0 0 0 0 0 (.slice none 0 0) (.slice none 0 0) (.slice none 0 0)):=⟨rfl,rfl,rfl,rfl,.inr ⟨by omega,rfl,rfl,rfl,rfl,rfl⟩,.inr ⟨by omega,rfl⟩,.inr ⟨by omega,rfl⟩⟩
 clear hc0 F3 C3 B3 Z3
 generalize w3.alloc (.cells #[.string E.id,.string ⟨#[]⟩,.int .i64 0,.int .i64 0,.string ⟨#[]⟩,.int .i64 0,.slice none 0 0,.int .i64 0,.int .i64 0,.slice none 0 0,.slice none 0 0] 48)=w4 at H4 P4 ⊢
 generalize w3.heap.size=b6 at H4 S3 ⊢
 go_wp2
 go_loopw [7,8,9] (fun iv _ _ wr=> ∃ k:Nat,k≤6∧iv= .int .i64 k∧Hid (∃ (id ti f:ByteArray) (st lg e c u:Int) (ra sa ma:Option Addr) (rn rc sn sc mn mc:Nat),REW w wr b6 bl w2.heap.size (eW id ti st lg f e ra rn rc c u sa sn sc ma mn mc) (E.id.data.toList::pT E)∧EP w.heap.size wr E k id ti f st lg e c u (.slice ra rn rc) (.slice sa sn sc) (.slice ma mn mc))) (fun iv _ _ _=>6 - (intOf iv).toNat)
 case atStart=>exact ⟨0,by omega,rfl,_,_,_,_,_,_,_,_,_,_,_,_,_,_,_,_,_,H4.out,P4.out⟩
 case round=>
  obtain ⟨k,hk,rfl,HX⟩:=hrel
  obtain ⟨id,ti,f,st,lg,e,c,u,ra,sa,ma,rn,rc,sn,sc,mn,mc,hr,hp⟩:=HX.out
  clear HX
  have HR:=hid hr
  have HP:=hid hp
  by_cases hlt:k<6
  ·have PF:Hid (∀ W,Below wr.heap.size wr W→Calls Tryz.prog 52 #[.agg (eW id ti st lg f e ra rn rc c u sa sn sc ma mn mc),.string (zt k),.string (bs (fT E k))] W fun r w'=>
     ∃ (ti' f':ByteArray) (st' lg' e' c' u':Int) (ra' sa' ma':Option Addr) (rn' rc' sn' sc' mn' mc':Nat),r= .returned (.tuple #[.agg (eW id ti' st' lg' f' e' ra' rn' rc' c' u' sa' sn' sc' ma' mn' mc'),.int .i64 0])∧EP w.heap.size w' E (k+1) id ti' f' st' lg' e' c' u' (.slice ra' rn' rc') (.slice sa' sn' sc') (.slice ma' mn' mc')∧Below W.heap.size W w'):=fun W hW=>PK.out k hlt W (Nat.le_trans HR.out.b.size hW.size) id ti f st lg e c u ra sa ma rn rc sn sc mn mc (HP.out.step hW)
   have fk:=hr.fw k hlt
   have lkc:wr.cell? ⟨bl,k+1,none⟩=some (.string (bs (fT E k))):=by
    have z:=hr.cw (k+1) (by rw [List.length_cons,hpl];omega)
    rw [HFT.out k hlt] at z
    exact z
   have g1:(0:Int)≤(k:Int):=by omega
   have g2:(k:Int)<6:=by omega
   have g3:(k:Int)+1<7:=by omega
   have g4:(0:Int)≤(k:Int)+1:=by omega
   have hw1:IntKind.i64.wrap ((k:Int)+1)=(k:Int)+1:=by rw [IntKind.wrap_i64];omega
   have g5:((k:Int)+1).toNat=k+1:=by omega
   generalize zt k=fb at PF fk
   generalize bs (fT E k)=tx at PF lkc
   obtain ⟨x0,x1,x2,x3,x4,x5,x6,x7,x8,x9,x10⟩:=zK hr.e
   clear hr hp
   go_upto_region 9 with fail
   go_cut [8,9] (fun v8 v9 wx=>v9= .int .i64 0∧ ∃ b:Nat,v8= .pointer (some ⟨b,0,none⟩)∧Hid (∃ (ti' f':ByteArray) (st' lg' e' c' u':Int) (ra' sa' ma':Option Addr) (rn' rc' sn' sc' mn' mc':Nat),wx.heap[b]? =some (.cells (eW id ti' st' lg' f' e' ra' rn' rc' c' u' sa' sn' sc' ma' mn' mc') 48 (0,0))∧EP w.heap.size wx E (k+1) id ti' f' st' lg' e' c' u' (.slice ra' rn' rc') (.slice sa' sn' sc') (.slice ma' mn' mc'))∧Hid (Below wr.heap.size wr wx∧wr.heap.size≤b))
   case first=>
    have KS:Hid (∀ W,Below wr.heap.size wr W→Below wr.heap.size wr W∧W.cell? ⟨b6,0,none⟩=some (.string id)∧W.cell? ⟨b6,1,none⟩=some (.string ti)∧W.cell? ⟨b6,2,none⟩=some (.int .i64 st)∧W.cell? ⟨b6,3,none⟩=some (.int .i64 lg)∧W.cell? ⟨b6,4,none⟩=some (.string f)∧W.cell? ⟨b6,5,none⟩=some (.int .i64 e)∧W.cell? ⟨b6,6,none⟩=some (.slice ra rn rc)∧W.cell? ⟨b6,7,none⟩=some (.int .i64 c)∧W.cell? ⟨b6,8,none⟩=some (.int .i64 u)∧W.cell? ⟨b6,9,none⟩=some (.slice sa sn sc)∧W.cell? ⟨b6,10,none⟩=some (.slice ma mn mc)∧W.cell? ⟨w2.heap.size,k,none⟩=some (.string fb)∧W.cell? ⟨bl,k+1,none⟩=some (.string tx)):=fun W hW=>⟨hW,zD x0 hW,zD x1 hW,zD x2 hW,zD x3 hW,zD x4 hW,zD x5 hW,zD x6 hW,zD x7 hW,zD x8 hW,zD x9 hW,zD x10 hW,zD fk hW,zD lkc hW⟩
    go_region_held3 (fun W=>Below wr.heap.size wr W∧W.cell? ⟨b6,0,none⟩=some (.string id)∧W.cell? ⟨b6,1,none⟩=some (.string ti)∧W.cell? ⟨b6,2,none⟩=some (.int .i64 st)∧W.cell? ⟨b6,3,none⟩=some (.int .i64 lg)∧W.cell? ⟨b6,4,none⟩=some (.string f)∧W.cell? ⟨b6,5,none⟩=some (.int .i64 e)∧W.cell? ⟨b6,6,none⟩=some (.slice ra rn rc)∧W.cell? ⟨b6,7,none⟩=some (.int .i64 c)∧W.cell? ⟨b6,8,none⟩=some (.int .i64 u)∧W.cell? ⟨b6,9,none⟩=some (.slice sa sn sc)∧W.cell? ⟨b6,10,none⟩=some (.slice ma mn mc)∧W.cell? ⟨w2.heap.size,k,none⟩=some (.string fb)∧W.cell? ⟨bl,k+1,none⟩=some (.string tx)) ((refine KS.out _ ?_;(first|with_reducible assumption|with_reducible exact zI _|(rw [zX];exact yH hw21 (Nat.le_refl _))|with_reducible exact zB hw21 (zC _ _)|with_reducible exact zB (zC _ _) (zI _))))
     ((go_at_call 52;refine Calls.mono (PF.out _ ?_) ?_;(first|with_reducible exact zI _|with_reducible assumption|with_reducible exact zB (zC _ _) (zI _));rintro r w21 ⟨ti',f',st',lg',e',c',u',ra',sa',ma',rn',rc',sn',sc',mn',mc',rfl,hep,hb21⟩;have HEP:=hid hep;clear hep;have hw21:Below wr.heap.size wr w21:=(by first|with_reducible exact zB (zI _) hb21|with_reducible exact zB (zB (zC _ _) (zI _)) hb21);try (have zb:w21.heap[wr.heap.size]? =some (.cells zA 48 (0,0)):=(hb21.block _ (show wr.heap.size<(wr.alloc _).heap.size from (Nat.lt_of_lt_of_eq (Nat.lt_succ_self _) (World.size_alloc _ _).symm))).trans (zJ (W:=wr) _ rfl);have ZB:Hid (_):=zb;obtain ⟨zc0,zc1,zc2,zc3,zc4,zc5,zc6,zc7,zc8,zc9,zc10⟩:=zK zb;obtain ⟨zf0,zf1,zf2,zf3,zf4,zf5,zf6,zf7,zf8,zf9,zf10⟩:=frz ZB.out;clear zb)))
    all_goals
     go_wp2_with fail
     go_meet
     case rel=>
      first
       |(rw [zX];exact ⟨rfl,_,rfl,⟨_,_,_,_,_,_,_,_,_,_,_,_,_,_,_,_,zk (.string id) (.string ti') (.int .i64 st') (.int .i64 lg') (.string f') (.int .i64 e') (.slice ra' rn' rc') (.int .i64 c') (.int .i64 u') (.slice sa' sn' sc') (.slice ma' mn' mc') ZB.out,HEP.out.put ZB.out (zT _ _ (.string id) (.string ti') (.int .i64 st') (.int .i64 lg') (.string f') (.int .i64 e') (.slice ra' rn' rc') (.int .i64 c') (.int .i64 u') (.slice sa' sn' sc') (.slice ma' mn' mc'))⟩,yH hw21 (Nat.le_refl _),Nat.le_refl _⟩)
       |exact ⟨rfl,w21.heap.size,rfl,⟨_,_,_,_,_,_,_,_,_,_,_,_,_,_,_,_,zJ _ rfl,HEP.out.step (zC _ _)⟩,zB hw21 (zC _ _),hw21.size⟩
   case rest=>
    obtain ⟨rfl,b,rfl,HEL,HBC⟩:=hcut
    obtain ⟨ti',f',st',lg',e',c',u',ra',sa',ma',rn',rc',sn',sc',mn',mc',hblk,hep⟩:=HEL.out
    have HEP:=hid hep
    have HRC:=hid (HR.out.step HBC.out.1)
    clear x0 x1 x2 x3 x4 x5 x6 x7 x8 x9 x10 HEL hep fk lkc PF
    obtain ⟨y0,y1,y2,y3,y4,y5,y6,y7,y8,y9,y10⟩:=zK hblk
    obtain ⟨x0,x1,x2,x3,x4,x5,x6,x7,x8,x9,x10⟩:=zK HRC.out.e
    obtain ⟨f0_,f1_,f2_,f3_,f4_,f5_,f6_,f7_,f8_,f9_,f10_⟩:=frz HRC.out.e
    go_wp2
    rw [zX]
    have G9:=zT wc b6 (.string id) (.string ti') (.int .i64 st') (.int .i64 lg') (.string f') (.int .i64 e') (.slice ra' rn' rc') (.int .i64 c') (.int .i64 u') (.slice sa' sn' sc') (.slice ma' mn' mc')
    refine ⟨⟨k+1,by omega,by go_num,_,_,_,_,_,_,_,_,_,_,_,_,_,_,_,_,_,HRC.out.put G9 (zk (.string id) (.string ti') (.int .i64 st') (.int .i64 lg') (.string f') (.int .i64 e') (.slice ra' rn' rc') (.int .i64 c') (.int .i64 u') (.slice sa' sn' sc') (.slice ma' mn' mc') HRC.out.e),HEP.out.put HRC.out.e G9⟩,?_⟩
    simp [intOf];omega
  ·have hk6:k=6:=by omega
   subst hk6
   have g2:(6:Int)≤((6:Nat):Int):=by omega
   obtain ⟨rfl,q2,q3,q4,q5,q6,q7⟩:=hp
   rw [if_pos (by omega)] at q2 q3 q4
   subst q2 q3 q4
   rcases q5 with ⟨_,rfl,rfl,rfl,rfl,q5⟩|⟨q5,_⟩
   case inr=>omega
   rcases q6 with ⟨_,q6⟩|⟨q6,_⟩
   case inr=>omega
   rcases q7 with ⟨_,q7⟩|⟨q7,_⟩
   case inr=>omega
   have Q5:=hid q5
   have Q6:=hid q6
   have Q7:=hid q7
   have EE:Hid (Calls Tryz.prog 39 #[.agg (eW E.id E.ti E.st E.lg E.f E.e ra rn rc E.c E.u sa sn sc ma mn mc)] wr fun r w'=>r= .returned (.int .i64 0)∧Below wr.heap.size wr w'):=by
    obtain ⟨lk1,lk2,_⟩:=yX hE.ls
    obtain ⟨kr,hkr⟩:=jP E.f E.e E.ds E.c E.u
    exact yx E _ _ _ 0 kr wr (yq q5) (yq q6) (zr q7 (by omega)).2 (by have:=hE.id;unfold zdX at this;omega) (by have:=hE.ti;unfold zfe at this;omega) (by omega) (by omega) hkr (zmM hE) (fun W' hG=>yf E.f E.e _ E.c E.u E.ds kr W' hG h20 hkr)
   obtain ⟨x0,x1,x2,x3,x4,x5,x6,x7,x8,x9,x10⟩:=zK hr.e
   clear hr q5 q6 q7
   go_upto_region 16 with (go_at_call 39;refine Calls.mono EE.out ?_;rintro r w5 ⟨rfl,hb5⟩;have HB5:=hid hb5;clear hb5)
   have HR5:=hid (HR.out.step HB5.out)
   clear x0 x1 x2 x3 x4 x5 x6 x7 x8 x9 x10 EE
   obtain ⟨x0,x1,x2,x3,x4,x5,x6,x7,x8,x9,x10⟩:=zK HR5.out.e
   obtain ⟨t0,t1,t2,t3,t4,t5,t6,t7,t8,t9,t10⟩:=zK HR5.out.z
   obtain ⟨f0_,f1_,f2_,f3_,f4_,f5_,f6_,f7_,f8_,f9_,f10_⟩:=frz HR5.out.z
   go_wp2
   rw [zX]
   have G9:=zT w5 w.heap.size (.string E.id) (.string E.ti) (.int .i64 E.st) (.int .i64 E.lg) (.string E.f) (.int .i64 E.e) (.slice ra rn rc) (.int .i64 E.c) (.int .i64 E.u) (.slice sa sn sc) (.slice ma mn mc)
   have nB:=zk (.string E.id) (.string E.ti) (.int .i64 E.st) (.int .i64 E.lg) (.string E.f) (.int .i64 E.e) (.slice ra rn rc) (.int .i64 E.c) (.int .i64 E.u) (.slice sa sn sc) (.slice ma mn mc) HR5.out.z
   have O5:=World.ownsRow.kept (zU Q5.out HB5.out) G9 (.inr (xT (zU Q5.out HB5.out) HR5.out.z (by decide)))
   have O6:=World.ownsRow.kept (zU Q6.out HB5.out) G9 (.inr (xT (zU Q6.out HB5.out) HR5.out.z (by decide)))
   have O7:=World.ownsRow.kept (zU Q7.out HB5.out) G9 (.inr (xT (zU Q7.out HB5.out) HR5.out.z (by decide)))
   have gB:=zy HR5.out.b G9 (Nat.le_refl _)
   clear x0 x1 x2 x3 x4 x5 x6 x7 x8 x9 x10 t0 t1 t2 t3 t4 t5 t6 t7 t8 t9 t10 f0_ f1_ f2_ f3_ f4_ f5_ f6_ f7_ f8_ f9_ f10_ G9
   generalize yI w5 w.heap.size (.string E.id) (.string E.ti) (.int .i64 E.st) (.int .i64 E.lg) (.string E.f) (.int .i64 E.e) (.slice ra rn rc) (.int .i64 E.c) (.int .i64 E.u) (.slice sa sn sc) (.slice ma mn mc)=w9 at nB O5 O6 O7 gB ⊢
   obtain ⟨c0,c1,c2,c3,c4,c5,c6,c7,c8,c9,c10⟩:=zK nB
   exact bodyPost_ret (v:= .tuple #[.agg (eW E.id E.ti E.st E.lg E.f E.e ra rn rc E.c E.u sa sn sc ma mn mc),.int .i64 0]) (by simp [results,Tryz.f26,go_sem,c0,c1,c2,c3,c4,c5,c6,c7,c8,c9,c10]) rfl ⟨_,_,_,rfl,O5,O6,O7,gB⟩
end Go.Proofs.YtpeafgddbbojaaaGreatDoor
namespace Go.Proofs.YtpeafgddbbojaaaGreatDoor
open Go Go.RowKit Go.Maps Go.Sort Cal
attribute [local go_sem] Oper.semAt_some
noncomputable def zP(E1 E2 E3:EV)(k:Nat):EV where
 id:=E2.id
 ti:=if 1≤k then (jE E1 E2 E3).ti else E2.ti
 st:=if 2≤k then (jE E1 E2 E3).st else E2.st
 lg:=if 3≤k then (jE E1 E2 E3).lg else E2.lg
 f:=if 4≤k then (jE E1 E2 E3).f else E2.f
 e:=if 4≤k then (jE E1 E2 E3).e else E2.e
 ds:=if 4≤k then (jE E1 E2 E3).ds else E2.ds
 c:=if 4≤k then (jE E1 E2 E3).c else E2.c
 u:=if 4≤k then (jE E1 E2 E3).u else E2.u
 sk:=if 5≤k then (jE E1 E2 E3).sk else E2.sk
 mv:=if 6≤k then (jE E1 E2 E3).mv else E2.mv
structure MEL(w W:World)(P:EV)(id ti f:ByteArray)(st lg e c u:Int)(dv kv mv:Value):Prop where
 id:id=P.id
 ti:ti=P.ti
 f:f=P.f
 st:st=P.st
 lg:lg=P.lg
 e:e=P.e
 c:c=P.c
 u:u=P.u
 d:Got w dv P.ds
 s:Got w kv P.sk∨Ow w.heap.size W kv P.sk
 m:GotM w mv P.mv∨OwM w.heap.size W mv P.mv
theorem MEL.step{w W W':World}{P:EV}{id ti f:ByteArray}{st lg e c u:Int}{dv kv mv:Value}(h:MEL w W P id ti f st lg e c u dv kv mv)(hb:Below W.heap.size W W'):MEL w W' P id ti f st lg e c u dv kv mv:=
 ⟨h.id,h.ti,h.f,h.st,h.lg,h.e,h.c,h.u,h.d,h.s.imp (fun q=>q) (fun q=>zU q hb),h.m.imp (fun q=>q) (fun q=>zU q hb)⟩
theorem MEL.put{w W W':World}{P:EV}{id ti f:ByteArray}{st lg e c u:Int}{dv kv mv:Value}{B:Nat}{cs:Array Value}{t:TypeId}{fr:Nat×Nat}(h:MEL w W P id ti f st lg e c u dv kv mv)(hb:W.heap[B]? =some (.cells cs t fr))(ht:3≠t)(ht2:114≠t)(g:W.grownBy W' (some B)):MEL w W' P id ti f st lg e c u dv kv mv:=
 ⟨h.id,h.ti,h.f,h.st,h.lg,h.e,h.c,h.u,h.d,h.s.imp (fun q=>q) (fun q=>World.ownsRow.kept q g (.inr (xT q hb ht))),h.m.imp (fun q=>q) (fun q=>World.ownsRow.kept q g (.inr (xT q hb ht2)))⟩
structure MEW(w W:World)(A1 A2 A3 cs:Array Value):Prop where
 a1:W.heap[w.heap.size]? =some (.cells A1 48 (0,0))
 a2:W.heap[w.heap.size+1]? =some (.cells A2 48 (0,0))
 a3:W.heap[w.heap.size+1+1]? =some (.cells A3 48 (0,0))
 z:W.heap[w.heap.size+1+1+1]? =some (.cells #[.string ⟨#[]⟩,.string ⟨#[]⟩,.int .i64 0,.int .i64 0,.string ⟨#[]⟩,.int .i64 0,.slice none 0 0,.int .i64 0,.int .i64 0,.slice none 0 0,.slice none 0 0] 48 (0,0))
 e:W.heap[w.heap.size+1+1+1+1]? =some (.cells cs 48 (0,0))
 fw: ∀ i,i<6→W.cell? ⟨w.heap.size+1+1+1+1+1,i,none⟩=some (.string (zt i))
 b:Below w.heap.size w W
 s:w.heap.size+6≤W.heap.size
theorem MEW.step{w W W':World}{A1 A2 A3 cs:Array Value}(h:MEW w W A1 A2 A3 cs)(hb:Below W.heap.size W W'):MEW w W' A1 A2 A3 cs:=by
 have hs:=h.s
 exact ⟨(hb.block _ (by omega)).trans h.a1,(hb.block _ (by omega)).trans h.a2,(hb.block _ (by omega)).trans h.a3,(hb.block _ (by omega)).trans h.z,(hb.block _ (by omega)).trans h.e,fun i hi=>(World.cell?_of_block (a:=⟨w.heap.size+1+1+1+1+1,i,none⟩) (hb.block _ (by show w.heap.size+1+1+1+1+1<_;omega))).trans (h.fw i hi),zB h.b hb,Nat.le_trans hs hb.size⟩
theorem MEW.to{w W W':World}{A1 A2 A3 cs cs':Array Value}(h:MEW w W A1 A2 A3 cs)(g:W.grownBy W' (some (w.heap.size+1+1+1+1)))(he:W'.heap[w.heap.size+1+1+1+1]? =some (.cells cs' 48 (0,0))):MEW w W' A1 A2 A3 cs':=by
 have hs:=h.s
 have ne: ∀ k,k≠w.heap.size+1+1+1+1→some k≠some (w.heap.size+1+1+1+1):=fun k hk q=>hk (Option.some.inj q)
 exact ⟨(g.block _ (by omega) (ne _ (by omega))).trans h.a1,(g.block _ (by omega) (ne _ (by omega))).trans h.a2,(g.block _ (by omega) (ne _ (by omega))).trans h.a3,(g.block _ (by omega) (ne _ (by omega))).trans h.z,he,fun i hi=>(World.cell?_of_block (a:=⟨w.heap.size+1+1+1+1+1,i,none⟩) (g.block _ (by show w.heap.size+1+1+1+1+1<_;omega) (ne (w.heap.size+1+1+1+1+1) (by omega)))).trans (h.fw i hi),zy h.b g (by omega),Nat.le_trans hs g.size⟩
theorem MEW.far{w W W':World}{A1 A2 A3 cs:Array Value}{o:Option Nat}(h:MEW w W A1 A2 A3 cs)(g:W.grownBy W' o)(ho: ∀ k,o=some k→w.heap.size+6≤k):MEW w W' A1 A2 A3 cs:=by
 have hs:=h.s
 have ne: ∀ k,k<w.heap.size+6→some k≠o:=fun k hk q=>by have:=ho k q.symm;omega
 exact ⟨(g.block _ (by omega) (ne _ (by omega))).trans h.a1,(g.block _ (by omega) (ne _ (by omega))).trans h.a2,(g.block _ (by omega) (ne _ (by omega))).trans h.a3,(g.block _ (by omega) (ne _ (by omega))).trans h.z,(g.block _ (by omega) (ne _ (by omega))).trans h.e,fun i hi=>(World.cell?_of_block (a:=⟨w.heap.size+1+1+1+1+1,i,none⟩) (g.block _ (by show w.heap.size+1+1+1+1+1<_;omega) (ne (w.heap.size+1+1+1+1+1) (by omega)))).trans (h.fw i hi),⟨g.os.trans h.b.os,g.tape.trans h.b.tape,g.output.trans h.b.output,Nat.le_trans h.b.size g.size,fun k hk=>(g.block k (Nat.lt_of_lt_of_le hk h.b.size) (ne k (by omega))).trans (h.b.block k hk)⟩,Nat.le_trans hs g.size⟩
def NmR(base:Nat)(W:World)(v:Value)(l:List ByteArray):Prop:=W.ownsRow base 9 1 v l.length (l.map Value.string)
theorem zjr(E1 E2 E3:EV)(k:Nat):jCs E1 E2 E3 (k+1)=jCs E1 E2 E3 k++(if (jF E1 E2 E3 k).2 then [] else [zt k]):=by
 unfold jCs
 rw [List.range_succ,List.filter_append,List.map_append]
 congr 1
 cases h:(jF E1 E2 E3 k).2<;>simp [h]
theorem zmp(E1 E2 E3:EV)(k:Nat):(jCs E1 E2 E3 k).length≤k:=by
 unfold jCs
 rw [List.length_map]
 exact Nat.le_trans (List.length_filter_le _ _) (by simp)
theorem zm6(E1 E2 E3:EV)(k:Nat):
  ((pkT (bs (fT E1 k)) (bs (fT E2 k)) (bs (fT E3 k))).2=true∧(((bs (fT E2 k))=bs (fT E1 k)∧bs (fT E3 k)≠bs (fT E2 k))∧xV E1 E2 E3 k=E3)∧(yD (bs (fT E1 k)) (bs (fT E2 k)) (bs (fT E3 k))).isSome=true)∨
  ((pkT (bs (fT E1 k)) (bs (fT E2 k)) (bs (fT E3 k))).2=true∧((¬ ((bs (fT E2 k))=bs (fT E1 k)∧bs (fT E3 k)≠bs (fT E2 k)))∧xV E1 E2 E3 k=E2)∧(yD (bs (fT E1 k)) (bs (fT E2 k)) (bs (fT E3 k))).isSome=true)∨
  ((pkT (bs (fT E1 k)) (bs (fT E2 k)) (bs (fT E3 k))).2=false∧yD (bs (fT E1 k)) (bs (fT E2 k)) (bs (fT E3 k))=none):=by
 unfold pkT xV yD
 generalize bs (fT E1 k)=x
 generalize bs (fT E2 k)=y
 generalize bs (fT E3 k)=z
 by_cases h1:y=z
 ·right;left
  rw [if_pos h1,if_pos (.inl h1),if_pos (.inl h1)]
  exact ⟨rfl,⟨fun q=>q.2 h1.symm,rfl⟩,rfl⟩
 ·by_cases h2:y=x
  ·left
   have h3: ¬ (y=z∨z=x):=fun q=>by rcases q with q|q;exact h1 q;exact h1 (h2.trans q.symm)
   rw [if_neg h1,if_pos h2,if_neg h3,if_neg h3,if_pos h2]
   exact ⟨rfl,⟨⟨h2,fun q=>h1 q.symm⟩,rfl⟩,rfl⟩
  ·by_cases h3:z=x
   ·right;left
    rw [if_neg h1,if_neg h2,if_pos h3,if_pos (.inr h3),if_pos (.inr h3)]
    exact ⟨rfl,⟨fun q=>h2 q.1,rfl⟩,rfl⟩
   ·right;right
    have h4: ¬ (y=z∨z=x):=fun q=>by rcases q with q|q;exact h1 q;exact h3 q
    rw [if_neg h1,if_neg h2,if_neg h3,if_neg h4,if_neg h2]
    exact ⟨rfl,rfl⟩
end Go.Proofs.YtpeafgddbbojaaaGreatDoor
