import Derived.Test.YtpeafgddbbojaaaGreatDoorJqAR
import Derived.Test.YtpeafgddbbojaaaGreatDoorJqAP
import Derived.Test.YtpeafgddbbojaaaGreatDoorJqAA
import Derived.Test.YtpeafgddbbojaaaGreatDoorJqAH
import Derived.Shelf.Abstract
import Derived.Shelf.RegionOpen
import Derived.WalkKit
import Derived.OwnWalkIn
import Derived.TacticsInMore
import Derived.LoopNIn
import Derived.LoopIn
import Derived.Test.YtpeafgddbbojaaaGreatDoorJqAQ
import Derived.Test.YtpeafgddbbojaaaGreatDoorJqAL
import Derived.Deep.RegionHeld3
import Derived.Laws.StructEq
import Derived.Test.YtpeafgddbbojaaaGreatDoorJqAK
import Derived.Test.YtpeafgddbbojaaaGreatDoorJqAC
import Derived.Shelf.Strings.BuilderK
import Derived.Test.YtpeafgddbbojaaaGreatDoorJqAF
import Derived.Laws.AppendOwnNone
import Derived.Test.YtpeafgddbbojaaaGreatDoorJqAN
import Derived.Lib.ItoaLen
namespace Go.Proofs.YtpeafgddbbojaaaGreatDoor
open Go Go.RowKit Cal
theorem zkT{F G:EV}(hF:SW F)(hG:SW G)(k:Nat)(hk:k<6)(h:fT F k=fT G k):fld F k=fld G k:=by
 have kF:=hF.kd
 have mF:=hF.md
 have kG:=hG.kd
 have mG:=hG.md
 match k,hk,h with
 |0,_,h=>
  have e:F.ti=G.ti:=zaO h
  show ((F.ti,_),_,_)=((G.ti,_),_,_)
  rw [e]
 |1,_,h=>
  have e:F.st=G.st:=zcr hF.bd.1 hG.bd.1 h
  show ((_,F.st),_,_)=((_,G.st),_,_)
  rw [e]
 |2,_,h=>
  have e:F.lg=G.lg:=zcR _ _ (by have:=hF.bd.2.1;omega) (by have:=hG.bd.2.1;omega) h
  show ((_,F.lg),_,_)=((_,G.lg),_,_)
  rw [e]
 |3,_,h=>
  obtain ⟨t,ht,e⟩:=jH hF.rl
  obtain ⟨t',ht',e'⟩:=jH hG.rl
  have h':ruT (rd F.f F.e F.ds F.c F.u)=ruT (rd G.f G.e G.ds G.c G.u):=h
  rw [e,e'] at h'
  have hr:=ziy hF.rl hG.rl ht ht' h'
  have e1:F.f.toList=G.f.toList:=congrArg RV.freq hr
  have e2:F.e=G.e:=congrArg RV.every hr
  have e3:F.ds=G.ds:=congrArg RV.days hr
  have e4:F.c=G.c:=congrArg RV.count hr
  have e5:F.u=G.u:=congrArg RV.til hr
  have e6:F.f=G.f:=by
   rw [ByteArray.toList_eq,ByteArray.toList_eq] at e1
   exact zaO e1
  show (_,(F.f,F.e,F.ds,F.c,F.u),_)=(_,(G.f,G.e,G.ds,G.c,G.u),_)
  rw [e2,e3,e4,e5,e6]
 |4,_,h=>
  have e:F.sk=G.sk:=ze7 (fun d=>0≤d∧d≤73048) dtx (fun a b ha hb q=>zcr ha hb q) (fun a ha=>zjL ha.1 ha.2) (fun a=>xK _ _ (by decide)) _ _ kF kG h
  show (_,_,(F.sk,_))=(_,_,(G.sk,_))
  rw [e]
 |5,_,h=>
  have e:F.mv=G.mv:=ze7 (fun m=>(0≤m.1∧m.1≤73048)∧0≤m.2∧m.2≤73048) mtx (fun a b ha hb q=>zkn ha hb q) (fun a _=>zjM a) (fun a=>zcY _ _ (by decide)) _ _ mF mG h
  show (_,_,(_,F.mv))=(_,_,(_,G.mv))
  rw [e]
theorem zmi{E:EV}(h:EW E):SW E:=by
 obtain ⟨k1,m1,_,_,kd,md,_⟩:=yX h.ls
 exact ⟨h.id,h.ti,h.bd,h.rl,by omega,by omega,kd,md⟩
theorem zkU{F G:EV}(hF:SW F)(hG:SW G)(h:eT F=eT G):F=G:=by
 have hp:=congrArg (zZ 124) h
 rw [zas hF,zas hG] at hp
 injection hp with h1 h2
 refine zkm (ziU h1) (fun j hj=>zkT hF hG j hj ?_)
 have:=congrArg (fun l=>l.getD j []) h2
 rwa [ziP F j hj,ziP G j hj] at this
theorem zkV{o p:Option EV}(ho: ∀ E,o=some E→EW E)(hp: ∀ E,p=some E→EW E)(h:eOp o=eOp p):o=p:=by
 cases o with
 |none=>
  cases p with
  |none=>rfl
  |some F=>exact absurd (ze5 (show bs []=bs (eT F) from h)).symm zg4
 |some E=>
  cases p with
  |none=>exact absurd (ze5 (show bs (eT E)=bs [] from h)) zg4
  |some F=>rw [zkU (zmi (ho E rfl)) (zmi (hp F rfl)) (ze5 (show bs (eT E)=bs (eT F) from h))]
theorem zkW(o1 o2:Option EV):jR o1 o2 o2= .inl o2:=zdD (.inl rfl)
theorem zkX(o1 o2:Option EV):jR o1 o2 o1= .inl o2:=zdD (.inr rfl)
theorem zjj{o1 o3:Option EV}(h1: ∀ E,o1=some E→EW E)(h3: ∀ E,o3=some E→EW E):jR o1 o1 o3= .inl o3:=by
 by_cases q:eOp o1=eOp o3∨eOp o3=eOp o1
 ·rw [zdD q,zkV h1 h3 (q.elim id Eq.symm)]
 ·exact zhQ q rfl
theorem zkY(X Y:List EV):((zai X Y).map fun x=>x.data.toList).Pairwise (· < ·):=by
 have h:=(vA (((X.map EV.id)++(Y.map EV.id)).map fun y=>y.data.toList)).1
 unfold zai
 rw [List.map_map]
 exact List.pairwise_map.2 (h.imp (fun {a b} q=>q))
def AllW(X:List EV):Prop:= ∀ E∈X,EW E
theorem AllW.lk{X:List EV}(h:AllW X)(id:ByteArray): ∀ E,lkC X id=some E→EW E:=fun E q=>h E (yM q).1
open Classical in
theorem zbt(L:List ByteArray)(T:List EV)(id:ByteArray):zfT id (T.filter fun E=>decide (E.id∈L))=if id∈L then zfT id T else none:=by
 unfold zfT
 rw [List.find?_filter]
 by_cases h:id∈L
 ·rw [if_pos h]
  congr 1
  funext E
  by_cases e:E.id=id
  ·subst e
   simp [h]
  ·simp [e]
 ·rw [if_neg h,List.find?_eq_none]
  intro E _
  by_cases e:E.id=id
  ·subst e
   simp [h]
  ·simp [e]
open Classical in
theorem zmj{X Y Z T:List EV}{ids:List ByteArray}(hT:Rises T)(h60:T.length≤60)(hnd:ids.Nodup)(hids: ∀ E∈T,E.id∈ids)(h: ∀ id∈ids,jR (lkC X id) (lkC Y id) (lkC Z id)= .inl (lkC T id)):thr X Y Z ids=(T,[]):=by
 have key: ∀ m,m≤ids.length→thr X Y Z (ids.take m)=(T.filter (fun E=>decide (E.id∈ids.take m)),[]):=by
  intro m
  induction m with
  |zero=>intro _;rw [List.take_zero];simp [thr]
  |succ m ih=>
   intro hm
   have hlt:m<ids.length:=hm
   rw [jy X Y Z ids m hlt,ih (by omega),xd,h _ (List.getElem_mem hlt)]
   have hnot:ids[m]∉ids.take m:=fun q=>by
    obtain ⟨i,hi,e⟩:=List.mem_take_iff_getElem.1 q
    have:=(List.getElem_inj hnd).1 e
    omega
   have htk:ids.take (m+1)=ids.take m++[ids[m]]:=List.take_succ_eq_append_getElem hlt
   generalize ids[m]=id at hnot htk ⊢
   have hmem: ∀ x,x∈ids.take (m+1)↔x∈ids.take m∨x=id:=fun x=>by rw [htk,List.mem_append,List.mem_singleton]
   generalize ids.take (m+1)=L' at hmem ⊢
   generalize ids.take m=L at hmem hnot ⊢
   cases hq:lkC T id with
   |none=>
    show (_,_)=(_,_)
    congr 1
    refine List.filter_congr (fun E hE=> ?_)
    have:E.id≠id:=fun q=>zcE hq ⟨E,hE,q⟩
    rw [hmem]
    simp [this]
   |some E=>
    obtain ⟨hE,rfl⟩:=yM hq
    have hlen:(T.filter fun F=>decide (F.id∈L)).length<T.length:=List.length_filter_lt_length_iff_exists.2 ⟨E,hE,by simpa using hnot⟩
    unfold jAp
    dsimp only
    rw [if_neg (fun q=>by have:=q.2;omega)]
    congr 1
    refine zg5 (xo (hT.filter _)) (hT.filter _) (fun x=> ?_)
    rw [ziW (hT.filter _),zbt,zbt]
    by_cases hx:x=E.id
    ·rw [if_pos hx,if_pos ((hmem x).2 (.inr hx)),hx]
     exact (xz hT hE).symm
    ·rw [if_neg hx]
     by_cases hl:x∈L
     ·rw [if_pos hl,if_pos ((hmem x).2 (.inl hl))]
     ·rw [if_neg hl,if_neg (fun q=>((hmem x).1 q).elim hl hx)]
 have:=key ids.length (Nat.le_refl _)
 rw [List.take_length] at this
 rw [this]
 congr 1
 exact List.filter_eq_self.2 (fun E hE=>decide_eq_true (hids E hE))
theorem zhV(X Y Z:List EV)(a:List EV×List (ByteArray×ByteArray))(id:ByteArray)(h:a.1.length≤60):(jSp X Y Z a id).1.length≤60:=by
 rw [xd]
 unfold jAp
 split
 ·exact h
 ·rename_i E _
  split
  ·exact h
  ·rename_i q
   show (jL E a.1).length≤60
   unfold jL
   rw [jl]
   by_cases hx: ∃ F∈a.1,F.id=E.id
   ·have:(woC E.id a.1).length<a.1.length:=by
     obtain ⟨F,hF,e⟩:=hx
     unfold woC
     exact List.length_filter_lt_length_iff_exists.2 ⟨F,hF,by simp [e]⟩
    omega
   ·have h1: ¬ 60≤a.1.length:=fun z=>q ⟨hx,z⟩
    have:(woC E.id a.1).length≤a.1.length:=List.length_filter_le _ _
    omega
 ·exact h
theorem zkZ(X Y Z:List EV)(ids:List ByteArray)(h:ids.length≤120):(thr X Y Z ids).2.length≤1000∧(thr X Y Z ids).1.length≤60:=by
 have key: ∀ m,m≤ids.length→(thr X Y Z (ids.take m)).2.length≤6*m∧(thr X Y Z (ids.take m)).1.length≤60:=by
  intro m
  induction m with
  |zero=>intro _;rw [List.take_zero];exact ⟨Nat.le_refl _,Nat.zero_le _⟩
  |succ m ih=>
   intro hm
   obtain ⟨h1,h2⟩:=ih (by omega)
   rw [jy X Y Z ids m hm]
   refine ⟨?_,zhV X Y Z _ _ h2⟩
   have:=zhS ids[m] (thr X Y Z (ids.take m)) (lkC X ids[m]) (lkC Y ids[m]) (lkC Z ids[m])
   rw [xd]
   omega
 have:=key ids.length (Nat.le_refl _)
 rw [List.take_length] at this
 exact ⟨by omega,this.2⟩
end Go.Proofs.YtpeafgddbbojaaaGreatDoor
namespace Go.Proofs.YtpeafgddbbojaaaGreatDoor
open Go Go.RowKit Go.Shelf Cal
attribute [local go_sem] Oper.semAt_some
def kl:Option EV→Option EV→List Nat
 |some _,some _=>[0,1,2,3,4,5]
 |_,_=>[6]
structure IO(W:World)(be1 be2 nf Bi:Nat)(e1 e2 fo:Array Value)(E1 E2:EV)(a1 a2 a3 b1 b2 b3:Value)(id:ByteArray):Prop where
 k1:W.heap[be1]? =some (.cells e1 48 (0,0))
 k2:W.heap[be2]? =some (.cells e2 48 (0,0))
 kf:W.heap[nf]? =some (.cells fo 9 (0,0))
 ki:W.heap[Bi]? =some (.cells #[.string id] 9 (0,0))
 l1:Ls W E1 a1 a2 a3
 l2:Ls W E2 b1 b2 b3
theorem IO.step{W W':World}{be1 be2 nf Bi:Nat}{e1 e2 fo:Array Value}{E1 E2:EV}{a1 a2 a3 b1 b2 b3:Value}{id:ByteArray}(h:IO W be1 be2 nf Bi e1 e2 fo E1 E2 a1 a2 a3 b1 b2 b3 id)(hb:Below W.heap.size W W'):IO W' be1 be2 nf Bi e1 e2 fo E1 E2 a1 a2 a3 b1 b2 b3 id:=
 ⟨(hb.block _ (Array.getElem?_eq_some_iff.1 h.k1).1).trans h.k1,(hb.block _ (Array.getElem?_eq_some_iff.1 h.k2).1).trans h.k2,(hb.block _ (Array.getElem?_eq_some_iff.1 h.kf).1).trans h.kf,(hb.block _ (Array.getElem?_eq_some_iff.1 h.ki).1).trans h.ki,h.l1.step hb,h.l2.step hb⟩
variable {w w2 W W' : World} {ds : List Nat} {v : Value} {o : List DC}
end Go.Proofs.YtpeafgddbbojaaaGreatDoor
namespace Go.Proofs.YtpeafgddbbojaaaGreatDoor
open Go Go.RowKit Go.Maps Go.Shelf Cal
attribute [local go_sem] Oper.semAt_some
noncomputable def bkT(C:List EV):List UInt8:=C.flatMap fun E=>eT E++[10]
theorem zd4{C:List EV}(h: ∀ E∈C,EW E∧E.ds.length≤20):(bkT C).length≤C.length*10001:=by
 induction C with
 |nil=>simp [bkT]
 |cons E r ih=>
  have h1:=zeY (h E (List.mem_cons_self)).1 (h E (List.mem_cons_self)).2
  have h2:=ih (fun F hF=>h F (List.mem_cons_of_mem _ hF))
  have e:bkT (E::r)=eT E++[10]++bkT r:=rfl
  rw [e,List.length_append,List.length_append,List.length_cons]
  simp only [List.length_cons,List.length_nil]
  omega
theorem ze4(C:List EV)(E:EV):bkT (C++[E])=bkT C++eT E++[10]:=by
 unfold bkT
 rw [List.flatMap_append,List.flatMap_cons,List.flatMap_nil,List.append_nil,List.append_assoc]
theorem zaF{T e:TypeId}{B b:Nat}{l:List Value}{w w':World}(h:Lib.IsBuilderF T e B b l w)(hb:Below w.heap.size w w'):Lib.IsBuilderF T e B b l w':=by
 have key: ∀ p,Lib.BuilderAtF T e B b p l w→Lib.BuilderAtF T e B b p l w':=fun p ⟨h1,v,h2,h3,h4⟩=>⟨h1,v,(hb.block _ (Array.getElem?_eq_some_iff.1 h2).1).trans h2,h3.kept (zO hb none) (by cases v.ownBlock<;>simp),h4⟩
 exact h.imp (key _) (key _)
theorem zjP(B b:Nat)(l:List UInt8)(x:ByteArray)(w:World)(h:Lib.IsBuilderF 105 5 B b (Lib.byteCells l) w)(hlen:l.length+x.size≤140737488355328)(hB:B≤w.heap.size):
  Calls Tryz.prog 56 #[.pointer (some ⟨b,0,none⟩),.string x] w fun r w'=>r= .returned (.tuple #[.int .i64 x.size,.nilIface])∧Lib.IsBuilderF 105 5 B b (Lib.byteCells (l++x.data.toList)) w'∧Below B w w'∧Lib.OthersKept 5 (some b) w w':=by
 refine Calls.mono (Any.Builder_WriteString_k { Tryz.lays156 with } Tryz.Builder_Extra_156 B b (Lib.byteCells l) x w h (by rw [Lib.byteCells_length];exact hlen) hB) ?_
 rintro r w' ⟨rfl,h1,h2,h3⟩
 refine ⟨rfl,.inr ?_,h2,h3⟩
 rw [Lib.byteCells_append,←Lib.strCells_eq]
 exact h1
theorem zkh(B b:Nat)(l:List UInt8)(w:World)(h:Lib.IsBuilderF 105 5 B b (Lib.byteCells l) w)(hB:B≤w.heap.size):
  Calls Tryz.prog 57 #[.pointer (some ⟨b,0,none⟩)] w fun r w'=>r= .returned (.string (bs l))∧Below B w w':=by
 refine Calls.mono (Any.Builder_String_any_k { Tryz.lays156 with } Tryz.Builder_Extra_156 B b l w h hB) ?_
 rintro r w' ⟨rfl,h1,h2,h3⟩
 exact ⟨rfl,h2⟩
theorem zdj{W W':World}{B b cap:Nat}{l:List ByteArray}(h:RowS W B cap l)(hk:Lib.OthersKept 5 (some b) W W')(hne:B≠b):RowS W' B cap l:=by
 obtain ⟨⟨cur,h1,h2,h3⟩,h4⟩:=h
 exact ⟨⟨cur,hk B _ h1 (fun q=>hne (Option.some.inj q)) (fun c fz q=>by injection q with _ q2 _;exact absurd q2 (by decide)),h2,h3⟩,h4⟩
set_option maxHeartbeats 2000000 in
set_option maxRecDepth 100000 in
theorem zki(lo bb n:Nat)(mo:Option Nat)(C:List EV)(s:Nat→Addr)(w:World)(gk:GlobK s w)(g:GlobR w)(h:BookAt lo w bb mo n C)(hn:n≤100000)(hC:C.length≤60):
  Calls Tryz.prog 30 #[.pointer (some ⟨bb,0,none⟩)] w fun r w'=>r= .returned (.string (bs (bkT C)))∧Below w.heap.size w w':=by
 have hbk:=h
 obtain ⟨D,h1,h2,h3,h4⟩:=h
 have hw20: ∀ E∈C,EW E∧E.ds.length≤20:=fun E hE=>(h4.at_ E hE).1
 have AL:=hid (zck bb mo n D w h1)
 have hA:=zC w (.cells #[.pointer none,.slice none 0 0] 105)
 have ID:Hid (Calls _ _ _ _ _):=zgV lo bb n mo C _ (hbk.step hA) hn
 have HBD:Hid (Lib.IsBuilderF 105 5 w.heap.size w.heap.size (Lib.byteCells []) (w.alloc (.cells #[.pointer none,.slice none 0 0] 105))):=Lib.IsBuilderF.of (Lib.fresh_isBuilder _ _ w)
 have HA:Hid (_):=hA
 have hz:(w.alloc (.cells #[.pointer none,.slice none 0 0] 105)).heap.size=w.heap.size+1:=World.size_alloc _ _
 have HZ:Hid (_):=hz
 have HBK:=hid h1
 generalize htx:bs (bkT C)=tx
 have HTX:=hid htx
 clear htx
 have HH:=hid h4
 have HW20:Hid (_):=hw20
 have GK:=hid gk
 have G:=hid g
 have hLn:(bkT C).length≤1000000:=by have:=zd4 hw20;omega
 clear hA hz h1 h4 hw20 gk g hbk
 go_enter Tryz.func30,Tryz.ntmps30
 generalize hw0:w.alloc (.cells #[.pointer none,.slice none 0 0] 105)=w0 at ID HBD HA HZ
 have hL2:(C.map EV.id).length≤80000:=by rw [List.length_map];omega
 go_wp2_with (first
  |(go_at_call 36;refine Calls.mono AL.out ?_;rintro r w' ⟨rfl,hq⟩;have hq:=hq.symm;subst hq)
  |(go_at_call 15;refine Calls.mono ID.out ?_;rintro r w1 ⟨vid,rfl,hrid,hb1⟩;have HRID:=hid hrid;obtain ⟨ia,ic,rfl,_,hcl,_⟩:=hrid.txs hL2))
 have B1:=hid (zB HA.out hb1)
 have HBD1:=hid (zaF HBD.out hb1)
 have hs1:w.heap.size+1≤w1.heap.size:=by rw [←HZ.out];exact hb1.size
 rw [List.length_map] at hcl
 have HROW:Hid (∀ W,Below w1.heap.size w1 W→(C.length=0∨ ∃ ib,ia=some ⟨ib,0,none⟩∧w.heap.size<ib∧RowS W ib ic (C.map EV.id))):=fun W hW=>by
  rcases HRID.out with ⟨q1,q2⟩|⟨ib,cap,q1,q2,q3⟩
  ·left
   have:=congrArg List.length q2
   simpa using this
  ·right
   have hz:=HZ.out
   have e1:ia=some ⟨ib,0,none⟩∧ic=cap:=by
    rw [List.length_map] at q1
    injection q1 with a1 a2 a3
    exact ⟨a1,a3⟩
   exact ⟨ib,e1.1,by omega,by rw [e1.2];exact q3.step hW⟩
 clear AL ID HBD hb1 hrid HRID
 go_loopw [12] (fun i wr=> ∃ m:Nat,m≤C.length∧i= .int .i64 m∧Hid (Below w.heap.size w wr)∧Hid (w.heap.size+1≤wr.heap.size)∧Hid (Lib.IsBuilderF 105 5 w.heap.size w.heap.size (Lib.byteCells (bkT (C.take m))) wr)∧Hid (C.length=0∨ ∃ ib,ia=some ⟨ib,0,none⟩∧w.heap.size<ib∧RowS wr ib ic (C.map EV.id))) (fun i _=>C.length - (intOf i).toNat)
 case atStart=>exact ⟨0,Nat.zero_le _,rfl,B1.out,hs1,HBD1.out,HROW.out _ (Below.refl _ _)⟩
 case round=>
  obtain ⟨m,hm,rfl,HB,HS,HBD,HR⟩:=hrel
  by_cases hlt:m<C.length
  ·obtain ⟨ib,rfl,hib,hrow⟩: ∃ ib,ia=some ⟨ib,0,none⟩∧w.heap.size<ib∧RowS wr ib ic (C.map EV.id):=by
    rcases HR.out with q|q
    ·omega
    ·exact q
   have hcr:=hrow.cell m (by rw [List.length_map];exact hlt)
   rw [List.getElem_map] at hcr
   have hE:C[m]∈C:=List.getElem_mem hlt
   obtain ⟨⟨hw,h20⟩,sl,skv,mvv,q1,q2⟩:=HH.out.at_ C[m] hE
   obtain ⟨i12,_,_,_⟩:=zkf hw
   have q2':=q2.step HB.out
   have ET:=hid (zdd C[m] sl skv mvv s wr (GK.out.step HB.out) (G.out.step HB.out) (q2'.ls h20).d (q2'.ls h20).s (q2'.ls h20).m hw)
   obtain ⟨a1,c1,rfl,_⟩:=q2.d
   obtain ⟨a2,c2,rfl,_⟩:=q2.s
   obtain ⟨a3,c3,rfl,_⟩:=q2.m
   unfold ev at ET q1
   have LK:=ziQ (HBK.out.step HB.out) (show C[m].id.size≤1000 by omega) q1
   have HTK:Hid (bkT (C.take (m+1))=bkT (C.take m)++eT C[m]++[10]):=by
    show _=_
    rw [List.take_succ_eq_append_getElem hlt,ze4]
   have hl1:(bkT (C.take m)).length≤1000000:=by
    have:=zd4 (C:=C.take m) (fun F hF=>HW20.out F (List.mem_of_mem_take hF))
    rw [List.length_take] at this
    omega
   have hl2:(eT C[m]).length≤10000:=zeY hw h20
   have hl2':(bs (eT C[m])).size=(eT C[m]).length:=by rw [Lib.size_eq,zh]
   have HROWr:=hid hrow
   clear HR q1 q2 q2' hw h20 hE hrow
   generalize C[m]=E at hcr ET LK HTK hl2 hl2' i12
   generalize bkT (C.take m)=acc at HBD HTK hl1
   generalize hx:bs (eT E)=x at ET hl2'
   have HX:Hid (x.data.toList=eT E):=by show _=_;rw [←hx,zh]
   clear hx
   have HBW:Hid (∀ (W:World),Below wr.heap.size wr W→Calls Tryz.prog 56 #[.pointer (some ⟨w.heap.size,0,none⟩),.string x] W fun r w'=>r= .returned (.tuple #[.int .i64 x.size,.nilIface])∧Lib.IsBuilderF 105 5 w.heap.size w.heap.size (Lib.byteCells (acc++x.data.toList)) w'∧Below w.heap.size W w'∧Lib.OthersKept 5 (some w.heap.size) W w'):=fun W hW=>zjP w.heap.size w.heap.size acc x W (zaF HBD.out hW) (by omega) (Nat.le_trans (by have:=HS.out;omega) hW.size)
   go_upto_region 7 with (first
    |(go_at_call 45;refine Calls.mono ET.out ?_;rintro r w2 ⟨rfl,hb2⟩;have BW2:=hid (HBW.out w2 hb2);have HB2:=hid hb2)
    |(go_at_call 56;refine Calls.mono BW2.out ?_;rintro r w3 ⟨rfl,hbd3,hb3,hk3⟩))
   have HS3:=hid (Nat.le_trans HS.out (Nat.le_trans HB2.out.size hb3.size))
   have hlx:(acc++x.data.toList).length+(⟨#[10]⟩:ByteArray).size≤140737488355328:=by
    have:(⟨#[10]⟩:ByteArray).size=1:=rfl
    rw [List.length_append,HX.out,this]
    omega
   have BW3:=hid (zjP w.heap.size w.heap.size (acc++x.data.toList) ⟨#[10]⟩ w3 hbd3 hlx (by have:=HS3.out;omega))
   have HB3:Hid (_):=hb3
   have HK3:Hid (_):=hk3
   clear hbd3 hb3 hk3 hlx
   go_wp2_with (go_at_call 56;refine Calls.mono BW3.out ?_;rintro r w4 ⟨rfl,hbd4,hb4,hk4⟩)
   go_roundw
   case rel=>
    have hz:=HS.out
    have hz3:=HS3.out
    have hbb:Below w.heap.size w w3:=⟨HB3.out.os.trans ((zB HB.out HB2.out).os),HB3.out.tape.trans ((zB HB.out HB2.out).tape),HB3.out.output.trans ((zB HB.out HB2.out).output),by omega,fun k hk=>(HB3.out.block k hk).trans ((zB HB.out HB2.out).block k hk)⟩
    have hb4':Below w.heap.size w w4:=⟨hb4.os.trans hbb.os,hb4.tape.trans hbb.tape,hb4.output.trans hbb.output,Nat.le_trans hbb.size hb4.size,fun k hk=>(hb4.block k hk).trans (hbb.block k hk)⟩
    refine ⟨m+1,by omega,by go_num,hb4',Nat.le_trans hz3 hb4.size,?_,.inr ⟨ib,rfl,hib,zdj (zdj (HROWr.out.step HB2.out) HK3.out (by omega)) hk4 (by omega)⟩⟩
    show Lib.IsBuilderF _ _ _ _ (Lib.byteCells (bkT (C.take (m+1)))) w4
    rw [HTK.out,←HX.out]
    exact hbd4
   case measure=>simp [intOf];omega
  ·have hfin:C.take m=C:=List.take_of_length_le (by omega)
   have HBE:Hid (Calls Tryz.prog 57 #[.pointer (some ⟨w.heap.size,0,none⟩)] wr fun r w'=>r= .returned (.string (bs (bkT C)))∧Below w.heap.size wr w'):=by
    have:=HBD.out
    rw [hfin] at this
    exact zkh w.heap.size w.heap.size (bkT C) wr this (by have:=HS.out;omega)
   clear HR HBD hfin
   rw [HTX.out] at HBE
   go_wp2_with (go_at_call 57;refine Calls.mono HBE.out ?_;rintro r w5 ⟨rfl,hb5⟩)
   go_ret
   exact ⟨rfl,⟨hb5.os.trans HB.out.os,hb5.tape.trans HB.out.tape,hb5.output.trans HB.out.output,Nat.le_trans HB.out.size hb5.size,fun k hk=>(hb5.block k hk).trans (HB.out.block k hk)⟩⟩
end Go.Proofs.YtpeafgddbbojaaaGreatDoor
namespace Go.Proofs.YtpeafgddbbojaaaGreatDoor
open Go Go.RowKit Cal
attribute [local go_sem] Oper.semAt_some
end Go.Proofs.YtpeafgddbbojaaaGreatDoor
namespace Go.Proofs.YtpeafgddbbojaaaGreatDoor
open Go Go.RowKit Go.Shelf Cal
attribute [local go_sem] Oper.semAt_some
end Go.Proofs.YtpeafgddbbojaaaGreatDoor
namespace Go.Proofs.YtpeafgddbbojaaaGreatDoor
open Go Go.RowKit Go.Maps Go.Sort Cal
attribute [local go_sem] Oper.semAt_some
structure GlobM(s:Nat→Addr)(w:World):Prop where
 gk:GlobK s w
 gr:GlobR w
theorem GlobM.step{s:Nat→Addr}{w w':World}(g:GlobM s w)(hb:Below w.heap.size w w'):GlobM s w':=⟨g.gk.step hb,g.gr.step hb⟩
def E8:EV:=⟨⟨#[98]⟩,⟨#[]⟩,8,1,⟨#[111,110,99,101]⟩,1,[],0,-1,[],[]⟩
theorem zhq:EW E8:=by
 refine ⟨⟨fun j h=> ?_,by decide,by decide⟩,zd0.ti,⟨by decide,by decide⟩,zd0.rl,by decide⟩
 have h':j<1:=h
 match j,h' with
 |0,_=>show okc 98;left;decide
theorem znl:EvK E8 0:=by
 obtain ⟨k,hk⟩:=vV E8
 have:=(jM hk).2 zhq
 rwa [this] at hk
theorem zjY(E:EV)(hk:EvK E 0)(hi:E.id.size≤60)(ht:E.ti.size≤60)(hd:E.ds=[])(hs:E.sk=[])(hm:E.mv=[])(lo bb:Nat)(s:Nat→Addr)(w:World)(g:GlobK s w)(h:BookAt lo w bb none 0 []):Calls Tryz.prog 12 #[.pointer (some ⟨bb,0,none⟩),ev E (.slice none 0 0) (.slice none 0 0) (.slice none 0 0)] w fun r w'=>r= .returned .nilIface∧PutTo lo w w' bb none 0 [E]:=by
 refine Calls.mono (zkg lo bb 0 none [] E _ _ _ 0 s w g h (by decide) hi ht ⟨by rw [hd];exact Days.nil _ _,by rw [hs];exact Ints.nil _ _,by rw [hm];exact Movs.nil _ _⟩ hk) ?_
 rintro r w' (⟨h,_⟩|⟨_,⟨_,h⟩,_⟩|⟨_,_,rfl,hP⟩)
 ·exact absurd rfl h
 ·exact absurd h (by decide)
 ·exact ⟨rfl,hP⟩
theorem zm1:thr [] [E7] [E8] (zai [E7] [E8])=([E7,E8],[]):=by
 have hR:Rises [E7,E8]:=List.pairwise_cons.2 ⟨fun F hF=>by rw [List.mem_singleton.1 hF];decide,List.pairwise_singleton _ _⟩
 have e7:lkC [E7,E8] E7.id=some E7:=xz hR (by simp)
 have e8:lkC [E7,E8] E8.id=some E8:=xz hR (by simp)
 have a7:lkC [E7] E7.id=some E7:=xz (List.pairwise_singleton _ _) (by simp)
 have a8:lkC [E7] E8.id=none:=zba.2 (by rintro ⟨E,hE,e⟩;rw [List.mem_singleton.1 hE] at e;exact absurd e (by decide))
 have b8:lkC [E8] E8.id=some E8:=xz (List.pairwise_singleton _ _) (by simp)
 have b7:lkC [E8] E7.id=none:=zba.2 (by rintro ⟨E,hE,e⟩;rw [List.mem_singleton.1 hE] at e;exact absurd e (by decide))
 have n0: ∀ id,lkC [] id=none:=fun id=>rfl
 refine zmj hR (by decide) (zbT _ _) (fun E hE=>(jn _ _ _).2 ?_) (fun id hid=> ?_)
 ·rcases List.mem_cons.1 hE with rfl|hE
  ·exact .inl ⟨E7,by simp,rfl⟩
  ·rw [List.mem_singleton.1 hE];exact .inr ⟨E8,by simp,rfl⟩
 ·rcases (jn _ _ _).1 hid with ⟨E,hE,rfl⟩|⟨E,hE,rfl⟩
  ·rw [List.mem_singleton.1 hE,e7,a7,b7,n0]
   exact zkX _ _
  ·rw [List.mem_singleton.1 hE,e8,a8,b8,n0]
   exact zjj (fun E q=>by cases q) (fun E q=>by cases q;exact zhq)
theorem znm(W:World)(x y:ByteArray):Txs (W.alloc (.cells #[.string x,.string y] 9)) (.slice (some ⟨W.heap.size,0,none⟩) 2 2) [x,y]:=by
 refine ⟨_,_,rfl,by simp,by simp,fun j hj=>⟨W.heap.size,rfl,by rw [World.size_alloc];omega,?_⟩⟩
 have h2:j<2:=hj
 match j,h2 with
 |0,_=>show (W.alloc (.cells #[.string x,.string y] 9)).cell? ⟨W.heap.size,0,none⟩=some (.string x);simp
 |1,_=>show (W.alloc (.cells #[.string x,.string y] 9)).cell? ⟨W.heap.size,1,none⟩=some (.string y);simp
theorem BookAt.other{la ba na lb bb nb:Nat}{ma:Option Nat}{C B:List EV}{W W':World}(h:BookAt la W ba ma na C)(hB:BookAt lb W bb none nb B)(hne:ba≠bb)(hk:Kept W W' bb none):BookAt la W' ba ma na C:=by
 obtain ⟨D',hb,_⟩:=hB
 have hbb:W.heap[bb]? =some (.cells #[.map none] 77 (0,0)):=hb.1
 have c0:W.cell? ⟨bb,0,none⟩=some (.map none):=zR hbb
 obtain ⟨D,h1,h2,h3,h4⟩:=h
 refine ⟨D,⟨(hk.block ba (Array.getElem?_eq_some_iff.1 h1.1).1 hne (by simp)).trans h1.1,?_⟩,Nat.le_trans h2 hk.size,h3,h4.up,h4.tidy,h4.size,h4.has,fun E hE=> ?_⟩
 ·cases ma with
  |none=>exact h1.2
  |some mb=>
   obtain ⟨q0,q⟩:=h1.2
   refine ⟨q0,q.kept (row:=some bb) ⟨hk.os,hk.tape,hk.output,hk.size,fun k hkk hn=>hk.block k hkk (fun e=>hn (by rw [e])) (by simp)⟩ (fun e=> ?_)⟩
   obtain ⟨es,clock,hm,_⟩:=q
   have e':mb=bb:=Option.some.inj e
   rw [e',hbb] at hm
   cases hm
 ·obtain ⟨q,sl,skv,mvv,q1,q2⟩:=h4.at_ E hE
  have ne: ∀ {b j:Nat} {x:Int},W.cell? ⟨b,j,none⟩=some (.int .i64 x)→j=0→b≠bb:=fun {b j x} hc hj e=>by
   subst e hj
   rw [c0] at hc
   cases hc
  have hc2: ∀ {b j:Nat} {v:Value},b≠bb→W.cell? ⟨b,j,none⟩=some v→W'.cell? ⟨b,j,none⟩=some v:=fun {b j v} hb hc=>vp hk hc hb (by simp)
  have HI: ∀ {v:Value} {xs:List Int},OffI (zfN la ba ma) W v xs→OffI (zfN la ba ma) W' v xs:=fun {v xs} hO=>by
   obtain ⟨a,c,r1,r2,r3,r4⟩:=hO
   refine ⟨a,c,r1,r2,r3,fun j hj=> ?_⟩
   obtain ⟨b,e,hn,hl,hc⟩:=r4 j hj
   obtain ⟨b',e',_,_,hc'⟩:=r4 0 (by omega)
   have eb:b'=b:=by rw [e] at e';cases e';rfl
   rw [eb] at hc'
   exact ⟨b,e,hn,Nat.lt_of_lt_of_le hl hk.size,hc2 (ne hc' rfl) hc⟩
  have HM: ∀ {v:Value} {xs:List (Int×Int)},OffM (zfN la ba ma) W v xs→OffM (zfN la ba ma) W' v xs:=fun {v xs} hO=>by
   obtain ⟨a,c,r1,r2,r3,r4⟩:=hO
   refine ⟨a,c,r1,r2,r3,fun j hj=> ?_⟩
   obtain ⟨b,e,hn,hl,hc,hd⟩:=r4 j hj
   obtain ⟨b',e',_,_,hc',_⟩:=r4 0 (by omega)
   have eb:b'=b:=by rw [e] at e';cases e';rfl
   rw [eb] at hc'
   exact ⟨b,e,hn,Nat.lt_of_lt_of_le hl hk.size,hc2 (ne hc' (by omega)) hc,hc2 (ne hc' (by omega)) hd⟩
  exact ⟨q,sl,skv,mvv,q1,HI q2.d,HI q2.s,HM q2.m⟩
theorem zhr(pb:Option Addr)(X:List EV)(l2 b2 n2:Nat)(o2:Option Nat)(Y:List EV)(l3 b3 n3:Nat)(o3:Option Nat)(Z T:List EV)(s:Nat→Addr)(w:World)(g:GlobM s w)(h1:GetC w pb X)(hX: ∀ E∈X,EW E∧E.ds.length≤20)(h2:BookAt l2 w b2 o2 n2 Y)(h3:BookAt l3 w b3 o3 n3 Z)(hn2:n2≤70)(hn3:n3≤70)(hy:Y.length≤60)(hz:Z.length≤60)(hT:thr X Y Z (zai Y Z)=(T,[])):
  Calls Tryz.prog 7 #[.pointer pb,.pointer (some ⟨b2,0,none⟩),.pointer (some ⟨b3,0,none⟩)] w fun r w'=> ∃ lt bt mt nt,r= .returned (.tuple #[.pointer (some ⟨bt,0,none⟩),.slice none 0 0])∧BookAt lt w' bt mt nt T∧nt≤1000∧Below w.heap.size w w':=by
 refine (zhU pb X l2 b2 n2 o2 Y l3 b3 n3 o3 Z s w g.gk g.gr h1 hX h2 h3 (by omega) (by omega) hy hz).mono ?_
 rw [hT]
 rintro r w' ⟨hb,⟨_,mo,n,rfl,hB,hn⟩|⟨q,_⟩⟩
 ·exact ⟨_,_,mo,n,rfl,hB,hn,hb⟩
 ·exact absurd rfl q
set_option maxHeartbeats 4000000 in
set_option maxRecDepth 100000 in
theorem zga(s:Nat→Addr)(w:World)(g:GlobM s w):Calls Tryz.prog 4 #[] w fun r w'=>r= .returned (.bool true)∧Below w.heap.size w w':=by
 have NW:Hid (∀ W,_):=fun W=>zal W
 have S7:Hid (∀ W,Calls Tryz.prog 13 #[.string ⟨#[97]⟩,.int .i64 7] W fun r w'=>r= .returned (ev E7 (.slice none 0 0) (.slice none 0 0) (.slice none 0 0))∧Below W.heap.size W w'):=fun W=>zdg _ _ _
 have S8:Hid (∀ W,Calls Tryz.prog 13 #[.string ⟨#[98]⟩,.int .i64 8] W fun r w'=>r= .returned (ev E8 (.slice none 0 0) (.slice none 0 0) (.slice none 0 0))∧Below W.heap.size W w'):=fun W=>zdg _ _ _
 have HG:=hid g
 clear g
 go_enter Tryz.func4,Tryz.ntmps4
 go_upto_region 2 with (go_at_call 11;refine Calls.mono (NW.out w) ?_;rintro r w1 ⟨rfl,hB1,hb1⟩)
 have BA:=hid hB1
 have BW1:=hid hb1
 have HL1:=hid hB1.lt.1
 clear hB1 hb1
 go_upto_region 3 with (go_at_call 11;refine Calls.mono (NW.out w1) ?_;rintro r w2 ⟨rfl,hB2,hb2⟩)
 have BB:=hid hB2
 have BW2:=hid hb2
 have BA2:=hid (BA.out.step hb2)
 clear hB2 hb2 BA
 have hne:w.heap.size≠w1.heap.size:=Nat.ne_of_lt HL1.out
 go_wp2_with fail
 go_at_call 13
 refine Calls.mono (S7.out _) ?_
 rintro r w3 ⟨rfl,hb3⟩
 have BW3:=hid (zB (zB BW1.out BW2.out) hb3)
 have BA3:=hid (BA2.out.step hb3)
 have BB3:=hid (BB.out.step hb3)
 have P3:=hid (zjY E7 zne (by decide) (by decide) rfl rfl rfl w.heap.size w.heap.size s w3 (HG.out.step BW3.out).gk BA3.out)
 clear hb3 BA2 BB BW2
 go_wp2_with fail
 go_at_call 12
 refine Calls.mono P3.out ?_
 rintro r w4 ⟨rfl,mo4,hB4,hK4,hm4⟩
 have BW4:Hid (Below w.heap.size w w4):=hK4.below BW3.out (Nat.le_refl _) (fun m q=>by cases q)
 have BA4:=hid hB4
 have BB4:=hid (BB3.out.other BA3.out (Ne.symm hne) hK4)
 clear hB4 hK4 hm4 BA3 BB3 BW3 P3
 go_wp2_with fail
 go_at_call 13
 refine Calls.mono (S8.out _) ?_
 rintro r w5 ⟨rfl,hb5⟩
 have BW5:=hid (zB BW4.out hb5)
 have BA5:=hid (BA4.out.step hb5)
 have BB5:=hid (BB4.out.step hb5)
 have P5:=hid (zjY E8 znl (by decide) (by decide) rfl rfl rfl w1.heap.size w1.heap.size s w5 (HG.out.step BW5.out).gk BB5.out)
 clear hb5 BA4 BB4 BW4
 go_wp2_with fail
 go_at_call 12
 refine Calls.mono P5.out ?_
 rintro r w6 ⟨rfl,mo6,hB6,hK6,hm6⟩
 have BW6:Hid (Below w.heap.size w w6):=hK6.below BW5.out (Nat.le_of_lt HL1.out) (fun m q=>by cases q)
 have BB6:=hid hB6
 have BA6:=hid (BA5.out.other BB5.out hne hK6)
 clear hB6 hK6 hm6 BA5 BB5 BW5 P5
 go_upto_region 5 with (fail)
 have HTC:Hid (Calls _ _ _ _ _):=zhr none [] w.heap.size w.heap.size (0+1) mo4 [E7] w1.heap.size w1.heap.size (0+1) mo6 [E8] [E7,E8] s w6 (HG.out.step BW6.out) (zjh _) (fun E hE=>absurd hE List.not_mem_nil) BA6.out BB6.out (by decide) (by decide) (by decide) (by decide) zm1
 clear BA6 BB6 S7 S8 NW
 generalize w1.heap.size=ab at*
 go_upto_region 6 with (go_at_call 7;refine Calls.mono HTC.out ?_;rintro r w7 ⟨lt,bt,mo7,n7,rfl,hB7,hn7,hb7⟩)
 have BW7:=hid (zB BW6.out hb7)
 have IT:Hid (Calls _ _ _ _ _):=zgV _ _ _ _ _ w7 hB7 (Nat.le_trans hn7 (by decide))
 clear hb7 hB7 hn7 HTC
 go_wp2_with (first
  |(go_at_call 15;refine Calls.mono IT.out ?_;rintro r w8 ⟨v8,rfl,hr8,hb8⟩;have BW8:=hid (zB BW7.out hb8);have T8:=hid (hr8.txs (by decide));obtain ⟨y1,y2,rfl⟩:=xL hr8;clear hr8 hb8)
  |(go_at_call 14;refine Calls.mono (zaE (T8.out.step (zC _ _)) (znm w8 ⟨#[97]⟩ ⟨#[98]⟩)) ?_;rintro r w9 ⟨rfl,hb9⟩))
 go_ret
 exact ⟨rfl,zB BW8.out (zB (zC _ _) hb9)⟩
end Go.Proofs.YtpeafgddbbojaaaGreatDoor
namespace Go.Proofs.YtpeafgddbbojaaaGreatDoor
open Go Cal
def yO(l:List (List UInt8))(m:Nat):List UInt8:=Lib.join (l.take m) [44]
theorem zeM(l:List (List UInt8)):yO l 0=[]:=rfl
theorem zio(c:UInt8)(x y:List UInt8)(l:List (List UInt8)):Lib.join ((x::l)++[y]) [c]=Lib.join (x::l) [c]++c::y:=by
 rw [List.cons_append,Lib.join_cons,Lib.join_cons]
 unfold Lib.joinTail
 simp
theorem zax(l:List (List UInt8))(h:0<l.length):yO l 1=l[0]:=by
 unfold yO
 rw [List.take_succ_eq_append_getElem h,List.take_zero,List.nil_append,Lib.join_one]
theorem jV(l:List (List UInt8))(m:Nat)(hm:0<m)(h:m<l.length):yO l (m+1)=yO l m++44::l[m]:=by
 unfold yO
 rw [List.take_succ_eq_append_getElem h]
 obtain ⟨x,r,hx⟩: ∃ x r,l.take m=x::r:=by
  cases hq:l.take m with
  |nil=>
   have:(l.take m).length=0:=by rw [hq];rfl
   rw [List.length_take] at this
   omega
  |cons x r=>exact ⟨x,r,rfl⟩
 rw [hx,zio]
theorem zay(l:List (List UInt8))(m:Nat)(h:l.length≤m):yO l m=Lib.join l [44]:=by
 unfold yO
 rw [List.take_of_length_le h]
theorem zaz(l:List (List UInt8))(m K:Nat)(h: ∀ x∈l,x.length≤K):(yO l m).length≤l.length*(K+1):=by
 unfold yO
 have h1:=yT (l.take m) [44] K (fun y hy=>h y (List.mem_of_mem_take hy))
 have h2:(l.take m).length≤l.length:=by rw [List.length_take];omega
 exact Nat.le_trans h1 (Nat.mul_le_mul h2 (by simp))
def dP(ds:List Int)(m:Nat):List UInt8:=if m=0 then [] else 32::yO (ds.map nm) m
theorem zmz(ds:List Int)(h:0<ds.length):dP ds 1=32::nm ds[0]:=by
 unfold dP
 rw [if_neg (by omega),zax _ (by simpa using h),List.getElem_map]
theorem zlh(ds:List Int)(m:Nat)(hm:0<m)(h:m<ds.length):dP ds (m+1)=dP ds m++44::nm ds[m]:=by
 unfold dP
 rw [if_neg (by omega),if_neg (by omega),jV _ m hm (by simpa using h),List.getElem_map]
 simp
theorem zmA(ds:List Int)(m:Nat)(h:ds.length≤20):(dP ds m).length≤100:=by
 unfold dP
 split
 ·simp
 ·have h1:=zaz (ds.map nm) m 2 (fun x hx=>by obtain ⟨d,_,rfl⟩:=List.mem_map.1 hx;rw [nm_len];exact Nat.le_refl _)
  rw [List.length_map] at h1
  simp only [List.length_cons]
  omega
def cP(c:Int):List UInt8:=if c=0 then [] else 32::(xf++32::Lib.itoa c)
def uP(u:Int)(t:List UInt8):List UInt8:=if u= -1 then [] else 32::(vh++32::t)
theorem zgs(r:RV)(t:List UInt8)(h:r.freq≠xO):yV r t=r.freq++32::Lib.itoa r.every++dP r.days r.days.length++cP r.count++uP r.til t:=by
 unfold yV yh
 rw [if_neg h,Lib.join_cons]
 have e1:Lib.joinTail [32] (Lib.itoa r.every::(yJ r++(zu r++zv r t)))=32::Lib.itoa r.every++Lib.joinTail [32] (yJ r)++Lib.joinTail [32] (zu r)++Lib.joinTail [32] (zv r t):=by
  unfold Lib.joinTail
  simp
 have e2:Lib.joinTail [32] (yJ r)=dP r.days r.days.length:=by
  unfold yJ dP
  by_cases hd:r.days=[]
  ·rw [if_pos hd,if_pos (by rw [hd];rfl)];rfl
  ·rw [if_neg hd,if_neg (fun q=>hd (List.length_eq_zero_iff.1 q)),zay _ _ (by simp)]
   unfold Lib.joinTail
   simp
 have e3:Lib.joinTail [32] (zu r)=cP r.count:=by
  unfold zu cP
  split
  ·rfl
  ·unfold Lib.joinTail;simp
 have e4:Lib.joinTail [32] (zv r t)=uP r.til t:=by
  unfold zv uP
  split
  ·rfl
  ·unfold Lib.joinTail;simp
 rw [e1,e2,e3,e4]
 simp
noncomputable def eTo(E:EV)(m:Nat):List UInt8:=E.id.data.toList++Lib.joinTail [124] ((pT E).take m)
theorem zfC(E:EV):eTo E 0=E.id.data.toList:=by unfold eTo;simp [Lib.joinTail]
theorem zfD(E:EV)(m:Nat)(h:m<6):eTo E (m+1)=eTo E m++124::fT E m:=by
 have hm:(pT E)[m]? =some (fT E m):=by
  rw [←ziP E m h]
  have hl:m<(pT E).length:=h
  rw [List.getD_eq_getElem?_getD,List.getElem?_eq_getElem hl]
  rfl
 unfold eTo
 rw [Lib.joinTail_take_succ _ _ _ _ hm]
 simp
theorem zli(E:EV):eTo E 6=eT E:=by
 unfold eTo eT
 rw [Lib.join_cons]
 rfl
theorem zlj{E:EV}(h:EW E)(h20:E.ds.length≤20)(m:Nat)(hm:m≤6):(eTo E m).length≤10000:=by
 rw [←Nat.add_zero m]
 have key: ∀ m,m≤6→(eTo E m).length≤12+m*1001:=by
  intro m
  induction m with
  |zero=>
   intro _
   rw [zfC]
   have:=h.id.2.2
   have e:E.id.data.toList.length=E.id.size:=by rw [Array.length_toList];rfl
   omega
  |succ m ih=>
   intro hm
   rw [zfD E m (by omega),List.length_append,List.length_cons]
   have:=ih (by omega)
   have:=za9 h h20 m
   omega
 have:=key m hm
 simp only [Nat.add_zero]
 omega
end Go.Proofs.YtpeafgddbbojaaaGreatDoor
namespace Go.Proofs.YtpeafgddbbojaaaGreatDoor
open Go.RowKit Cal
theorem zm8(k:Int)(h0:2000≤k)(h1:k≤2199):((dim k 2==29)=true∧yd k=366)∨((dim k 2==29)=false∧yd k=365):=by
 have h:=zcx k h0 h1
 rcases zht k with ⟨_,hl⟩|⟨_,hl⟩
 ·exact Or.inl ⟨by simp;omega,by unfold yd;omega⟩
 ·exact Or.inr ⟨by simp;omega,by unfold yd;omega⟩
theorem zgq(y m d:Int)(w:World)(h:d<1∨dim y m<d):
  Calls Tryz.prog 135 #[.int .i64 y,.int .i64 m,.int .i64 d] w fun e w'=>e= .returned (.tuple #[.int .i64 0,.int .i64 2])∧w'=w:=by
 by_cases h1:d<1
 ·clear h
  go_enter Tryz.func135,Tryz.ntmps135
  go_wp2
  go_ret2
  exact ⟨rfl,rfl⟩
 ·have h2:dim y m<d:=by omega
  clear h
  go_enter Tryz.func135,Tryz.ntmps135
  go_wp2_with (go_at_call 175;refine (monthOf_any _ _ _).mono ?_;rintro e w' ⟨rfl,rfl⟩)
  go_ret2
  exact ⟨rfl,rfl⟩
set_option maxHeartbeats 400000 in
theorem zgr(y m d:Int)(w:World)(h:vld y m d):
  Calls Tryz.prog 135 #[.int .i64 y,.int .i64 m,.int .i64 d] w fun e w'=>e= .returned (.tuple #[.int .i64 (num y m d),.int .i64 0])∧w'=w:=by
 obtain ⟨hy0,hy1,hm0,hm1,hd0,hd1⟩:=h
 have hd31:=(yy y m).2
 go_enter Tryz.func135,Tryz.ntmps135
 go_wp2_with (go_at_call 175;refine (monthOf_any _ _ _).mono ?_;rintro e w' ⟨rfl,rfl⟩)
 go_loop [8,9] (fun n k=> ∃ j:Int,2000≤j∧j≤y∧k= .int .i64 j∧n= .int .i64 (dby j)) (fun _ k=>(y - intOf k).toNat)
 case atStart=>exact ⟨2000,by omega,by omega,rfl,by rw [vv]⟩
 case round=>
  obtain ⟨j,hj0,hj1,rfl,rfl⟩:=hrel
  have hb:=zbY j hj0 (by omega)
  by_cases hlt:j<y
  ·have hs:=vG j
   rcases zm8 j hj0 (by omega) with ⟨h29,hyd⟩|⟨h29,hyd⟩
   ·rw [hyd] at hs
    have HS:Hid (_):=hs
    clear hs hyd
    go_wp2_with (go_at_call 175;refine (monthOf_any _ _ _).mono ?_;rintro e w' ⟨rfl,rfl⟩)
    go_round
    case rel=>exact ⟨j+1,by omega,by omega,rfl,by rw [HS.out];go_num⟩
    case measure=>simp [intOf];omega
   ·rw [hyd] at hs
    have HS:Hid (_):=hs
    clear hs hyd
    go_wp2_with (go_at_call 175;refine (monthOf_any _ _ _).mono ?_;rintro e w' ⟨rfl,rfl⟩)
    go_round
    case rel=>exact ⟨j+1,by omega,by omega,rfl,by rw [HS.out]⟩
    case measure=>simp [intOf];omega
  ·obtain rfl:j=y:=by omega
   go_wp2
   go_loop [8,10] (fun n k=> ∃ i:Int,1≤i∧i≤m∧k= .int .i64 i∧n= .int .i64 (dby j+cum j i)) (fun _ k=>(m - intOf k).toNat)
   case atStart=>exact ⟨1,by omega,by omega,rfl,by rw [zar];go_num⟩
   case round=>
    obtain ⟨i,hi0,hi1,rfl,rfl⟩:=hrel
    have hcb:=zbl j i hi0 (by omega)
    have hdb:=yy j i
    by_cases hlt:i<m
    ·have hs:=xE j i hy0 hy1 hi0 (by omega)
     have HS:Hid (_):=hs
     clear hs
     go_wp2_with (go_at_call 175;refine (monthOf_any _ _ _).mono ?_;rintro e w' ⟨rfl,rfl⟩)
     go_round
     case rel=>exact ⟨i+1,by omega,by omega,rfl,by rw [HS.out];go_num⟩
     case measure=>simp [intOf];omega
    ·obtain rfl:i=m:=by omega
     go_wp2
     go_ret2
     exact ⟨rfl,rfl⟩
set_option maxHeartbeats 1000000 in
theorem zin(n y m d:Int)(w:World)(h:vld y m d)(hn:num y m d=n):
  Calls Tryz.prog 137 #[.int .i64 n] w fun e w'=>e= .returned (.tuple #[.int .i64 y,.int .i64 m,.int .i64 d])∧w'=w:=by
 have hnb:=zhy h
 have hny:=zaZ h
 have hnm:=ju h
 have hdd:d=n - dby y - cum y m+1:=by unfold num at hn;omega
 rw [hn] at hnb hny hnm
 obtain ⟨hy0,hy1,hm0,hm1,hd0,hd1⟩:=h
 have HD:Hid (_):=hdd
 clear hdd hn
 obtain ⟨hn0,hn1⟩:=hnb
 obtain ⟨ha,hb⟩:=hny
 obtain ⟨hc,hd⟩:=hnm
 go_enter Tryz.func137,Tryz.ntmps137
 go_wp2
 go_loop [0,5] (fun r t=> ∃ k:Int,2000≤k∧k≤y∧t= .int .i64 k∧r= .int .i64 (n - dby k)) (fun _ t=>(y - intOf t).toNat)
 case atStart=>exact ⟨2000,by omega,by omega,rfl,by rw [vv];go_num⟩
 case round=>
  obtain ⟨k,hk0,hk1,rfl,rfl⟩:=hrel
  have kb:=zbY k hk0 (by omega)
  have ks:=vG k
  by_cases hlt:k<y
  ·have hm:=vx (k+1) y (by omega)
   rcases zm8 k hk0 (by omega) with ⟨h29,hyd⟩|⟨h29,hyd⟩
   ·rw [hyd] at ks
    have hge:366≤n - dby k:=by omega
    have KS:Hid (_):=ks
    clear ks hyd
    go_wp2_with (go_at_call 175;refine (monthOf_any _ _ _).mono ?_;rintro e w' ⟨rfl,rfl⟩)
    go_round
    case rel=>exact ⟨k+1,by omega,by omega,rfl,by rw [KS.out];go_num⟩
    case measure=>simp [intOf];omega
   ·rw [hyd] at ks
    have hge:365≤n - dby k:=by omega
    have KS:Hid (_):=ks
    clear ks hyd
    go_wp2_with (go_at_call 175;refine (monthOf_any _ _ _).mono ?_;rintro e w' ⟨rfl,rfl⟩)
    go_round
    case rel=>exact ⟨k+1,by omega,by omega,rfl,by rw [KS.out];go_num⟩
    case measure=>simp [intOf];omega
  ·obtain rfl:k=y:=by omega
   rcases zm8 k hk0 (by omega) with ⟨h29,hyd⟩|⟨h29,hyd⟩
   ·rw [hyd] at ks
    have hl:n - dby k<366:=by omega
    clear ks hlt hyd
    go_wp2_with (go_at_call 175;refine (monthOf_any _ _ _).mono ?_;rintro e w' ⟨rfl,rfl⟩)
    go_loop [0,7] (fun r t=> ∃ i:Int,1≤i∧i≤m∧t= .int .i64 i∧r= .int .i64 (n - dby k - cum k i)) (fun _ t=>(m - intOf t).toNat)
    case atStart=>exact ⟨1,by omega,by omega,rfl,by rw [zar];go_num⟩
    case round=>
     obtain ⟨i,hi0,hi1,rfl,rfl⟩:=hrel
     have ib:=zbl k i hi0 (by omega)
     have id:=yy k i
     have is:=xE k i hy0 hy1 hi0 (by omega)
     by_cases hlt:i<m
     ·have hm:=vy k (i+1) m (by omega) (by omega)
      have hge:dim k i≤n - dby k - cum k i:=by omega
      have IS:Hid (_):=is
      clear is
      go_wp2_with (go_at_call 175;refine (monthOf_any _ _ _).mono ?_;rintro e w' ⟨rfl,rfl⟩)
      go_round
      case rel=>exact ⟨i+1,by omega,by omega,rfl,by rw [IS.out];go_num⟩
      case measure=>simp [intOf];omega
     ·obtain rfl:i=m:=by omega
      have hl:n - dby k - cum k i<dim k i:=by omega
      clear is hlt
      go_wp2_with (go_at_call 175;refine (monthOf_any _ _ _).mono ?_;rintro e w' ⟨rfl,rfl⟩)
      go_ret3
      exact ⟨by rw [HD.out];rfl,rfl⟩
   ·rw [hyd] at ks
    have hl:n - dby k<365:=by omega
    clear ks hlt hyd
    go_wp2_with (go_at_call 175;refine (monthOf_any _ _ _).mono ?_;rintro e w' ⟨rfl,rfl⟩)
    go_loop [0,7] (fun r t=> ∃ i:Int,1≤i∧i≤m∧t= .int .i64 i∧r= .int .i64 (n - dby k - cum k i)) (fun _ t=>(m - intOf t).toNat)
    case atStart=>exact ⟨1,by omega,by omega,rfl,by rw [zar];go_num⟩
    case round=>
     obtain ⟨i,hi0,hi1,rfl,rfl⟩:=hrel
     have ib:=zbl k i hi0 (by omega)
     have id:=yy k i
     have is:=xE k i hy0 hy1 hi0 (by omega)
     by_cases hlt:i<m
     ·have hm:=vy k (i+1) m (by omega) (by omega)
      have hge:dim k i≤n - dby k - cum k i:=by omega
      have IS:Hid (_):=is
      clear is
      go_wp2_with (go_at_call 175;refine (monthOf_any _ _ _).mono ?_;rintro e w' ⟨rfl,rfl⟩)
      go_round
      case rel=>exact ⟨i+1,by omega,by omega,rfl,by rw [IS.out];go_num⟩
      case measure=>simp [intOf];omega
     ·obtain rfl:i=m:=by omega
      have hl:n - dby k - cum k i<dim k i:=by omega
      clear is hlt
      go_wp2_with (go_at_call 175;refine (monthOf_any _ _ _).mono ?_;rintro e w' ⟨rfl,rfl⟩)
      go_ret3
      exact ⟨by rw [HD.out];rfl,rfl⟩
set_option maxRecDepth 100000 in
theorem zfB(n:Int)(w:World)(h0:48≤n)(h1:n≤57):
  Calls Tryz.prog 176 #[.int .i64 n] w fun e w'=>e= .returned (.string ⟨#[dgt (n - 48)]⟩)∧Below w.heap.size w w':=by
 have hcv:=run_convert_bytes_arg (P:=Tryz.prog) (w.alloc (.cells #[.int .u8 n] 5)) 103 5 Tryz.underlying103 Tryz.underlying5 w.heap.size 0 1 1 [n] rfl (fun i hi=>by
  obtain rfl:i=0:=by omega
  simp) 9 Tryz.underlying9
 have hs:strOfNums [n]=⟨#[dgt (n - 48)]⟩:=by
  unfold strOfNums dgt
  have e:n.toNat=48+(n - 48).toNat:=by omega
  simp [e]
 rw [hs] at hcv
 clear hs
 go_enter Tryz.func176,Tryz.ntmps176
 go_wp2
 go_ret
 exact ⟨rfl,(Below.refl _ _).alloc (Nat.le_refl _) _⟩
theorem zil(u:Nat): ∀ (w:World),u≤9999→
  Calls Tryz.prog 139 #[.int .i64 (-(u:Int))] w fun e w'=>e= .returned (.string ⟨(Lib.decDigits u).toArray⟩)∧Below w.heap.size w w':=by
 induction u using Nat.strongRecOn with
 |ind u ih=>
  intro w hu
  by_cases h10:u<10
  ·have HD:Hid (Lib.decDigits u=[dgt (48+(u:Int) - 48)]):=by
    show _=_
    rw [Lib.decDigits_one h10];unfold dgt
    have e:((48:Int)+(u:Int) - 48).toNat=u:=by omega
    rw [e]
   clear ih
   go_enter Tryz.func139,Tryz.ntmps139
   go_wp2_with fail
   go_at_call 176
   refine (zfB _ _ (by omega) (by omega)).mono ?_
   rintro e w' ⟨rfl,hb⟩
   go_wp2
   go_ret
   exact ⟨yi (by rw [HD.out]),hb⟩
  ·have hc:=fun w=>ih (u / 10) (by omega) w (by omega)
   have e:((u / 10:Nat):Int)=(u:Int) / 10:=by omega
   rw [e] at hc
   have HC:Hid (_):=hc
   have HD:Hid (Lib.decDigits u=Lib.decDigits (u / 10)++[dgt (48+(u:Int) % 10 - 48)]):=by
    show _=_
    rw [Lib.decDigits,dif_neg h10];unfold dgt
    have e:((48:Int)+(u:Int) % 10 - 48).toNat=u % 10:=by omega
    rw [e]
   have hl:(Lib.decDigits (u / 10)).length≤21:=by
    have:=Lib.itoa_length_le ((u / 10:Nat):Int) (by omega) (by omega)
    rw [Lib.itoa_nonneg] at this
    exact this
   clear hc e ih
   go_enter Tryz.func139,Tryz.ntmps139
   go_wp2_with fail
   go_at_call 139
   refine (HC.out _).mono ?_
   rintro e w1 ⟨rfl,k1⟩
   go_wp2_with fail
   go_at_call 176
   refine (zfB _ _ (by omega) (by omega)).mono ?_
   rintro e w2 ⟨rfl,k2⟩
   go_wp2
   go_ret
   exact ⟨yi (by rw [HD.out];exact ByteArray.mk_append_mk _ [_]),zB k1 k2⟩
theorem vK(u:Nat)(w:World)(hu:u≤9999):
  Calls Tryz.prog 86 #[.int .i64 (u:Int)] w fun e w'=>e= .returned (.string ⟨(Lib.decDigits u).toArray⟩)∧Below w.heap.size w w':=by
 go_enter Tryz.func86,Tryz.ntmps86
 go_wp2_with fail
 go_at_call 139
 refine (zil u _ hu).mono ?_
 rintro e w1 ⟨rfl,k1⟩
 go_wp2
 go_ret
 exact ⟨rfl,k1⟩
theorem zim(k:Int)(w:World)(h0:0≤k)(h1:k<100):
  Calls Tryz.prog 138 #[.int .i64 k] w fun e w'=>e= .returned (.string ⟨(two k).toArray⟩)∧Below w.heap.size w w':=by
 obtain ⟨u,rfl⟩: ∃ u:Nat,k=u:=⟨k.toNat,by omega⟩
 by_cases hu:u<10
 ·have ht:=ziH u hu
  have hl:(Lib.decDigits u).length=1:=by rw [Lib.decDigits_one hu];rfl
  have HT:Hid (_):=ht
  clear ht
  go_enter Tryz.func138,Tryz.ntmps138
  go_wp2_with (go_at_call 86;refine (vK u _ (by omega)).mono ?_;rintro e w' ⟨rfl,hb⟩)
  go_ret
  exact ⟨yi (by rw [←HT.out];exact ByteArray.mk_append_mk [48] _),hb⟩
 ·have ht:=ziI u hu (by omega)
  have HT:Hid (_):=ht
  clear ht
  go_enter Tryz.func138,Tryz.ntmps138
  go_wp2_with (go_at_call 86;refine (vK u _ (by omega)).mono ?_;rintro e w' ⟨rfl,hb⟩)
  go_ret
  exact ⟨yi (by rw [←HT.out]),hb⟩
theorem zca(n y m d:Int)(w:World)(h:vld y m d)(hn:num y m d=n):
  Calls Tryz.prog 85 #[.int .i64 n] w fun e w'=>e= .returned (.string ⟨(txt y m d).toArray⟩)∧Below w.heap.size w w':=by
 have hnb:=zhy h
 rw [hn] at hnb
 obtain ⟨hn0,hn1⟩:=hnb
 have hh:=h
 obtain ⟨hy0,hy1,hm0,hm1,hd0,hd1⟩:=hh
 have hd31:=(yy y m).2
 have hl4:=four_length y
 have hl2:=jD m
 have hl3:=jD d
 have hdec: ∀ w,Calls Tryz.prog 86 #[.int .i64 y] w fun e w'=>e= .returned (.string ⟨(four y).toArray⟩)∧Below w.heap.size w w':=by
  intro w
  obtain ⟨u,rfl⟩: ∃ u:Nat,y=u:=⟨y.toNat,by omega⟩
  have:=vK u w (by omega)
  rw [←Lib.itoa_nonneg,zdW _ (by omega) (by omega)] at this
  exact this
 have HD:Hid (_):=hdec
 clear hdec
 go_enter Tryz.func85,Tryz.ntmps85
 go_wp2_with (first
  |(go_at_call 68;refine (isDayR_yes _ _ hn0 hn1).mono ?_;rintro e w' ⟨rfl,rfl⟩)
  |(go_at_call 137;refine (zin n y m d _ h hn).mono ?_;rintro e w' ⟨rfl,rfl⟩)
  |(go_at_call 86;refine (HD.out _).mono ?_;rintro e w1 ⟨rfl,k1⟩)
  |(go_at_call_of 138 (Value.int .i64 m);refine (zim m _ (by omega) (by omega)).mono ?_;rintro e w2 ⟨rfl,k2⟩)
  |(go_at_call_of 138 (Value.int .i64 d);refine (zim d _ (by omega) (by omega)).mono ?_;rintro e w3 ⟨rfl,k3⟩))
 go_ret
 exact ⟨yi (by unfold txt;simp [ByteArray.mk_append_mk]),zB k1 (zB k2 k3)⟩
end Go.Proofs.YtpeafgddbbojaaaGreatDoor
