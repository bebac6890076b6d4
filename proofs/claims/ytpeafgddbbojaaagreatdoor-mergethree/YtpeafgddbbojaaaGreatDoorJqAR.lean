import Derived.Test.YtpeafgddbbojaaaGreatDoorJqAQ
import Derived.Test.YtpeafgddbbojaaaGreatDoorJqAA
import Derived.Test.YtpeafgddbbojaaaGreatDoorJqAP
import Derived.Test.YtpeafgddbbojaaaGreatDoorJqAM
namespace Go.Proofs.YtpeafgddbbojaaaGreatDoor
open Go Go.RowKit Go.Maps Go.Sort Cal
open Classical in
noncomputable def xV(E1 E2 E3:EV)(k:Nat):EV:=if bs (fT E2 k)=bs (fT E3 k)∨bs (fT E3 k)=bs (fT E1 k) then E2 else E3
theorem zat(E1 E2 E3:EV)(k:Nat):xV E1 E2 E3 k=E2∨xV E1 E2 E3 k=E3:=by
 unfold xV
 split
 ·exact .inl rfl
 ·exact .inr rfl
theorem zjd{E1 E2 E3:EV}{k:Nat}{t:ByteArray}(h:yD (bs (fT E1 k)) (bs (fT E2 k)) (bs (fT E3 k))=some t):t=bs (fT (xV E1 E2 E3 k) k):=by
 unfold yD at h
 unfold xV
 split at h
 ·rename_i q
  rw [if_pos q]
  exact (Option.some.inj h).symm
 ·rename_i q
  rw [if_neg q]
  split at h
  ·exact (Option.some.inj h).symm
  ·cases h
noncomputable def jE(E1 E2 E3:EV):EV where
 id:=E1.id
 ti:=(xV E1 E2 E3 0).ti
 st:=(xV E1 E2 E3 1).st
 lg:=(xV E1 E2 E3 2).lg
 f:=(xV E1 E2 E3 3).f
 e:=(xV E1 E2 E3 3).e
 ds:=(xV E1 E2 E3 3).ds
 c:=(xV E1 E2 E3 3).c
 u:=(xV E1 E2 E3 3).u
 sk:=if (yD (bs (fT E1 4)) (bs (fT E2 4)) (bs (fT E3 4))).isSome then (xV E1 E2 E3 4).sk else jSk E1.sk E2.sk E3.sk
 mv:=if (yD (bs (fT E1 5)) (bs (fT E2 5)) (bs (fT E3 5))).isSome then (xV E1 E2 E3 5).mv else (jMv E1.mv E2.mv E3.mv).getD []
theorem zeu{E1 E2 E3:EV}{k:Nat}{t:ByteArray}(h:yD (bs (fT E1 k)) (bs (fT E2 k)) (bs (fT E3 k))=some t):jF E1 E2 E3 k=(t,true):=by unfold jF;rw [h]
theorem zje(E1 E2 E3:EV)(k:Nat)(hk:k<6)(h:(jF E1 E2 E3 k).2=true):bs (fT (jE E1 E2 E3) k)=(jF E1 E2 E3 k).1:=by
 cases hz:yD (bs (fT E1 k)) (bs (fT E2 k)) (bs (fT E3 k)) with
 |some t=>
  rw [zeu hz,zjd hz]
  match k,hk with
  |0,_=>rfl
  |1,_=>rfl
  |2,_=>rfl
  |3,_=>rfl
  |4,_=>show bs (Lib.join (List.map dtx (jE E1 E2 E3).sk) [44])=bs (Lib.join (List.map dtx (xV E1 E2 E3 4).sk) [44]);unfold jE;dsimp only;rw [hz];rfl
  |5,_=>show bs (Lib.join (List.map mtx (jE E1 E2 E3).mv) [44])=bs (Lib.join (List.map mtx (xV E1 E2 E3 5).mv) [44]);unfold jE;dsimp only;rw [hz];rfl
 |none=>
  unfold jF at h ⊢
  rw [hz] at h ⊢
  dsimp only at h ⊢
  by_cases h4:k=4
  ·subst h4
   rw [if_pos rfl]
   show bs (Lib.join (List.map dtx (jE E1 E2 E3).sk) [44])=_
   unfold jE;dsimp only;rw [hz];rfl
  ·rw [if_neg h4] at h ⊢
   by_cases h5:k=5
   ·subst h5
    rw [if_pos rfl]
    show bs (Lib.join (List.map mtx (jE E1 E2 E3).mv) [44])=_
    unfold jE;dsimp only;rw [hz];rfl
   ·rw [if_neg h5] at h
    cases h
theorem zkQ{E1 E2 E3:EV}(h:jCs E1 E2 E3 6=[]):Lib.join ((jTs E1 E2 E3 6).map fun b=>b.data.toList) [124]=eT (jE E1 E2 E3):=by
 have hall: ∀ k,k<6→(jF E1 E2 E3 k).1.data.toList=fT (jE E1 E2 E3) k:=fun k hk=>by
  have h2:(jF E1 E2 E3 k).2=true:=by
   cases hq:(jF E1 E2 E3 k).2 with
   |true=>rfl
   |false=>
    have:zt k∈jCs E1 E2 E3 6:=List.mem_map.2 ⟨k,List.mem_filter.2 ⟨List.mem_range.2 hk,by rw [hq];rfl⟩,rfl⟩
    rw [h] at this
    cases this
  rw [←zje E1 E2 E3 k hk h2]
  rfl
 have e:(jTs E1 E2 E3 6).map (fun b=>b.data.toList)=(jE E1 E2 E3).id.data.toList::pT (jE E1 E2 E3):=by
  show E1.id.data.toList::[(jF E1 E2 E3 0).1.data.toList,(jF E1 E2 E3 1).1.data.toList,(jF E1 E2 E3 2).1.data.toList,(jF E1 E2 E3 3).1.data.toList,(jF E1 E2 E3 4).1.data.toList,(jF E1 E2 E3 5).1.data.toList]=E1.id.data.toList::[fT (jE E1 E2 E3) 0,fT (jE E1 E2 E3) 1,fT (jE E1 E2 E3) 2,fT (jE E1 E2 E3) 3,fT (jE E1 E2 E3) 4,fT (jE E1 E2 E3) 5]
  rw [hall 0 (by omega),hall 1 (by omega),hall 2 (by omega),hall 3 (by omega),hall 4 (by omega),hall 5 (by omega)]
 rw [e]
 rfl
theorem zmg{E1 E2 E3:EV}(h1:EW E1)(h2:EW E2)(h3:EW E3):SW (jE E1 E2 E3):=by
 have hp: ∀ k,EW (xV E1 E2 E3 k):=fun k=>by
  rcases zat E1 E2 E3 k with q|q<;>rw [q]
  ·exact h2
  ·exact h3
 obtain ⟨k2,m2,_,_,kd2,md2,_⟩:=yX h2.ls
 obtain ⟨k3,m3,_,_,kd3,md3,_⟩:=yX h3.ls
 refine ⟨h1.id,(hp 0).ti,⟨(hp 1).bd.1,(hp 2).bd.2⟩,(hp 3).rl,?_,?_,?_,?_⟩
 ·unfold jE;dsimp only
  split
  ·have:=(yX (hp 4).ls).1;omega
  ·have:=zeq E1.sk E2.sk E3.sk;omega
 ·unfold jE;dsimp only
  split
  ·have:=(yX (hp 5).ls).2.1;omega
  ·have:=zcD E1.mv E2.mv E3.mv;omega
 ·unfold jE;dsimp only
  split
  ·exact (yX (hp 4).ls).2.2.2.2.1
  ·intro x hx
   rcases zeo _ _ x (List.mem_filter.1 hx).1 with q|q
   ·exact kd2 x q
   ·exact kd3 x q
 ·unfold jE;dsimp only
  split
  ·exact (yX (hp 5).ls).2.2.2.2.2.1
  ·cases hq:jMv E1.mv E2.mv E3.mv with
   |none=>intro m hm;simp at hm
   |some q=>exact (zdC E1.mv E2.mv E3.mv _ md2 md3 _ [] q (fun m hm=>absurd hm (by simp)) hq).1
theorem zkR{E1 E2 E3:EV}(h2:E2.ds.length≤20)(h3:E3.ds.length≤20):(jE E1 E2 E3).ds.length≤20:=by
 show (xV E1 E2 E3 3).ds.length≤20
 rcases zat E1 E2 E3 3 with q|q<;>rw [q]
 ·exact h2
 ·exact h3
end Go.Proofs.YtpeafgddbbojaaaGreatDoor
namespace Go.Proofs.YtpeafgddbbojaaaGreatDoor
open Go Go.RowKit Go.Maps Go.Sort Cal
attribute [local go_sem] Oper.semAt_some
set_option maxHeartbeats 2000000 in
set_option maxRecDepth 100000 in
theorem zhL(bb:Nat)(E:EV)(s:Nat→Addr)(w:World)(gk:GlobK s w)(g:GlobR w)(hE:SW E)(hn: ¬ EW E)(h20:E.ds.length≤20)(hne:eT E≠[]):
  Calls Tryz.prog 21 #[.pointer (some ⟨bb,0,none⟩),.string (bs (eT E))] w fun r w'=> ∃ p,r= .returned (.iface 269 (.pointer (some p)))∧Below w.heap.size w w':=by
 obtain ⟨k,hk⟩:=vV E
 have hk0:k≠0:=fun q=>by
  subst q
  exact hn ((jM hk).1 rfl)
 obtain ⟨p,hp⟩:=zbb (s:=s) hk0
 have RE:=zhK E s w gk g hE k hk hk0 h20
 rw [hp] at RE
 unfold zV at RE
 have HRE:=hid RE
 have e0:((bs (eT E)).toList==[])=false:=zhI hne
 generalize bs (eT E)=tx at HRE e0 ⊢
 clear RE gk g hne hE hn hk hk0 hp
 go_enter Tryz.func21,Tryz.ntmps21
 go_wp2_with (go_at_call 47;refine Calls.mono HRE.out ?_;rintro r w1 ⟨rfl,hb1⟩)
 go_ret
 exact ⟨p,rfl,zB hb1 (zC _ _)⟩
end Go.Proofs.YtpeafgddbbojaaaGreatDoor
namespace Go.Proofs.YtpeafgddbbojaaaGreatDoor
open Go Cal
def zfT(id:ByteArray)(C:List EV):Option EV:=C.find? fun E=>decide (E.id=id)
theorem jm{id:ByteArray}{C:List EV}{E:EV}(h:zfT id C=some E):E∈C∧E.id=id:=by
 refine ⟨List.mem_of_find?_eq_some h,?_⟩
 have:=List.find?_some h
 exact of_decide_eq_true this
theorem xz{C:List EV}(h:Rises C){E:EV}(hE:E∈C):zfT E.id C=some E:=by
 cases hq:zfT E.id C with
 |none=>
  have:=List.find?_eq_none.1 hq E hE
  simp at this
 |some F=>
  obtain ⟨h1,h2⟩:=jm hq
  rw [h.uniq h1 hE h2]
theorem zba{id:ByteArray}{C:List EV}:zfT id C=none↔ ¬ ∃ E∈C,E.id=id:=by
 unfold zfT
 rw [List.find?_eq_none]
 constructor
 ·rintro h ⟨E,hE,e⟩
  exact h E hE (decide_eq_true e)
 ·intro h E hE q
  exact h ⟨E,hE,of_decide_eq_true q⟩
theorem zg5{C D:List EV}(hC:Rises C)(hD:Rises D)(h: ∀ id,zfT id C=zfT id D):C=D:=by
 have hm: ∀ E,E∈C↔E∈D:=fun E=>by
  constructor
  ·intro hE
   have:=xz hC hE
   rw [h] at this
   exact (jm this).1
  ·intro hE
   have:=xz hD hE
   rw [←h] at this
   exact (jm this).1
 refine List.Perm.eq_of_pairwise (le:=fun a b=>kb a<kb b) (fun a b _ _ h1 h2=>absurd (List.lt_trans h1 h2) (List.lt_irrefl _)) hC hD ?_
 refine (List.perm_ext_iff_of_nodup ?_ ?_).2 hm
 ·exact hC.imp (fun {a b} q e=>by rw [e] at q;exact List.lt_irrefl _ q)
 ·exact hD.imp (fun {a b} q e=>by rw [e] at q;exact List.lt_irrefl _ q)
theorem ziW{E:EV}{C:List EV}(h:Rises C)(id:ByteArray):zfT id (jL E C)=if id=E.id then some E else zfT id C:=by
 have hp:=xo (E:=E) h
 by_cases hi:id=E.id
 ·rw [if_pos hi,hi]
  exact xz hp (yY.2 (.inl rfl))
 ·rw [if_neg hi]
  cases hq:zfT id C with
  |none=>
   rw [zba] at hq ⊢
   rintro ⟨F,hF,e⟩
   rcases yY.1 hF with rfl|⟨hF',_⟩
   ·exact hi e.symm
   ·exact hq ⟨F,hF',e⟩
  |some F=>
   obtain ⟨h1,h2⟩:=jm hq
   have:=xz hp (yY.2 (.inr ⟨h1,fun q=>hi (h2.symm.trans q)⟩))
   rw [h2] at this
   exact this
def fld(E:EV):Nat→(ByteArray×Int)×(ByteArray×Int×List Int×Int×Int)×(List Int×List (Int×Int))
 |0=>((E.ti,0),(⟨#[]⟩,0,[],0,0),([],[]))
 |1=>((⟨#[]⟩,E.st),(⟨#[]⟩,0,[],0,0),([],[]))
 |2=>((⟨#[]⟩,E.lg),(⟨#[]⟩,0,[],0,0),([],[]))
 |3=>((⟨#[]⟩,0),(E.f,E.e,E.ds,E.c,E.u),([],[]))
 |4=>((⟨#[]⟩,0),(⟨#[]⟩,0,[],0,0),(E.sk,[]))
 |_=>((⟨#[]⟩,0),(⟨#[]⟩,0,[],0,0),([],E.mv))
theorem zkm{E G:EV}(hid:E.id=G.id)(h: ∀ j,j<6→fld E j=fld G j):E=G:=by
 obtain ⟨i1,t1,s1,l1,f1,e1,d1,c1,u1,k1,m1⟩:=E
 obtain ⟨i2,t2,s2,l2,f2,e2,d2,c2,u2,k2,m2⟩:=G
 have h0:=h 0 (by omega)
 have h1:=h 1 (by omega)
 have h2:=h 2 (by omega)
 have h3:=h 3 (by omega)
 have h4:=h 4 (by omega)
 have h5:=h 5 (by omega)
 simp only [fld,Prod.mk.injEq,true_and,and_true] at h0 h1 h2 h3 h4 h5
 have hid':i1=i2:=hid
 obtain ⟨g1,g2,g3,g4,g5⟩:=h3
 subst hid' h0 h1 h2 g1 g2 g3 g4 g5 h4 h5
 rfl
theorem zcr{a b:Int}(ha:0≤a∧a≤73048)(hb:0≤b∧b≤73048)(h:dtx a=dtx b):a=b:=by
 obtain ⟨y,m,d,hv,hn,e⟩:=jG ha.1 ha.2
 obtain ⟨y',m',d',hv',hn',e'⟩:=jG hb.1 hb.2
 rw [e,e'] at h
 rw [←hn,←hn']
 exact ziv hv hv' h
theorem zkn{a b:Int×Int}(ha:(0≤a.1∧a.1≤73048)∧0≤a.2∧a.2≤73048)(hb:(0≤b.1∧b.1≤73048)∧0≤b.2∧b.2≤73048)(h:mtx a=mtx b):a=b:=by
 have hp:=congrArg (zZ 62) h
 rw [zbP,zbP] at hp
 injection hp with h1 h2
 injection h2 with h2 _
 exact Prod.ext (zcr ha.1 hb.1 h1) (zcr ha.2 hb.2 h2)
theorem ze6{α:Type}(P:α→Prop)(f:α→List UInt8)(hf: ∀ a b,P a→P b→f a=f b→a=b): ∀ (l k:List α),(∀ a∈l,P a)→(∀ a∈k,P a)→l.map f=k.map f→l=k
 |[],[],_,_,_=>rfl
 |[],b::k,_,_,h=>by simp at h
 |a::l,[],_,_,h=>by simp at h
 |a::l,b::k,hl,hk,h=>by
  rw [List.map_cons,List.map_cons] at h
  injection h with h1 h2
  rw [hf a b (hl a List.mem_cons_self) (hk b List.mem_cons_self) h1,ze6 P f hf l k (fun x hx=>hl x (List.mem_cons_of_mem _ hx)) (fun x hx=>hk x (List.mem_cons_of_mem _ hx)) h2]
theorem ze7{α:Type}(P:α→Prop)(f:α→List UInt8)(hf: ∀ a b,P a→P b→f a=f b→a=b)(hne: ∀ a,P a→f a≠[])(hno: ∀ a,(44:UInt8)∉f a)(l k:List α)(hl: ∀ a∈l,P a)(hk: ∀ a∈k,P a)(h:Lib.join (l.map f) [44]=Lib.join (k.map f) [44]):l=k:=by
 have hN: ∀ (l:List α),(∀ a∈l,P a)→l≠[]→Lib.join (l.map f) [44]≠[]:=fun l hl q=>zcg (by simpa using q) (fun x hx=>by obtain ⟨a,ha,rfl⟩:=List.mem_map.1 hx;exact hne a (hl a ha))
 have hS: ∀ (l:List α),l≠[]→zZ 44 (Lib.join (l.map f) [44])=l.map f:=fun l q=>xy (by simpa using q) (fun x hx=>by obtain ⟨a,_,rfl⟩:=List.mem_map.1 hx;exact hno a)
 by_cases h1:l=[]
 ·by_cases h2:k=[]
  ·rw [h1,h2]
  ·exact absurd (by rw [←h,h1];rfl) (hN k hk h2)
 ·by_cases h2:k=[]
  ·exact absurd (by rw [h,h2];rfl) (hN l hl h1)
  ·have hp:=congrArg (zZ 44) h
   rw [hS l h1,hS k h2] at hp
   exact ze6 P f hf l k hl hk hp
open Classical in
noncomputable def zmN(F G:EV):List Nat:=(List.range 6).filter fun k=>decide (fT F k≠fT G k)
noncomputable def dl(id:ByteArray):Option EV→Option EV→List DC
 |some F,some G=>(zmN F G).map fun k=>⟨id,k,some F,some G⟩
 |some F,none=>[⟨id,6,some F,none⟩]
 |none,some G=>[⟨id,6,none,some G⟩]
 |none,none=>[]
end Go.Proofs.YtpeafgddbbojaaaGreatDoor
namespace Go.Proofs.YtpeafgddbbojaaaGreatDoor
open Go Go.RowKit Go.Maps Go.Sort Cal
attribute [local go_sem] Oper.semAt_some
open Classical in
noncomputable def jR(o1 o2 o3:Option EV):Option EV⊕List ByteArray:=
 if eOp o2=eOp o3∨eOp o3=eOp o1 then .inl o2
 else if eOp o2=eOp o1 then .inl o3
 else match o1,o2,o3 with
  |some E1,some E2,some E3=>if jCs E1 E2 E3 6=[] then (if EW (jE E1 E2 E3) then .inl (some (jE E1 E2 E3)) else .inr [jZ]) else .inr (jCs E1 E2 E3 6)
  |_,_,_=> .inr [jZ]
open Classical in
noncomputable def jSp(X Y Z:List EV)(a:List EV×List (ByteArray×ByteArray))(id:ByteArray):List EV×List (ByteArray×ByteArray):=
 match jR (lkC X id) (lkC Y id) (lkC Z id) with
 | .inl none=>a
 | .inl (some E)=>if (¬ ∃ F∈a.1,F.id=E.id)∧60≤a.1.length then (a.1,a.2++[(id,jZ)]) else (jL E a.1,a.2)
 | .inr fs=>(a.1,a.2++fs.map fun f=>(id,f))
noncomputable def thr(X Y Z:List EV)(ids:List ByteArray):List EV×List (ByteArray×ByteArray):=ids.foldl (jSp X Y Z) ([],[])
theorem jy(X Y Z:List EV)(ids:List ByteArray)(m:Nat)(h:m<ids.length):thr X Y Z (ids.take (m+1))=jSp X Y Z (thr X Y Z (ids.take m)) ids[m]:=by
 unfold thr
 rw [List.take_succ_eq_append_getElem h,List.foldl_append]
 rfl
def ClR(base:Nat)(W:World)(v:Value)(cs:List (ByteArray×ByteArray)):Prop:=W.ownsRow base 62 2 v cs.length (cs.flatMap fun c=>[.string c.1,.string c.2])
theorem zhM(base:Nat)(W:World):ClR base W (.slice none 0 0) []:=World.ownsRow_nil _ _ _ _
theorem zfm: ∀ (cs:List (ByteArray×ByteArray))(j:Nat)(h:j<cs.length),(cs.flatMap fun c=>[Value.string c.1,.string c.2])[j*2]? =some (.string cs[j].1)∧(cs.flatMap fun c=>[Value.string c.1,.string c.2])[j*2+1]? =some (.string cs[j].2)
 |c::r,0,_=>⟨rfl,rfl⟩
 |c::r,j+1,h=>by
  have:=zfm r j (by simpa using h)
  rw [List.flatMap_cons,show (j+1)*2=j*2+1+1 by omega]
  exact this
theorem ClR.cells{base:Nat}{W:World}{v:Value}{cs:List (ByteArray×ByteArray)}(h:ClR base W v cs): ∃ (a:Option Addr) (cap:Nat),v= .slice a cs.length cap∧cs.length≤cap∧ ∀ (j:Nat) (hj:j<cs.length),∃ b:Nat,a=some ⟨b,0,none⟩∧b<W.heap.size∧W.cell? ⟨b,j*2,none⟩=some (.string cs[j].1)∧W.cell? ⟨b,j*2+1,none⟩=some (.string cs[j].2):=by
 rcases h.2 with ⟨rfl,h0⟩|⟨g,cap,cur,rfl,hb,hg,hcap,hmax,hsz,htake⟩
 ·exact ⟨none,0,by rw [h0],by omega,fun j hj=>absurd hj (by omega)⟩
 ·refine ⟨_,cap,rfl,hcap,fun j hj=>⟨g,rfl,(Array.getElem?_eq_some_iff.1 hg).1,?_⟩⟩
  obtain ⟨q1,q2⟩:=zfm cs j hj
  rw [←q1,←q2]
  exact ⟨World.ownsRow.cellAt h (j*2) (by omega),World.ownsRow.cellAt h (j*2+1) (by omega)⟩
theorem ClR.step{base:Nat}{W W':World}{v:Value}{cs:List (ByteArray×ByteArray)}(h:ClR base W v cs)(hb:Below W.heap.size W W'):ClR base W' v cs:=zU h hb
theorem OffI.text{N:Nat→Prop}{W W':World}{v:Value}{xs:List Int}{B:Nat}{x:ByteArray}(h:OffI N W v xs)(hb:W.cell? ⟨B,0,none⟩=some (.string x))(hg:W.grownBy W' (some B)):OffI N W' v xs:=by
 obtain ⟨a,c,h1,h2,h3,h4⟩:=h
 refine ⟨a,c,h1,h2,h3,fun j hj=> ?_⟩
 obtain ⟨b,e,hn,hl,hc⟩:=h4 j hj
 refine ⟨b,e,hn,Nat.lt_of_lt_of_le hl hg.size,yG hg hc (fun q=> ?_)⟩
 obtain ⟨b',e',_,_,hc'⟩:=h4 0 (by omega)
 have eb:b'=b:=by rw [e] at e';cases e';rfl
 rw [eb,q,hb] at hc'
 cases hc'
theorem OffM.text{N:Nat→Prop}{W W':World}{v:Value}{xs:List (Int×Int)}{B:Nat}{x:ByteArray}(h:OffM N W v xs)(hb:W.cell? ⟨B,0,none⟩=some (.string x))(hg:W.grownBy W' (some B)):OffM N W' v xs:=by
 obtain ⟨a,c,h1,h2,h3,h4⟩:=h
 refine ⟨a,c,h1,h2,h3,fun j hj=> ?_⟩
 obtain ⟨b,e,hn,hl,hc,hd⟩:=h4 j hj
 have hne:b≠B:=fun q=>by
  obtain ⟨b',e',_,_,hc',_⟩:=h4 0 (by omega)
  have eb:b'=b:=by rw [e] at e';cases e';rfl
  rw [eb,q,Nat.zero_mul,hb] at hc'
  cases hc'
 exact ⟨b,e,hn,Nat.lt_of_lt_of_le hl hg.size,yG hg hc hne,yG hg hd hne⟩
theorem zj2{W:World}{bb n B:Nat}{mo:Option Nat}{D:DataW Value}{x:ByteArray}(h:Bok W bb mo n D)(hb:W.cell? ⟨B,0,none⟩=some (.string x)):B≠bb∧some B≠mo:=by
 refine ⟨fun q=> ?_,fun q=> ?_⟩
 ·subst q
  rw [zR h.1] at hb
  cases hb
 ·subst q
  obtain ⟨_,es,clock,q1,_⟩:=h.2
  simp [World.cell?,q1] at hb
theorem BookAt.text{lo bb n B:Nat}{W W':World}{mo:Option Nat}{C:List EV}{x:ByteArray}(h:BookAt lo W bb mo n C)(hb:W.cell? ⟨B,0,none⟩=some (.string x))(hg:W.grownBy W' (some B)):BookAt lo W' bb mo n C:=by
 obtain ⟨D,h1,h2,h3,h4⟩:=h
 obtain ⟨n1,n2⟩:=zj2 h1 hb
 refine ⟨D,⟨(hg.block bb (Array.getElem?_eq_some_iff.1 h1.1).1 (fun q=>n1 (Option.some.inj q).symm)).trans h1.1,?_⟩,Nat.le_trans h2 hg.size,h3,h4.up,h4.tidy,h4.size,h4.has,fun E hE=> ?_⟩
 ·cases mo with
  |none=>exact h1.2
  |some mb=>exact ⟨h1.2.1,h1.2.2.kept hg (fun q=>n2 q.symm)⟩
 ·obtain ⟨q,sl,skv,mvv,q1,q2⟩:=h4.at_ E hE
  exact ⟨q,sl,skv,mvv,q1,q2.d.text hb hg,q2.s.text hb hg,q2.m.text hb hg⟩
structure CB(lo:Nat)(w2 W:World)(mo:Option Nat)(n:Nat)(C:List EV)(v:Value)(cl:List (ByteArray×ByteArray)):Prop where
 b:BookAt lo W lo mo n C
 r:ClR w2.heap.size W v cl
 z:cl=[]→v= .slice none 0 0
 m: ∀ mb,mo=some mb→w2.heap.size≤mb
 k:Kept w2 W lo none
theorem zgg{w2 W W':World}{lo:Nat}(h:Kept w2 W lo none)(hb:Below W.heap.size W W'):Kept w2 W' lo none:=
 ⟨hb.os.trans h.os,hb.tape.trans h.tape,hb.output.trans h.output,Nat.le_trans h.size hb.size,fun j hj h1 h2=>(hb.block j (Nat.lt_of_lt_of_le hj h.size)).trans (h.block j hj h1 h2)⟩
theorem CB.step{lo:Nat}{w2 W W':World}{mo:Option Nat}{n:Nat}{C:List EV}{v:Value}{cl:List (ByteArray×ByteArray)}(h:CB lo w2 W mo n C v cl)(hb:Below W.heap.size W W'):CB lo w2 W' mo n C v cl:=⟨h.b.step hb,h.r.step hb,h.z,h.m,zgg h.k hb⟩
theorem CB.head{lo:Nat}{w2 W:World}{mo:Option Nat}{n:Nat}{C:List EV}{v:Value}{cl:List (ByteArray×ByteArray)}(h:CB lo w2 W mo n C v cl){g:Nat}(hg:v.ownBlock=some g): ∃ x,W.cell? ⟨g,0,none⟩=some (.string x):=by
 cases cl with
 |nil=>rw [h.z rfl] at hg;cases hg
 |cons c r=>
  obtain ⟨a,cap,rfl,_,hc⟩:=h.r.cells
  obtain ⟨b,rfl,_,q,_⟩:=hc 0 (by simp)
  have e:b=g:=Option.some.inj hg
  subst e
  exact ⟨_,q⟩
theorem CB.put{lo:Nat}{w2 W W':World}{mo:Option Nat}{n:Nat}{C C':List EV}{v:Value}{cl:List (ByteArray×ByteArray)}(h:CB lo w2 W mo n C v cl)(hp:PutTo lo W W' lo mo n C'): ∃ mo',CB lo w2 W' mo' (n+1) C' v cl:=by
 obtain ⟨mo',q1,q2,q3⟩:=hp
 refine ⟨mo',q1,⟨h.r.1,?_⟩,h.z,fun mb e=> ?_,q2.os.trans h.k.os,q2.tape.trans h.k.tape,q2.output.trans h.k.output,Nat.le_trans h.k.size q2.size,fun j hj h1 h2=>(q2.block j (Nat.lt_of_lt_of_le hj h.k.size) h1 (fun q=>by have:=h.m j q.symm;omega)).trans (h.k.block j hj h1 h2)⟩
 ·rcases h.r.2 with q|⟨g,cap,cur,hv,hb,hg,r⟩
  ·exact .inl q
  ·refine .inr ⟨g,cap,cur,hv,hb,?_,r⟩
   obtain ⟨x,hx⟩:=h.head (g:=g) (by rw [hv];rfl)
   obtain ⟨D,h1,_⟩:=h.b
   obtain ⟨n1,n2⟩:=zj2 h1 hx
   exact (q2.block g (Array.getElem?_eq_some_iff.1 hg).1 n1 n2).trans hg
 ·rcases q3 with rfl|⟨_,q3⟩
  ·exact h.m mb e
  ·exact Nat.le_trans h.k.size (q3 mb e)
theorem CB.add{lo:Nat}{w2 W W':World}{mo:Option Nat}{n:Nat}{C:List EV}{v v':Value}{cl:List (ByteArray×ByteArray)}{c:ByteArray×ByteArray}(h:CB lo w2 W mo n C v cl)(ho:W'.ownsRow w2.heap.size 62 2 v' (cl.length+1) ((cl.flatMap fun c=>[.string c.1,.string c.2])++[.string c.1,.string c.2]))(hg:W.grownBy W' v.ownBlock):CB lo w2 W' mo n C v' (cl++[c]):=by
 refine ⟨?_,?_,(fun q=>by simp at q),h.m,hg.os.trans h.k.os,hg.tape.trans h.k.tape,hg.output.trans h.k.output,Nat.le_trans h.k.size hg.size,fun j hj h1 h2=>(hg.block j (Nat.lt_of_lt_of_le hj h.k.size) (fun q=>by have:=(World.ownsRow.lt h.r j q.symm).1;omega)).trans (h.k.block j hj h1 h2)⟩
 ·cases hv:v.ownBlock with
  |none=>
   rw [hv] at hg
   exact h.b.step ⟨hg.os,hg.tape,hg.output,hg.size,fun k hk=>hg.block k hk (by simp)⟩
  |some g=>
   rw [hv] at hg
   obtain ⟨x,hx⟩:=h.head hv
   exact h.b.text hx hg
 ·show World.ownsRow _ _ _ _ _ _ _
  rw [List.length_append,List.flatMap_append]
  exact ho
structure CF(lo:Nat)(w2 W:World)(mo:Option Nat)(n:Nat)(C:List EV)(v:Value)(cl:List (ByteArray×ByteArray))(fv:Value)(fs:List ByteArray):Prop where
 cb:CB lo w2 W mo n C v cl
 f:W.ownsRow w2.heap.size 9 1 fv fs.length (fs.map Value.string)
 ne: ∀ b,v.ownBlock=some b→fv.ownBlock≠some b
theorem CF.step{lo:Nat}{w2 W W':World}{mo:Option Nat}{n:Nat}{C:List EV}{v:Value}{cl:List (ByteArray×ByteArray)}{fv:Value}{fs:List ByteArray}(h:CF lo w2 W mo n C v cl fv fs)(hb:Below W.heap.size W W'):CF lo w2 W' mo n C v cl fv fs:=⟨h.cb.step hb,zU h.f hb,h.ne⟩
theorem CF.of{lo b:Nat}{w2 W:World}{mo:Option Nat}{n:Nat}{C:List EV}{v:Value}{cl:List (ByteArray×ByteArray)}{fv:Value}{fs:List ByteArray}(h:CB lo w2 W mo n C v cl)(hl:w2.heap.size≤b)(hv: ∀ g,v.ownBlock=some g→g<b)(hf:W.ownsRow b 9 1 fv fs.length (fs.map Value.string)):CF lo w2 W mo n C v cl fv fs:=
 ⟨h,zW hf hl,fun g q1 q2=>by
  have h1:=hv g q1
  have h2:=(World.ownsRow.lt hf g q2).1
  omega⟩
theorem CF.nil{lo:Nat}{w2 W:World}{mo:Option Nat}{n:Nat}{C:List EV}{v:Value}{cl:List (ByteArray×ByteArray)}(h:CB lo w2 W mo n C v cl):CF lo w2 W mo n C v cl (.slice none 0 0) []:=⟨h,World.ownsRow_nil _ _ _ _,fun _ _ q=>by cases q⟩
theorem CF.add{lo:Nat}{w2 W W':World}{mo:Option Nat}{n:Nat}{C:List EV}{v v':Value}{cl:List (ByteArray×ByteArray)}{fv:Value}{fs:List ByteArray}{c:ByteArray×ByteArray}(h:CF lo w2 W mo n C v cl fv fs)(ho:W'.ownsRow w2.heap.size 62 2 v' (cl.length+1) ((cl.flatMap fun c=>[.string c.1,.string c.2])++[.string c.1,.string c.2]))(hg:W.grownBy W' v.ownBlock)(hat:v'.ownBlock=v.ownBlock∨v'.ownBlock=some W.heap.size):CF lo w2 W' mo n C v' (cl++[c]) fv fs:=by
 refine ⟨h.cb.add ho hg,h.f.kept hg ?_,fun b hb q=> ?_⟩
 ·cases hp:fv.ownBlock with
  |none=>exact .inl rfl
  |some b=>exact .inr (fun q=>h.ne b q.symm hp)
 ·rcases hat with e|e
  ·exact h.ne b (e▸hb) q
  ·rw [e] at hb
   have:=(World.ownsRow.lt h.f b q).2
   have:=Option.some.inj hb
   omega
theorem CF.cells{lo:Nat}{w2 W:World}{mo:Option Nat}{n:Nat}{C:List EV}{v:Value}{cl:List (ByteArray×ByteArray)}{fv:Value}{fs:List ByteArray}(h:CF lo w2 W mo n C v cl fv fs){a:Option Addr}{c:Nat}(hv:fv= .slice a fs.length c)(j:Nat)(hj:j<fs.length): ∃ b:Nat,a=some ⟨b,0,none⟩∧W.cell? ⟨b,j,none⟩=some (.string fs[j]):=by
 have hf:=h.f
 rcases h.f.2 with ⟨q,h0⟩|⟨g,cap,cur,q,hb,hg,hcap,hmax,hsz,htake⟩
 ·omega
 ·rw [q] at hf hv
  injection hv with q1 q2 q3
  refine ⟨g,q1.symm,?_⟩
  have:=World.ownsRow.cellAt hf j (by omega)
  rw [this,List.getElem?_map,List.getElem?_eq_getElem hj]
  rfl
def zmK(lo:Nat)(w2:World)(n:Nat)(v:Value)(cl:List (ByteArray×ByteArray))(id:ByteArray)(a:List EV×List (ByteArray×ByteArray))(r:Ending)(w':World):Prop:=
 (r= .returned .nilIface∧a.2=cl∧ ∃ mo' n',CB lo w2 w' mo' n' a.1 v cl∧n'≤n+1)∨(∃ p,r= .returned (.iface 269 (.pointer (some p)))∧a.2=cl++[(id,jZ)]∧ ∃ mo' n',CB lo w2 w' mo' n' a.1 v cl∧n'≤n+1)
open Classical in
noncomputable def jAp(id:ByteArray)(a:List EV×List (ByteArray×ByteArray))(r:Option EV⊕List ByteArray):List EV×List (ByteArray×ByteArray):=
 match r with
 | .inl none=>a
 | .inl (some E)=>if (¬ ∃ F∈a.1,F.id=E.id)∧60≤a.1.length then (a.1,a.2++[(id,jZ)]) else (jL E a.1,a.2)
 | .inr fs=>(a.1,a.2++fs.map fun f=>(id,f))
theorem xd(X Y Z:List EV)(a:List EV×List (ByteArray×ByteArray))(id:ByteArray):jSp X Y Z a id=jAp id a (jR (lkC X id) (lkC Y id) (lkC Z id)):=rfl
theorem zhN(lo n:Nat)(mo:Option Nat)(C:List EV)(E:EV)(s:Nat→Addr)(w2 w:World)(v:Value)(cl:List (ByteArray×ByteArray))(id:ByteArray)(gk:GlobK s w)(g:GlobR w)(h:CB lo w2 w mo n C v cl)(hn:n≤90000)(hE:EW E)(h20:E.ds.length≤20):
  Calls Tryz.prog 21 #[.pointer (some ⟨lo,0,none⟩),.string (bs (eT E))] w fun r w'=>zmK lo w2 n v cl id (jAp id (C,cl) (.inl (some E))) r w':=by
 refine (zgf lo lo n mo C E s w gk g h.b hn hE h20 zg4).mono ?_
 unfold jAp
 dsimp only
 rintro r w' (⟨q1,rfl,hb⟩|⟨q1,rfl,w1,hb,hp⟩)
 ·rw [if_pos q1]
  exact .inr ⟨_,rfl,rfl,mo,n,h.step hb,Nat.le_succ n⟩
 ·rw [if_neg q1]
  obtain ⟨mo',q⟩:=(h.step hb).put hp
  exact .inl ⟨rfl,rfl,mo',n+1,q,Nat.le_refl _⟩
theorem zhO(lo n:Nat)(mo:Option Nat)(C:List EV)(o:Option EV)(s:Nat→Addr)(w2 w:World)(v:Value)(cl:List (ByteArray×ByteArray))(id:ByteArray)(gk:GlobK s w)(g:GlobR w)(h:CB lo w2 w mo n C v cl)(hn:n≤90000)(hE: ∀ E,o=some E→EW E∧E.ds.length≤20):
  Calls Tryz.prog 21 #[.pointer (some ⟨lo,0,none⟩),.string (eOp o)] w fun r w'=>zmK lo w2 n v cl id (jAp id (C,cl) (.inl o)) r w':=by
 cases o with
 |none=>
  refine (zhH lo w).mono ?_
  rintro r w' ⟨rfl,rfl⟩
  exact .inl ⟨rfl,rfl,mo,n,h,Nat.le_succ n⟩
 |some E=>exact zhN lo n mo C E s w2 w v cl id gk g h hn (hE E rfl).1 (hE E rfl).2
theorem zbs{α:Type} [DecidableEq α] {b x y:α}(h:yD b x y=none): ¬ (x=y∨y=b)∧ ¬ x=b:=by
 unfold yD at h
 split at h
 ·cases h
 ·rename_i q
  split at h
  ·cases h
  ·rename_i q2
   exact ⟨q,q2⟩
theorem zhP{α:Type} [DecidableEq α] {b x y t:α}(h:yD b x y=some t):((x=y∨y=b)∧t=x)∨(¬ (x=y∨y=b)∧x=b∧t=y):=by
 unfold yD at h
 split at h
 ·rename_i q
  exact .inl ⟨q,(Option.some.inj h).symm⟩
 ·rename_i q
  split at h
  ·rename_i q2
   exact .inr ⟨q,q2,(Option.some.inj h).symm⟩
  ·cases h
theorem zdD{o1 o2 o3:Option EV}(h:eOp o2=eOp o3∨eOp o3=eOp o1):jR o1 o2 o3= .inl o2:=by unfold jR;rw [if_pos h]
theorem zhQ{o1 o2 o3:Option EV}(h: ¬ (eOp o2=eOp o3∨eOp o3=eOp o1))(h2:eOp o2=eOp o1):jR o1 o2 o3= .inl o3:=by unfold jR;rw [if_neg h,if_pos h2]
theorem zmh{o1 o2 o3:Option EV}(h: ¬ (eOp o2=eOp o3∨eOp o3=eOp o1))(h2: ¬ eOp o2=eOp o1)(hn:o1=none∨o2=none∨o3=none):jR o1 o2 o3= .inr [jZ]:=by
 unfold jR
 rw [if_neg h,if_neg h2]
 cases o1 with
 |none=>rfl
 |some E1=>
  cases o2 with
  |none=>rfl
  |some E2=>
   cases o3 with
   |none=>rfl
   |some E3=>rcases hn with q|q|q<;>cases q
open Classical in
theorem zhR{E1 E2 E3:EV}(h: ¬ (eOp (some E2)=eOp (some E3)∨eOp (some E3)=eOp (some E1)))(h2: ¬ eOp (some E2)=eOp (some E1)):jR (some E1) (some E2) (some E3)=if jCs E1 E2 E3 6=[] then (if EW (jE E1 E2 E3) then .inl (some (jE E1 E2 E3)) else .inr [jZ]) else .inr (jCs E1 E2 E3 6):=by
 unfold jR
 rw [if_neg h,if_neg h2]
theorem zm2(lo n base:Nat)(mo:Option Nat)(C:List EV)(o1 o2 o3:Option EV)(s:Nat→Addr)(w2 w:World)(v:Value)(cl:List (ByteArray×ByteArray))(id:ByteArray)(gk:GlobK s w)(g:GlobR w)(h:CB lo w2 w mo n C v cl)(hn:n≤90000)
  (h1: ∀ E,o1=some E→EW E∧E.ds.length≤20) (h2: ∀ E,o2=some E→EW E∧E.ds.length≤20) (h3: ∀ E,o3=some E→EW E∧E.ds.length≤20) {r:Ending} (hJ:JE base w o1 o2 o3 r):
  (∃ t,r= .returned (.tuple #[.string t,.slice none 0 0])∧Calls Tryz.prog 21 #[.pointer (some ⟨lo,0,none⟩),.string t] w fun r w'=>zmK lo w2 n v cl id (jAp id (C,cl) (jR o1 o2 o3)) r w')∨
  (∃ fs fv,fs≠[]∧fs.length≤6∧r= .returned (.tuple #[.string ⟨#[]⟩,fv])∧w.ownsRow base 9 1 fv fs.length (fs.map Value.string)∧jAp id (C,cl) (jR o1 o2 o3)=(C,cl++fs.map fun f=>(id,f))):=by
 rcases hJ with ⟨t,ht,rfl⟩|⟨ht,hno,fv,rfl,hr⟩|⟨ht,E1,E2,E3,rfl,rfl,rfl,⟨hc,rfl⟩|⟨hc,fv,rfl,hr⟩⟩
 ·rcases zhP ht with ⟨q,rfl⟩|⟨q,q2,rfl⟩
  ·rw [zdD q]
   exact .inl ⟨_,rfl,zhO lo n mo C o2 s w2 w v cl id gk g h hn h2⟩
  ·rw [zhQ q q2]
   exact .inl ⟨_,rfl,zhO lo n mo C o3 s w2 w v cl id gk g h hn h3⟩
 ·obtain ⟨q,q2⟩:=zbs ht
  rw [zmh q q2 hno]
  exact .inr ⟨[jZ],fv,by simp,by simp,rfl,hr,rfl⟩
 ·obtain ⟨q,q2⟩:=zbs ht
  rw [zhR q q2,if_pos hc,zkQ hc]
  have hs:=zmg (h1 E1 rfl).1 (h2 E2 rfl).1 (h3 E3 rfl).1
  have hd:=zkR (E1:=E1) (h2 E2 rfl).2 (h3 E3 rfl).2
  refine .inl ⟨_,rfl,?_⟩
  by_cases hw:EW (jE E1 E2 E3)
  ·rw [if_pos hw]
   exact zhN lo n mo C _ s w2 w v cl id gk g h hn hw hd
  ·rw [if_neg hw]
   refine (zhL lo _ s w gk g hs hw hd zg4).mono ?_
   rintro r w' ⟨p,rfl,hb⟩
   exact .inr ⟨p,rfl,rfl,mo,n,h.step hb,Nat.le_succ n⟩
 ·obtain ⟨q,q2⟩:=zbs ht
  rw [zhR q q2,if_neg hc]
  exact .inr ⟨_,fv,hc,zbr _ _ _ _,rfl,hr,rfl⟩
theorem zhS(id:ByteArray)(a:List EV×List (ByteArray×ByteArray))(o1 o2 o3:Option EV):(jAp id a (jR o1 o2 o3)).2.length≤a.2.length+6:=by
 have hF: ∀ fs:List ByteArray,fs.length≤6→(a.2++fs.map fun f=>(id,f)).length≤a.2.length+6:=fun fs h=>by
  rw [List.length_append,List.length_map];omega
 have hI: ∀ o:Option EV,(jAp id a (.inl o)).2.length≤a.2.length+6:=fun o=>by
  unfold jAp
  cases o with
  |none=>exact Nat.le_add_right _ _
  |some E=>
   dsimp only
   split
   ·show (a.2++[(id,jZ)]).length≤_
    simp
   ·exact Nat.le_add_right _ _
 by_cases q:eOp o2=eOp o3∨eOp o3=eOp o1
 ·rw [zdD q];exact hI _
 ·by_cases q2:eOp o2=eOp o1
  ·rw [zhQ q q2];exact hI _
  ·by_cases hn:o1=none∨o2=none∨o3=none
   ·rw [zmh q q2 hn]
    exact hF [jZ] (by simp)
   ·cases o1 with
    |none=>exact absurd (.inl rfl) hn
    |some E1=>
     cases o2 with
     |none=>exact absurd (.inr (.inl rfl)) hn
     |some E2=>
      cases o3 with
      |none=>exact absurd (.inr (.inr rfl)) hn
      |some E3=>
       rw [zhR q q2]
       split
       ·split
        ·exact hI _
        ·exact hF [jZ] (by simp)
       ·exact hF _ (zbr _ _ _ _)
theorem zjf(w:World):Calls Tryz.prog 36 #[.pointer none] w fun r w'=>r= .returned (.map none)∧w'=w:=by
 go_enter Tryz.func36,Tryz.ntmps36
 go_wp2
 go_ret
 exact ⟨rfl,rfl⟩
set_option maxHeartbeats 4000000 in
set_option maxRecDepth 100000 in
theorem zjg(id:ByteArray)(E:EV)(sl skv mvv:Value)(w:World)(hid:id.size≤1000)(hat:zV=ev E sl skv mvv)(hL:Ls w E sl skv mvv)(k20:E.sk.length≤20)(m20:E.mv.length≤20):
  Calls Tryz.prog 43 #[.pointer none,.string id] w fun r w'=> ∃ sl' skv' mvv',r= .returned (.tuple #[ev E sl' skv' mvv',.bool false])∧Ls w' E sl' skv' mvv'∧Below w.heap.size w w':=by
 have HD20:Hid (E.ds.length≤20):=by obtain ⟨_,_,_,q,_⟩:=hL.d;exact q
 have HL:Hid (Ls w E sl skv mvv):=hL
 obtain ⟨hd,hs,hm⟩:=hL
 obtain ⟨ra,rc,rfl,_⟩:=hd
 obtain ⟨sa,sc,rfl,_⟩:=hs
 obtain ⟨ma,mc,rfl,_⟩:=hm
 unfold ev at hat
 have hA:=zC w (.cells #[.string ⟨#[]⟩,.string ⟨#[]⟩,.int .i64 0,.int .i64 0,.string ⟨#[]⟩,.int .i64 0,.slice none 0 0,.int .i64 0,.int .i64 0,.slice none 0 0,.slice none 0 0] 48)
 have kR:(w.alloc (.cells #[.string ⟨#[]⟩,.string ⟨#[]⟩,.int .i64 0,.int .i64 0,.string ⟨#[]⟩,.int .i64 0,.slice none 0 0,.int .i64 0,.int .i64 0,.slice none 0 0,.slice none 0 0] 48)).heap[w.heap.size]? =some (.cells #[.string ⟨#[]⟩,.string ⟨#[]⟩,.int .i64 0,.int .i64 0,.string ⟨#[]⟩,.int .i64 0,.slice none 0 0,.int .i64 0,.int .i64 0,.slice none 0 0,.slice none 0 0] 48 (0,0)):=zJ _ rfl
 have hz:(w.alloc (.cells #[.string ⟨#[]⟩,.string ⟨#[]⟩,.int .i64 0,.int .i64 0,.string ⟨#[]⟩,.int .i64 0,.slice none 0 0,.int .i64 0,.int .i64 0,.slice none 0 0,.slice none 0 0] 48)).heap.size=w.heap.size+1:=World.size_alloc _ _
 have AL:Hid (Calls _ _ _ _ _):=zjf (w.alloc (.cells #[.string ⟨#[]⟩,.string ⟨#[]⟩,.int .i64 0,.int .i64 0,.string ⟨#[]⟩,.int .i64 0,.slice none 0 0,.int .i64 0,.int .i64 0,.slice none 0 0,.slice none 0 0] 48))
 have LK:(Instr.lookup 75 (.map none) (.string id) true).run Tryz.prog (w.alloc (.cells #[.string ⟨#[]⟩,.string ⟨#[]⟩,.int .i64 0,.int .i64 0,.string ⟨#[]⟩,.int .i64 0,.slice none 0 0,.int .i64 0,.int .i64 0,.slice none 0 0,.slice none 0 0] 48))= .ok (.tuple #[.agg #[.string E.id,.string E.ti,.int .i64 E.st,.int .i64 E.lg,.string E.f,.int .i64 E.e,.slice ra E.ds.length rc,.int .i64 E.c,.int .i64 E.u,.slice sa E.sk.length sc,.slice ma E.mv.length mc],.bool false]) (w.alloc (.cells #[.string ⟨#[]⟩,.string ⟨#[]⟩,.int .i64 0,.int .i64 0,.string ⟨#[]⟩,.int .i64 0,.slice none 0 0,.int .i64 0,.int .i64 0,.slice none 0 0,.slice none 0 0] 48)):=by
  rw [←hat]
  exact Maps.look_nil true law Tryz.underlying75 (zfM _) (zaD hid)
 have HA:Hid (_):=hA
 have KR:Hid (_):=kR
 have HZ:Hid (_):=hz
 clear hA kR hz hat
 unfold ev
 go_enter Tryz.func43,Tryz.ntmps43
 generalize hw0:w.alloc (.cells #[.string ⟨#[]⟩,.string ⟨#[]⟩,.int .i64 0,.int .i64 0,.string ⟨#[]⟩,.int .i64 0,.slice none 0 0,.int .i64 0,.int .i64 0,.slice none 0 0,.slice none 0 0] 48)=w0 at AL LK HA KR HZ
 go_upto_region 2 with (first
  |(go_at_call 36;refine Calls.mono AL.out ?_;rintro r w' ⟨rfl,hq⟩;have hq:=hq.symm;subst hq)
  |go_in)
 have KE:Hid (EB (w0.alloc (.cells #[.string E.id,.string E.ti,.int .i64 E.st,.int .i64 E.lg,.string E.f,.int .i64 E.e,.slice ra E.ds.length rc,.int .i64 E.c,.int .i64 E.u,.slice sa E.sk.length sc,.slice ma E.mv.length mc] 48)) w0.heap.size E (.slice ra E.ds.length rc) (.slice sa E.sk.length sc) (.slice ma E.mv.length mc)):=EB.new w0 E _ _ _
 have LE:Hid (Ls (w0.alloc (.cells #[.string E.id,.string E.ti,.int .i64 E.st,.int .i64 E.lg,.string E.f,.int .i64 E.e,.slice ra E.ds.length rc,.int .i64 E.c,.int .i64 E.u,.slice sa E.sk.length sc,.slice ma E.mv.length mc] 48)) E (.slice ra E.ds.length rc) (.slice sa E.sk.length sc) (.slice ma E.mv.length mc)):=HL.out.step (zB HA.out (zC _ _))
 have KR1:Hid ((w0.alloc (.cells #[.string E.id,.string E.ti,.int .i64 E.st,.int .i64 E.lg,.string E.f,.int .i64 E.e,.slice ra E.ds.length rc,.int .i64 E.c,.int .i64 E.u,.slice sa E.sk.length sc,.slice ma E.mv.length mc] 48)).heap[w.heap.size]? =some (.cells #[.string ⟨#[]⟩,.string ⟨#[]⟩,.int .i64 0,.int .i64 0,.string ⟨#[]⟩,.int .i64 0,.slice none 0 0,.int .i64 0,.int .i64 0,.slice none 0 0,.slice none 0 0] 48 (0,0))):=zH _ KR.out
 have B1:Hid (Below w.heap.size w (w0.alloc (.cells #[.string E.id,.string E.ti,.int .i64 E.st,.int .i64 E.lg,.string E.f,.int .i64 E.e,.slice ra E.ds.length rc,.int .i64 E.c,.int .i64 E.u,.slice sa E.sk.length sc,.slice ma E.mv.length mc] 48))):=zB HA.out (zC _ _)
 have hs1:w.heap.size+1≤(w0.alloc (.cells #[.string E.id,.string E.ti,.int .i64 E.st,.int .i64 E.lg,.string E.f,.int .i64 E.e,.slice ra E.ds.length rc,.int .i64 E.c,.int .i64 E.u,.slice sa E.sk.length sc,.slice ma E.mv.length mc] 48)).heap.size:=by rw [World.size_alloc,HZ.out];omega
 clear AL LK HA KR HZ HL
 generalize w0.alloc (.cells #[.string E.id,.string E.ti,.int .i64 E.st,.int .i64 E.lg,.string E.f,.int .i64 E.e,.slice ra E.ds.length rc,.int .i64 E.c,.int .i64 E.u,.slice sa E.sk.length sc,.slice ma E.mv.length mc] 48)=w1 at KE LE KR1 B1 hs1 ⊢
 generalize w0.heap.size=be at KE ⊢
 have CP:=je E _ _ _ w1 LE.out k20 m20
 unfold ev at CP
 have HCP:Hid (Calls _ _ _ _ _):=CP
 clear CP LE
 obtain ⟨x0,x1,x2,x3,x4,x5,x6,x7,x8,x9,x10⟩:=zK (show w1.heap[be]? =_ from KE.out)
 have m8:E.mv.length≤80000:=by omega
 go_wp2_with (go_at_call 63;refine Calls.mono HCP.out ?_;rintro r w5 ⟨sl2,sk2,mv2,rfl,ho1,ho2,ho3,hb5⟩;obtain ⟨r2,rc2,rfl⟩:=zw ho1;obtain ⟨s2,sc2,rfl⟩:=zw ho2;obtain ⟨m2,mc2,rfl⟩:=zo (zr ho3 m8).2;have KR5:Hid (w5.heap[w.heap.size]? =some (.cells #[.string ⟨#[]⟩,.string ⟨#[]⟩,.int .i64 0,.int .i64 0,.string ⟨#[]⟩,.int .i64 0,.slice none 0 0,.int .i64 0,.int .i64 0,.slice none 0 0,.slice none 0 0] 48 (0,0))):=(hb5.block _ (Nat.lt_of_succ_le hs1)).trans KR1.out;obtain ⟨t0,t1,t2,t3,t4,t5,t6,t7,t8,t9,t10⟩:=zK KR5.out;obtain ⟨f0,f1,f2,f3,f4,f5,f6,f7,f8,f9,f10⟩:=frz KR5.out)
 rw [zX]
 have n10:=zk (.string E.id) (.string E.ti) (.int .i64 E.st) (.int .i64 E.lg) (.string E.f) (.int .i64 E.e) (.slice r2 E.ds.length rc2) (.int .i64 E.c) (.int .i64 E.u) (.slice s2 E.sk.length sc2) (.slice m2 E.mv.length mc2) KR5.out
 have g7:=zT w5 w.heap.size (.string E.id) (.string E.ti) (.int .i64 E.st) (.int .i64 E.lg) (.string E.f) (.int .i64 E.e) (.slice r2 E.ds.length rc2) (.int .i64 E.c) (.int .i64 E.u) (.slice s2 E.sk.length sc2) (.slice m2 E.mv.length mc2)
 clear x0 x1 x2 x3 x4 x5 x6 x7 x8 x9 x10 t0 t1 t2 t3 t4 t5 t6 t7 t8 t9 t10 f0 f1 f2 f3 f4 f5 f6 f7 f8 f9 f10
 have o1:=Ow.grown ho1 g7 (by omega)
 have o2:=Ow.grown ho2 g7 (by omega)
 have o3:=OwM.grown ho3 g7 (by omega)
 generalize yI w5 w.heap.size (.string E.id) (.string E.ti) (.int .i64 E.st) (.int .i64 E.lg) (.string E.f) (.int .i64 E.e) (.slice r2 E.ds.length rc2) (.int .i64 E.c) (.int .i64 E.u) (.slice s2 E.sk.length sc2) (.slice m2 E.mv.length mc2)=w7 at n10 g7 o1 o2 o3 ⊢
 obtain ⟨c0,c1,c2,c3,c4,c5,c6,c7,c8,c9,c10⟩:=zK n10
 refine bodyPost_ret (v:= .tuple #[.agg #[.string E.id,.string E.ti,.int .i64 E.st,.int .i64 E.lg,.string E.f,.int .i64 E.e,.slice r2 E.ds.length rc2,.int .i64 E.c,.int .i64 E.u,.slice s2 E.sk.length sc2,.slice m2 E.mv.length mc2],.bool false]) (by simp [results,Tryz.f43,go_sem,c0,c1,c2,c3,c4,c5,c6,c7,c8,c9,c10]) rfl ⟨_,_,_,rfl,⟨xP o1 HD20.out,xh o2 (by omega),(zr o3 m8).1⟩,(zB B1.out hb5).grown g7 (zB B1.out hb5).size (fun k q=>by cases q;exact Nat.le_refl _)⟩
def GetC(w:World)(pb:Option Addr)(X:List EV):Prop:= ∀ id:ByteArray,id.size≤1000→ ∀ W,Below w.heap.size w W→Calls Tryz.prog 43 #[.pointer pb,.string id] W fun r w'=> ∃ sl skv mvv,r= .returned (.tuple #[ev ((lkC X id).getD zE) sl skv mvv,.bool (lkC X id).isSome])∧Ls w' ((lkC X id).getD zE) sl skv mvv∧((lkC X id).isSome=true→Got w' skv ((lkC X id).getD zE).sk)∧Below W.heap.size W w'
theorem zhT{lo bb n:Nat}{mo:Option Nat}{X:List EV}{w:World}(h:BookAt lo w bb mo n X):GetC w (some ⟨bb,0,none⟩) X:=fun id hid W hW=>zhG lo bb n mo X id hid W (h.step hW)
theorem zjh(w:World):GetC w none []:=fun id hid W _=>by
 refine (zjg id zE (.slice none 0 0) (.slice none 0 0) (.slice none 0 0) W hid rfl ⟨Days.nil _ _,Ints.nil _ _,Movs.nil _ _⟩ (by decide) (by decide)).mono ?_
 rintro r w' ⟨sl,skv,mvv,rfl,hL,hb⟩
 exact ⟨sl,skv,mvv,rfl,hL,(fun q=>by cases q),hb⟩
theorem GetC.step{w w':World}{pb:Option Addr}{X:List EV}(h:GetC w pb X)(hb:Below w.heap.size w w'):GetC w' pb X:=fun id hid W hW=>h id hid W (zB hb hW)
theorem vd{lo bb n:Nat}{mo:Option Nat}{X:List EV}{w:World}(h:BookAt lo w bb mo n X): ∀ E∈X,EW E∧E.ds.length≤20:=fun E hE=>by
 obtain ⟨D,_,_,_,h4⟩:=h
 exact (h4.at_ E hE).1
theorem jz{lo:Nat}{w w1 w2:World}(h1:Below lo w w1)(h2:Below w1.heap.size w1 w2)(hlo:lo=w.heap.size):Below lo w w2:=
 ⟨h2.os.trans h1.os,h2.tape.trans h1.tape,h2.output.trans h1.output,Nat.le_trans h1.size h2.size,fun k hk=>(h2.block k (by have:=h1.size;omega)).trans (h1.block k hk)⟩
def zm3(lo:Nat)(a:List EV×List (ByteArray×ByteArray))(r:Ending)(w':World):Prop:=
 (a.2=[]∧ ∃ mo n,r= .returned (.tuple #[.pointer (some ⟨lo,0,none⟩),.slice none 0 0])∧BookAt lo w' lo mo n a.1∧n≤1000)∨(a.2≠[]∧ ∃ v,r= .returned (.tuple #[.pointer none,v])∧ClR lo w' v a.2)
theorem zgh:(Tryz.prog.info? 62).map (fun i=>(i.zero,i.size,i.bytes))=some (some (.agg #[.string ⟨#[]⟩,.string ⟨#[]⟩]),2,32):=by kernel_rfl
theorem zgi(W:World)(x y:ByteArray): ∀ (j:Nat) (v:Value),[Value.string x,.string y][j]? =some v→(W.alloc (.cells #[.string x,.string y] 62)).cell? ((⟨W.heap.size,0,none⟩:Addr).add j)=some v:=fun j v hv=>by
 match j,hv with
 |0,hv=>simp at hv;subst hv;simp [Addr.add]
 |1,hv=>simp at hv;subst hv;simp [Addr.add]
theorem zji{lo:Nat}{w:World}(h:BookAt lo w lo none 0 []):CB lo w w none 0 [] (.slice none 0 0) []:=⟨h,zhM _ _,fun _=>rfl,(fun mb e=>by cases e),rfl,rfl,rfl,Nat.le_refl _,fun _ _ _ _=>rfl⟩
theorem zfn{lo:Nat}{w w2 W:World}{mo:Option Nat}{n:Nat}{C:List EV}{v:Value}{cl:List (ByteArray×ByteArray)}(hlo:lo=w.heap.size)(hb:Below lo w w2)(h:CB lo w2 W mo n C v cl):Below lo w W:=
 ⟨h.k.os.trans hb.os,h.k.tape.trans hb.tape,h.k.output.trans hb.output,Nat.le_trans hb.size h.k.size,fun k hk=>(h.k.block k (by have:=hb.size;omega) (by omega) (by simp)).trans (hb.block k hk)⟩
theorem zkS{lo:Nat}{w2 W:World}{mo:Option Nat}{n:Nat}{C:List EV}{v:Value}{cl:List (ByteArray×ByteArray)}(h:CB lo w2 W mo n C v cl)(h0:BookAt lo w2 lo none 0 []){b j:Nat}{x:ByteArray}(hb:b<w2.heap.size)(hc:w2.cell? ⟨b,j,none⟩=some (.string x)):W.cell? ⟨b,j,none⟩=some (.string x):=by
 refine (World.cell?_of_block (a:=⟨b,j,none⟩) (h.k.block b hb (fun q=> ?_) (by simp))).trans hc
 obtain ⟨D,h1,_⟩:=h0
 subst q
 have hh:w2.heap[b]? =some (.cells #[.map none] 77 (0,0)):=h1.1
 cases j with
 |zero=>simp [World.cell?,hh] at hc
 |succ j=>simp [World.cell?,hh] at hc
set_option maxHeartbeats 4000000 in
set_option maxRecDepth 100000 in
theorem zhU(pb:Option Addr)(X:List EV)(l2 b2 n2:Nat)(o2:Option Nat)(Y:List EV)(l3 b3 n3:Nat)(o3:Option Nat)(Z:List EV)(s:Nat→Addr)(w:World)(gk:GlobK s w)(g:GlobR w)(h1:GetC w pb X)(hX: ∀ E∈X,EW E∧E.ds.length≤20)(h2:BookAt l2 w b2 o2 n2 Y)(h3:BookAt l3 w b3 o3 n3 Z)(hn2:n2≤100000)(hn3:n3≤100000)(hy:Y.length≤60)(hz:Z.length≤60):
  Calls Tryz.prog 7 #[.pointer pb,.pointer (some ⟨b2,0,none⟩),.pointer (some ⟨b3,0,none⟩)] w fun r w'=>Below w.heap.size w w'∧zm3 w.heap.size (thr X Y Z (zai Y Z)) r w':=by
 have NW:Hid (Calls _ _ _ _ _):=zal w
 have I2:Hid (∀ W,Below w.heap.size w W→Calls Tryz.prog 15 #[.pointer (some ⟨b2,0,none⟩)] W fun r w'=> ∃ v,r= .returned v∧RowV W.heap.size w' v (Y.map EV.id)∧Below W.heap.size W w'):=fun W hW=>zgV l2 b2 n2 o2 Y W (h2.step hW) hn2
 have I3:Hid (∀ W,Below w.heap.size w W→Calls Tryz.prog 15 #[.pointer (some ⟨b3,0,none⟩)] W fun r w'=> ∃ v,r= .returned v∧RowV W.heap.size w' v (Z.map EV.id)∧Below W.heap.size W w'):=fun W hW=>zgV l3 b3 n3 o3 Z W (h3.step hW) hn3
 have RS:Hid (∀ (W:World) (b:Nat) (v1 v2:Value),RowV b W v1 (Y.map EV.id)→RowV b W v2 (Z.map EV.id)→Calls Tryz.prog 19 #[v1,v2] W fun r w'=> ∃ v',r= .returned v'∧Txs w' v' (zai Y Z)∧Below W.heap.size W w'):=fun W b v1 v2 q1 q2=>zes b v1 v2 _ _ W q1 q2 (by rw [List.length_map];omega) (by rw [List.length_map];omega)
 have HID:Hid (∀ id∈zai Y Z,id.size≤1000):=fun id h=>by
  rcases (jn Y Z id).1 h with ⟨E,hE,rfl⟩|⟨E,hE,rfl⟩
  ·have:=(vd h2 E hE).1.id.2.2;omega
  ·have:=(vd h3 E hE).1.id.2.2;omega
 have JV:Hid (∀ id:ByteArray,id.size≤1000→ ∀ W,Below w.heap.size w W→Calls Tryz.prog 20 #[.string id,.pointer pb,.pointer (some ⟨b2,0,none⟩),.pointer (some ⟨b3,0,none⟩)] W fun r w'=>Below W.heap.size W w'∧JE W.heap.size w' (lkC X id) (lkC Y id) (lkC Z id) r):=fun id hid W hW=>zcF pb l2 b2 n2 o2 l3 b3 n3 o3 X Y Z id hid s W (gk.step hW) (g.step hW) (fun W' hW'=>h1 id hid W' (zB hW hW')) (h2.step hW) (h3.step hW) hX (vd h2) (vd h3)
 have QX:Hid (∀ id E,lkC X id=some E→EW E∧E.ds.length≤20):=fun id E q=>hX E (yM q).1
 have QY:Hid (∀ id E,lkC Y id=some E→EW E∧E.ds.length≤20):=fun id E q=>vd h2 E (yM q).1
 have QZ:Hid (∀ id E,lkC Z id=some E→EW E∧E.ds.length≤20):=fun id E q=>vd h3 E (yM q).1
 have HUL:Hid ((zai Y Z).length≤120):=ze8 Y Z hy hz
 have GG:Hid (GlobK s w∧GlobR w):=⟨gk,g⟩
 obtain ⟨i0,hi,hz0,hz1,hz2⟩:=info_parts zgh
 clear gk g h1 hX h2 h3 hn2 hn3 hy hz
 generalize zai Y Z=ids at RS HID HUL ⊢
 generalize Y.map EV.id=L2 at RS I2
 generalize Z.map EV.id=L3 at RS I3
 obtain ⟨lo,hlo⟩: ∃ lo,lo=w.heap.size:=⟨_,rfl⟩
 rw [←hlo] at NW I2 I3 JV ⊢
 have HLO:=hid hlo
 clear hlo
 go_enter Tryz.func7,Tryz.ntmps7
 go_upto_region 3 with (go_at_call 11;refine Calls.mono NW.out ?_;rintro r w1 ⟨rfl,hB1,hb1⟩)
 have HB1:=hid hb1
 have BK1:=hid hB1
 clear hb1 hB1 NW
 go_wp2_with fail
 go_at_call 15
 refine Calls.mono (I2.out w1 HB1.out) ?_
 rintro r w2 ⟨v2,rfl,hr2,hb2⟩
 have R2:=hid hr2
 have HB2:=hid hb2
 obtain ⟨y1,y2,rfl⟩:=xL hr2
 clear hr2 hb2
 go_wp2_with fail
 go_at_call 15
 refine Calls.mono (I3.out w2 (jz HB1.out HB2.out HLO.out)) ?_
 rintro r w3 ⟨v3,rfl,hr3,hb3⟩
 have R3:=hid hr3
 have HB3:=hid hb3
 obtain ⟨y3,y4,rfl⟩:=xL hr3
 clear hr3 hb3
 go_wp2_with fail
 go_at_call 19
 refine Calls.mono (RS.out w3 w1.heap.size _ _ (vU R2.out HB3.out) (R3.out.base HB2.out.size)) ?_
 rintro r w4 ⟨v4,rfl,hT4,hb4⟩
 obtain ⟨va,vc,rfl,_,hvc,hT⟩:=hT4
 go_wp2_with fail
 have HB4:Hid (Below lo w w4):=jz (jz (jz HB1.out HB2.out HLO.out) HB3.out HLO.out) hb4 HLO.out
 have BK4:Hid (BookAt lo w4 lo none 0 []):=((BK1.out.step HB2.out).step HB3.out).step hb4
 have HT:=hid hT
 have CB0:Hid (CB lo w4 w4 none 0 [] (.slice none 0 0) []):=zji BK4.out
 clear hT hb4 R2 R3 HB2 HB3 BK1 HB1 I2 I3 RS
 go_loopw [9,11,12,13,15,23] (fun v _ _ _ _ i wr=> ∃ m:Nat,m≤ids.length∧i= .int .i64 m∧(∃ a n c,v= .slice a n c)∧Hid (∃ mo n,CB lo w4 wr mo n (thr X Y Z (ids.take m)).1 v (thr X Y Z (ids.take m)).2∧n≤m∧(thr X Y Z (ids.take m)).2.length≤6*m)) (fun _ _ _ _ _ i _=>ids.length - (intOf i).toNat)
 case atStart=>exact ⟨0,Nat.zero_le _,rfl,⟨_,_,_,rfl⟩,none,0,by rw [List.take_zero];exact CB0.out,Nat.le_refl _,by rw [List.take_zero];exact Nat.le_refl _⟩
 case round=>
  obtain ⟨m,hm,rfl,⟨ca,cn,cc,rfl⟩,HR⟩:=hrel
  obtain ⟨mo,n,hCB,hnm,hcl⟩:=HR.out
  clear HR
  by_cases hlt:m<ids.length
  ·obtain ⟨b,rfl,hbl,hbc⟩:=HT.out m hlt
   have HSP:Hid (thr X Y Z (ids.take (m+1))=jAp ids[m] (thr X Y Z (ids.take m)) (jR (lkC X ids[m]) (lkC Y ids[m]) (lkC Z ids[m]))):=jy X Y Z ids m hlt
   have HIM:Hid (ids[m].size≤1000):=HID.out _ (List.getElem_mem hlt)
   have hm120:m<120:=by have:=HUL.out;omega
   have cb:=zkS hCB BK4.out hbl hbc
   generalize thr X Y Z (ids.take m)=a at hCB hcl HSP
   obtain ⟨C,cl⟩:=a
   dsimp only at hCB hcl
   have HCB:=hid hCB
   have HCN:Hid (cn=cl.length):=by
    obtain ⟨_,_,q,_⟩:=hCB.r.cells
    injection q
   have HBR:Hid (Below lo w wr):=zfn HLO.out HB4.out hCB
   have HNM:=hid hnm
   have HCL:=hid hcl
   generalize ids[m]=id at cb HSP HIM
   have JC:Hid (Calls _ _ _ _ _):=JV.out id HIM.out wr HBR.out
   have HGW:Hid (∀ W,Below wr.heap.size wr W→GlobK s W∧GlobR W):=fun W hW=>by
    have q:=jz HBR.out hW HLO.out
    rw [HLO.out] at q
    exact ⟨GG.out.1.step q,GG.out.2.step q⟩
   have QX1:Hid (_):=QX.out id
   have QY1:Hid (_):=QY.out id
   have QZ1:Hid (_):=QZ.out id
   have HZR:Hid (w4.heap.size≤wr.heap.size):=hCB.k.size
   have HOB:Hid (∀ g,(Value.slice ca cn cc).ownBlock=some g→g<wr.heap.size):=fun g q=>(World.ownsRow.lt hCB.r g q).2
   clear hCB hbc hnm hcl JV QX QY QZ
   generalize lkC X id=p1 at HSP JC QX1
   generalize lkC Y id=p2 at HSP JC QY1
   generalize lkC Z id=p3 at HSP JC QZ1
   go_upto_region 6 with (fail)
   go_cut [12,13] (fun v12 v13 wx=> ∃ (t:ByteArray) (fa:Option Addr) (fn fc:Nat),v12= .string t∧v13= .slice fa fn fc∧Hid (Below wr.heap.size wr wx∧((fa=none∧fn=0∧fc=0∧Calls Tryz.prog 21 #[.pointer (some ⟨lo,0,none⟩),.string t] wx fun r w'=>zmK lo w4 n (.slice ca cn cc) cl id (jAp id (C,cl) (jR p1 p2 p3)) r w')∨(∃ fs:List ByteArray,fs≠[]∧fs.length≤6∧fn=fs.length∧wx.ownsRow wr.heap.size 9 1 (.slice fa fn fc) fs.length (fs.map Value.string)∧jAp id (C,cl) (jR p1 p2 p3)=(C,cl++fs.map fun f=>(id,f))))))
   case first=>
    go_wp2_with fail
    go_at_call 20
    refine Calls.mono JC.out ?_
    rintro r w5 ⟨hb5,hJ⟩
    have HR5:=zm2 lo n wr.heap.size mo C p1 p2 p3 s w4 w5 (.slice ca cn cc) cl id (HGW.out w5 hb5).1 (HGW.out w5 hb5).2 (HCB.out.step hb5) (by have:=HNM.out;omega) QX1.out QY1.out QZ1.out hJ
    clear hJ JC
    rcases HR5 with ⟨t,rfl,hP⟩|⟨fs,fv,hf0,hf6,rfl,hfr,hfe⟩
    ·have HP:=hid hP
     have HB5:=hid hb5
     clear hP hb5
     go_wp2
     go_meet
     case rel=>exact ⟨t,none,0,0,rfl,rfl,HB5.out,.inl ⟨rfl,rfl,rfl,HP.out⟩⟩
    ·obtain ⟨fa,fc,rfl⟩:=jx hfr
     have HFR:Hid (_):=hfr
     have HFE:Hid (_):=hfe
     have HF0:=hid hf0
     have HB5:=hid hb5
     clear hfr hfe hf0 hb5
     go_wp2
     go_meet
     case rel=>exact ⟨_,fa,fs.length,fc,rfl,rfl,HB5.out,.inr ⟨fs,HF0.out,hf6,rfl,HFR.out,HFE.out⟩⟩
   case rest=>
    obtain ⟨t,fa,fn,fc,rfl,rfl,HX⟩:=hcut
    go_upto_region 7 with (fail)
    go_cut [43] (fun v43 wx=> ∃ e:Bool,v43= .bool e∧Hid ((e=false∧ ∃ fs:List ByteArray,fn=fs.length∧fs.length≤6∧ ∃ C' mo' n',CF lo w4 wx mo' n' C' (.slice ca cn cc) cl (.slice fa fn fc) fs∧n'≤n+1∧jAp id (C,cl) (jR p1 p2 p3)=(C',cl++fs.map fun f=>(id,f)))∨(e=true∧ ∃ C' mo' n',CB lo w4 wx mo' n' C' (.slice ca cn cc) cl∧n'≤n+1∧jAp id (C,cl) (jR p1 p2 p3)=(C',cl++[(id,jZ)]))))
    case first=>
     obtain ⟨hb5,hAB⟩:=HX.out
     clear HX
     rcases hAB with ⟨rfl,rfl,rfl,hP⟩|⟨fs,hf0,hf6,hfn,hfr,hfe⟩
     ·have HP:=hid hP
      clear hP hb5
      go_wp2_with (go_at_call 21;refine Calls.mono HP.out ?_;rintro r w6 (⟨rfl,q2,mo',n',q3,q4⟩|⟨p,rfl,q2,mo',n',q3,q4⟩))
      ·have HQ:Hid (∃ fs:List ByteArray,0=fs.length∧fs.length≤6∧ ∃ C' mo' n',CF lo w4 w6 mo' n' C' (.slice ca cn cc) cl (.slice none 0 0) fs∧n'≤n+1∧jAp id (C,cl) (jR p1 p2 p3)=(C',cl++fs.map fun f=>(id,f))):=⟨[],rfl,by simp,_,mo',n',CF.nil q3,q4,Prod.ext rfl (by rw [q2];simp)⟩
       clear q2 q3 q4 HP
       go_meet
       case rel=>exact ⟨false,rfl,.inl ⟨rfl,HQ.out⟩⟩
      ·have HQ:Hid (∃ C' mo' n',CB lo w4 w6 mo' n' C' (.slice ca cn cc) cl∧n'≤n+1∧jAp id (C,cl) (jR p1 p2 p3)=(C',cl++[(id,jZ)])):=⟨_,mo',n',q3,q4,Prod.ext rfl q2⟩
       clear q2 q3 q4 HP
       go_meet
       case rel=>exact ⟨true,rfl,.inr ⟨rfl,HQ.out⟩⟩
     ·have hfz: ¬ ((fn:Int)=0):=by have:=List.length_pos_iff.2 hf0;omega
      have hfz2: ¬ (fn=0):=by omega
      have HQ:Hid (∃ gs:List ByteArray,fn=gs.length∧gs.length≤6∧ ∃ C' mo' n',CF lo w4 wc mo' n' C' (.slice ca cn cc) cl (.slice fa fn fc) gs∧n'≤n+1∧jAp id (C,cl) (jR p1 p2 p3)=(C',cl++gs.map fun f=>(id,f))):=⟨fs,hfn,hf6,C,mo,n,CF.of (b:=wr.heap.size) (HCB.out.step hb5) HZR.out HOB.out hfr,Nat.le_succ n,hfe⟩
      clear hfr hfe hb5 hf0 hfn hf6
      go_wp2
      go_meet
      case rel=>exact ⟨false,rfl,.inl ⟨rfl,HQ.out⟩⟩
    case rest=>
    obtain ⟨e,rfl,HE⟩:=hcut
    clear HX
    go_upto_if 43 with (fail)
    go_cut [13] (fun v13 wx=> ∃ (fs:List ByteArray) (fa:Option Addr) (fc:Nat),v13= .slice fa fs.length fc∧fs.length≤6∧Hid (∃ C' mo' n',CF lo w4 wx mo' n' C' (.slice ca cn cc) cl (.slice fa fs.length fc) fs∧n'≤n+1∧jAp id (C,cl) (jR p1 p2 p3)=(C',cl++fs.map fun f=>(id,f))))
    case first=>
     cases e with
     |false=>
      have HQ:Hid (∃ fs:List ByteArray,fn=fs.length∧fs.length≤6∧ ∃ C' mo' n',CF lo w4 wc mo' n' C' (.slice ca cn cc) cl (.slice fa fn fc) fs∧n'≤n+1∧jAp id (C,cl) (jR p1 p2 p3)=(C',cl++fs.map fun f=>(id,f))):=by
       rcases HE.out with ⟨_,q⟩|⟨q,_⟩
       ·exact q
       ·cases q
      clear HE
      obtain ⟨fs,rfl,hf6,hq⟩:=HQ.out
      have HQ2:Hid (_):=hq
      clear HQ hq
      go_wp2
      go_meet
      case rel=>exact ⟨fs,fa,fc,rfl,hf6,HQ2.out⟩
     |true=>
      have hq: ∃ C' mo' n',CB lo w4 wc mo' n' C' (.slice ca cn cc) cl∧n'≤n+1∧jAp id (C,cl) (jR p1 p2 p3)=(C',cl++[(id,jZ)]):=by
       rcases HE.out with ⟨q,_⟩|⟨_,q⟩
       ·cases q
       ·exact q
      clear HE
      obtain ⟨C',mo',n',q3,q4,q2⟩:=hq
      have HQ:Hid (∃ C' mo' n',CF lo w4 (wc.alloc (.cells #[.string ⟨#[97,108,108]⟩] 9)) mo' n' C' (.slice ca cn cc) cl (.slice (some ⟨wc.heap.size,0,none⟩) 1 1) [jZ]∧n'≤n+1∧jAp id (C,cl) (jR p1 p2 p3)=(C',cl++[jZ].map fun f=>(id,f))):=⟨_,mo',n',CF.of (b:=wc.heap.size) (q3.step (zC _ _)) q3.k.size (fun g q=>(World.ownsRow.lt q3.r g q).2) ⟨rfl,.inr ⟨wc.heap.size,1,_,rfl,Nat.le_refl _,zJ _ rfl,Nat.le_refl _,by decide,rfl,rfl⟩⟩,q4,q2⟩
      clear q2 q3 q4
      go_wp2
      go_meet
      case rel=>exact ⟨[jZ],_,1,rfl,by simp,HQ.out⟩
    case rest=>
     obtain ⟨fs,fa,fc,rfl,hf6,HF⟩:=hcut
     obtain ⟨C',mo',n',hCF,hn',hJ⟩:=HF.out
     have HSP':Hid (thr X Y Z (ids.take (m+1))=(C',cl++fs.map fun f=>(id,f))):=HSP.out.trans hJ
     have HCF:Hid (CF lo w4 wc mo' n' C' (.slice ca cn cc) (cl++(fs.take 0).map fun f=>(id,f)) (.slice fa fs.length fc) fs):=by
      show CF _ _ _ _ _ _ _ _ _ _
      rw [List.take_zero,List.map_nil,List.append_nil]
      exact hCF
     have HN':Hid (n'≤m+1):=by have:=HNM.out;show _≤_;omega
     have HCLL:Hid (cl.length≤720):=by have:=HCL.out;show _≤_;omega
     clear HF hCF hn' hJ HE HSP HNM
     go_wp2
     go_loopw [9,15,47] (fun v _ i wi=> ∃ k:Nat,k≤fs.length∧i= .int .i64 k∧(∃ a n c,v= .slice a n c)∧Hid (CF lo w4 wi mo' n' C' v (cl++(fs.take k).map fun f=>(id,f)) (.slice fa fs.length fc) fs)) (fun _ _ i _=>fs.length - (intOf i).toNat)
     case atStart=>exact ⟨0,Nat.zero_le _,rfl,⟨_,_,_,rfl⟩,HCF.out⟩
     case round=>
      obtain ⟨k,hk,rfl,⟨da,dn,dc,rfl⟩,HC⟩:=hrel
      by_cases hlk:k<fs.length
      ·obtain ⟨fb,rfl,cf⟩:=HC.out.cells rfl k hlk
       have HTK:Hid (fs.take (k+1)=fs.take k++[fs[k]]):=List.take_succ_eq_append_getElem hlk
       generalize fs[k]=f at cf HTK
       have HL2:Hid ((cl++(fs.take k).map fun f=>(id,f)).length≤730):=by
        show _≤_
        rw [List.length_append,List.length_map,List.length_take]
        have:=HCLL.out
        omega
       have HE:Hid (cl++(fs.take (k+1)).map (fun f=>(id,f))=(cl++(fs.take k).map fun f=>(id,f))++[(id,f)]):=by
        show _=_
        rw [HTK.out,List.map_append,List.append_assoc]
        rfl
       generalize cl++(fs.take k).map (fun f=>(id,f))=cn0 at HE HC HL2
       have NC:Hid (_):=zgi wr id f
       have HC3:Hid (CF lo w4 (wr.alloc (.cells #[.string id,.string f] 62)) mo' n' C' (.slice da dn dc) cn0 (.slice (some ⟨fb,0,none⟩) fs.length fc) fs):=HC.out.step (zC _ _)
       clear HC
       go_upto_region 13 with (first
        |(at_builtin;refine wpList_append_own_at _ rfl _ _ 30 rfl w4.heap.size 62 i0 (.agg #[.string ⟨#[]⟩,.string ⟨#[]⟩]) 2 32 Tryz.underlying30 hi hz0 hz1 hz2 rfl (by decide) _ _ _ rfl HC3.out.cb.r ⟨wr.heap.size,0,none⟩ 1 1 [.string id,.string f] rfl rfl NC.out (fun v hv=>by simp only [List.mem_cons,List.not_mem_nil,or_false] at hv;rcases hv with rfl|rfl<;>rfl) (by have:=HL2.out;unfold maxLen;omega) (by have:=HL2.out;omega) (HC3.out.cb.k.size) ?_;intro v' w7 hown' hgrow _ hat;have HC4:Hid (CF lo w4 w7 mo' n' C' v' (cn0++[(id,f)]) (.slice (some ⟨fb,0,none⟩) fs.length fc) fs):=HC3.out.add hown' hgrow hat;obtain ⟨g',cap',rfl⟩:=ownsRow_succ hown';clear hown' hgrow hat)
        |go_in)
       clear HC3 NC
       go_wp2
       go_roundw
       case rel=>exact ⟨k+1,by omega,by go_num,⟨_,_,_,rfl⟩,by rw [HE.out];exact HC4.out⟩
       case measure=>simp [intOf];omega
      ·have HCE:Hid (∃ mo n,CB lo w4 wr mo n (thr X Y Z (ids.take (m+1))).1 (.slice da dn dc) (thr X Y Z (ids.take (m+1))).2∧n≤m+1∧(thr X Y Z (ids.take (m+1))).2.length≤6*(m+1)):=by
        have h1:=HC.out.cb
        rw [List.take_of_length_le (by omega)] at h1
        refine ⟨mo',n',?_,HN'.out,?_⟩
        ·rw [HSP'.out];exact h1
        ·rw [HSP'.out]
         have:=HCL.out
         show (cl++fs.map fun f=>(id,f)).length≤_
         rw [List.length_append,List.length_map]
         omega
       clear HC
       go_wp2
       go_roundw
       case rel=>exact ⟨m+1,by omega,by go_num,⟨_,_,_,rfl⟩,HCE.out⟩
       case measure=>simp [intOf];omega
  ·rw [List.take_of_length_le (by omega)] at hCB hcl
   obtain ⟨a,ha⟩: ∃ a,thr X Y Z ids=a:=⟨_,rfl⟩
   rw [ha] at hCB hcl
   have HA:=hid ha
   clear ha
   obtain ⟨C,cl⟩:=a
   dsimp only at hCB hcl
   have HBR:Hid (Below lo w wr):=zfn HLO.out HB4.out hCB
   have HCB:=hid hCB
   have HLS:Hid (lo≤w4.heap.size):=by have:=HB4.out.size;have:=HLO.out;show _≤_;omega
   have HN:Hid (n≤1000):=by have:=HUL.out;show _≤_;omega
   have hcn:cn=cl.length:=by
    obtain ⟨_,_,q,_⟩:=hCB.r.cells
    injection q
   subst hcn
   clear hCB hcl hnm JV QX QY QZ
   by_cases h0:cl=[]
   ·subst h0
    dsimp only [List.length_nil]
    go_wp2
    go_ret2
    exact ⟨HBR.out,by rw [HA.out];exact .inl ⟨rfl,mo,n,rfl,HCB.out.b,HN.out⟩⟩
   ·have hcp:0<cl.length:=List.length_pos_iff.2 h0
    have H0:=hid h0
    clear h0
    go_wp2
    go_ret2
    exact ⟨HBR.out,by rw [HA.out];exact .inr ⟨H0.out,_,rfl,zW HCB.out.r HLS.out⟩⟩
end Go.Proofs.YtpeafgddbbojaaaGreatDoor
