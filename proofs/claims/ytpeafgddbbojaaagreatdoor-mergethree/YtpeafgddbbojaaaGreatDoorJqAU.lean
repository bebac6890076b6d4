import Derived.Test.YtpeafgddbbojaaaGreatDoorJqAA
import Derived.Test.YtpeafgddbbojaaaGreatDoorJqAT
import Derived.Test.YtpeafgddbbojaaaGreatDoorJqAN
import Derived.Deep.RegionWith
import Derived.Test.YtpeafgddbbojaaaGreatDoorJqAS
import Derived.Test.YtpeafgddbbojaaaGreatDoorJqAB
import Derived.Test.YtpeafgddbbojaaaGreatDoorJqAC
import Derived.Test.YtpeafgddbbojaaaGreatDoorJqAH
import Derived.Test.YtpeafgddbbojaaaGreatDoorJqAF
import Derived.BigRegion
import Derived.Maps.AppendAt
namespace Go.Proofs.YtpeafgddbbojaaaGreatDoor
open Go Go.RowKit Go.Maps Go.Sort Cal
attribute [local go_sem] Oper.semAt_some
theorem yN{W:World}{base:Nat}{e t:TypeId}{size n:Nat}{v:Value}{xs:List Value}{b:Nat}{cs:Array Value}{fr:Nat×Nat}(h:W.ownsRow base e size v n xs)(hb:W.heap[b]? =some (.cells cs t fr))(hne:e≠t):v.ownBlock≠some b:=by
 rcases h.2 with ⟨e1,_⟩|⟨g,cap,cur,hv,_,hh,_⟩
 ·rw [e1];exact fun q=>by cases q
 ·rw [hv]
  intro q
  have:g=b:=Option.some.inj q
  subst this
  rw [hb] at hh
  injection hh with hh
  injection hh with _ hh
  exact hne hh.symm
def wX(Ys:List EX)(X:EX):List EX:=ins X (Ys.filter fun Y=>decide (Y.E.id≠X.E.id))
theorem zh8(Ys:List EX)(X:EX):(wX Ys X).length≤Ys.length+1:=by
 unfold wX
 rw [zcm]
 have:=List.length_filter_le (fun Y:EX=>decide (Y.E.id≠X.E.id)) Ys
 omega
theorem zmr{Ys:List EX}{X:EX}(h: ∀ Y∈Ys,Y.ok)(hX:X.ok): ∀ Y∈wX Ys X,Y.ok:=fun Y hY=>by
 unfold wX at hY
 rcases jK.1 hY with rfl|q
 ·exact hX
 ·exact h Y (List.mem_filter.1 q).1
structure AIW(w W:World)(v2 xv:Value)(Ys:List EX):Prop where
 b2:W.heap[w.heap.size+1]? =some (.cells #[v2] 27 (0,0))
 x:W.heap[w.heap.size+1+1]? =some (.cells #[xv] 27 (0,0))
 r: ∃ base,MR base W xv Ys
 b:Below w.heap.size w W
 s:w.heap.size+3≤W.heap.size
theorem AIW.step{w W W':World}{v2 xv:Value}{Ys:List EX}(h:AIW w W v2 xv Ys)(hb:Below W.heap.size W W'):AIW w W' v2 xv Ys:=by
 have hs:=h.s
 obtain ⟨base,hr⟩:=h.r
 exact ⟨(hb.block _ (by omega)).trans h.b2,(hb.block _ (by omega)).trans h.x,⟨base,hr.far (fun k _ hk=>hb.block k hk)⟩,zB h.b hb,Nat.le_trans hs hb.size⟩
theorem AIW.put{w W:World}{v2 xv v':Value}{Ys Zs:List EX}{base:Nat}(h:AIW w W v2 xv Ys)(hr:MR base W v' Zs):AIW w (W.setCell ⟨w.heap.size+1+1,0,none⟩ v') v2 v' Zs:=by
 have hs:=h.s
 have g:=zG W ⟨w.heap.size+1+1,0,none⟩ v'
 refine ⟨(g.block _ (by omega) (fun q=>by have q':w.heap.size+1=w.heap.size+1+1:=Option.some.inj q;omega)).trans h.b2,zM (i:=0) v' h.x,⟨base,?_⟩,zy h.b g (show w.heap.size≤w.heap.size+1+1 by omega),Nat.le_trans hs g.size⟩
 exact World.ownsRow.kept hr g (.inr (yN hr h.x (by decide)))
set_option maxHeartbeats 4000000 in
set_option maxRecDepth 100000 in
theorem zb6(b1 b2:Nat)(v1 v2:Value)(X1 X2:List EX)(w:World)(h1:MR b1 w v1 X1)(h2:MR b2 w v2 X2)(l1:X1.length≤300)(l2:X2.length≤300)(o1: ∀ X∈X1,X.ok)(o2: ∀ X∈X2,X.ok):
  Calls Tryz.prog 22 #[.agg #[v1],.agg #[v2]] w fun r w'=> ∃ v',r= .returned v'∧Txs w' v' ((X2.foldl wX X1).map fun X=>X.E.id)∧Below w.heap.size w w':=by
 have HR2:=hid h2
 have HO2:=hid o2
 obtain ⟨va,vac,rfl,_,_⟩:=h1.form
 obtain ⟨vb,vbc,rfl,_,_⟩:=h2.form
 have H0:Hid (AIW w (((w.alloc (.cells #[.slice va X1.length vac] 27)).alloc (.cells #[.slice vb X2.length vbc] 27)).alloc (.cells #[.slice va X1.length vac] 27)) (.slice vb X2.length vbc) (.slice va X1.length vac) X1):=by
  have s1:(w.alloc (.cells #[.slice va X1.length vac] 27)).heap.size=w.heap.size+1:=World.size_alloc _ _
  have s2:((w.alloc (.cells #[.slice va X1.length vac] 27)).alloc (.cells #[.slice vb X2.length vbc] 27)).heap.size=w.heap.size+1+1:=by rw [World.size_alloc,s1]
  have hb:Below w.heap.size w (((w.alloc (.cells #[.slice va X1.length vac] 27)).alloc (.cells #[.slice vb X2.length vbc] 27)).alloc (.cells #[.slice va X1.length vac] 27)):=zB (zC _ _) (zB (zC _ _) (zC _ _))
  exact ⟨zH _ (zJ _ s1),zJ _ s2,⟨b1,h1.far (fun k _ hk=>hb.block k hk)⟩,hb,by rw [World.size_alloc,s2];omega⟩
 have HO1:=hid o1
 clear h1 h2 o1 o2
 obtain ⟨n2,hn2⟩: ∃ n,X2.length=n:=⟨_,rfl⟩
 have HN2:=hid hn2
 obtain ⟨n1,hn1⟩: ∃ n,X1.length=n:=⟨_,rfl⟩
 rw [hn2] at l2 H0 HR2 ⊢
 have HN1:=hid hn1
 rw [hn1] at l1 H0 ⊢
 clear hn2 hn1
 have hl2:(n2:Int)≤300:=by omega
 go_enter Tryz.func22,Tryz.ntmps22
 go_upto_region 2 with fail
 generalize (((w.alloc (.cells #[.slice va n1 vac] 27)).alloc (.cells #[.slice vb n2 vbc] 27)).alloc (.cells #[.slice va n1 vac] 27))=w0 at H0 ⊢
 go_wp2
 go_loopw [6] (fun iv wr=> ∃ m:Nat,m≤n2∧iv= .int .i64 m∧Hid (∃ xa xn xc,AIW w wr (.slice vb n2 vbc) (.slice xa xn xc) ((X2.take m).foldl wX X1)∧(∀ X∈(X2.take m).foldl wX X1,X.ok)∧((X2.take m).foldl wX X1).length≤300+m)) (fun iv _=>n2 - (intOf iv).toNat)
 case atStart=>exact ⟨0,Nat.zero_le _,rfl,_,_,_,H0.out,HO1.out,by show X1.length≤_;rw [HN1.out];omega⟩
 case round=>
  obtain ⟨m,hm,rfl,HX⟩:=hrel
  obtain ⟨xa,xn,xc,ha,hok,hlen⟩:=HX.out
  clear HX
  have HA:=hid ha
  have HK:Hid ((∀ X∈(X2.take m).foldl wX X1,X.ok)∧((X2.take m).foldl wX X1).length≤300+m):=⟨hok,hlen⟩
  have cb2:wr.cell? ⟨w.heap.size+1,0,none⟩=some (.slice vb n2 vbc):=zR ha.b2
  have cx:wr.cell? ⟨w.heap.size+1+1,0,none⟩=some (.slice xa xn xc):=zR ha.x
  have fx:wr.frozen? ⟨w.heap.size+1+1,0,none⟩=false:=zF ha.x 0
  by_cases hlt:m<n2
  ·have hmX:m<X2.length:=by rw [HN2.out];exact hlt
   obtain ⟨X,hX⟩: ∃ X,X2[m]=X:=⟨_,rfl⟩
   have HT:Hid ((X2.take (m+1)).foldl wX X1=wX ((X2.take m).foldl wX X1) X):=by
    show _=_
    rw [List.take_succ_eq_append_getElem hmX,List.foldl_append,←hX]
    rfl
   have hXo:X.ok:=by rw [←hX];exact HO2.out _ (List.getElem_mem hmX)
   obtain ⟨a2,c2,e2,_,h3⟩:=(HR2.out.far (W':=wr) (fun k _ hk=>ha.b.block k hk)).form
   obtain ⟨b,q1,q2⟩:=h3 m hmX
   have q2:EvAt wr b (m*11) X.E X.sl X.skv X.mvv:=by rw [←hX];exact q2
   injection e2 with e1 e3 e4
   clear e3 e4
   rw [q1] at e1
   subst e1
   obtain ⟨⟨ra,rn,rc,er⟩,⟨sa,sn,sc,es⟩,⟨ma,mn,mc,em⟩⟩:=hXo
   have WI:Hid (∀ W,Below wr.heap.size wr W→Calls Tryz.prog 23 #[.agg #[.slice xa xn xc],.agg (eW X.E.id X.E.ti X.E.st X.E.lg X.E.f X.E.e ra rn rc X.E.c X.E.u sa sn sc ma mn mc)] W fun r w'=> ∃ ya yn yc,r= .returned (.agg #[.slice ya yn yc])∧MR W.heap.size w' (.slice ya yn yc) (wX ((X2.take m).foldl wX X1) X)∧Below W.heap.size W w'):=fun W hW=>by
    obtain ⟨base,hr⟩:=(HA.out.step hW).r
    refine Calls.mono (zcn base X.E ra rn rc sa sn sc ma mn mc _ _ W hr (by have:=HK.out.2;omega) HK.out.1) ?_
    rintro r w' ⟨v',rfl,hmr,hb'⟩
    have eX:(⟨X.E,.slice ra rn rc,.slice sa sn sc,.slice ma mn mc⟩:EX)=X:=by rw [←er,←es,←em]
    rw [eX] at hmr
    have hmr2:MR W.heap.size w' v' (wX ((X2.take m).foldl wX X1) X):=hmr
    obtain ⟨ya,yc,rfl,_⟩:=hmr2.form
    exact ⟨_,_,_,rfl,hmr2,hb'⟩
   obtain ⟨k0,k1,k2,k3,k4,k5,k6,k7,k8,k9,k10⟩:=q2
   rw [er] at k6
   rw [es] at k9
   rw [em] at k10
   have HOKX:Hid (X.ok):=⟨⟨ra,rn,rc,er⟩,⟨sa,sn,sc,es⟩,⟨ma,mn,mc,em⟩⟩
   have g1:(0:Int)≤(m:Int):=by omega
   have g2:(m:Int)<(n2:Int):=by omega
   have KS:Hid (∀ W,Below wr.heap.size wr W→Below wr.heap.size wr W∧W.cell? ⟨w.heap.size+1,0,none⟩=some (.slice (some ⟨b,0,none⟩) n2 vbc)∧W.cell? ⟨w.heap.size+1+1,0,none⟩=some (.slice xa xn xc)∧W.cell? ⟨b,m*11,none⟩=some (.string X.E.id)∧W.cell? ⟨b,m*11+1,none⟩=some (.string X.E.ti)∧W.cell? ⟨b,m*11+2,none⟩=some (.int .i64 X.E.st)∧W.cell? ⟨b,m*11+3,none⟩=some (.int .i64 X.E.lg)∧W.cell? ⟨b,m*11+4,none⟩=some (.string X.E.f)∧W.cell? ⟨b,m*11+5,none⟩=some (.int .i64 X.E.e)∧W.cell? ⟨b,m*11+6,none⟩=some (.slice ra rn rc)∧W.cell? ⟨b,m*11+7,none⟩=some (.int .i64 X.E.c)∧W.cell? ⟨b,m*11+8,none⟩=some (.int .i64 X.E.u)∧W.cell? ⟨b,m*11+9,none⟩=some (.slice sa sn sc)∧W.cell? ⟨b,m*11+10,none⟩=some (.slice ma mn mc)):=fun W hW=>⟨hW,zD cb2 hW,zD cx hW,zD k0 hW,zD k1 hW,zD k2 hW,zD k3 hW,zD k4 hW,zD k5 hW,zD k6 hW,zD k7 hW,zD k8 hW,zD k9 hW,zD k10 hW⟩
   clear ha hok hlen q1 h3 hX er es em
   go_upto_region 5 with fail
   go_region_with (go_at_call 23;refine Calls.mono (WI.out _ ?_) ?_;(first|with_reducible exact zI _|with_reducible assumption|exact Below.refl _ _);rintro r w21 ⟨ya,yn,yc,rfl,hmr,hb21⟩;have hw21:Below wr.heap.size wr w21:=(by first|with_reducible exact zB (zI _) hb21|exact hb21);have HMR:Hid (∃ base,MR base w21 (.slice ya yn yc) (wX ((X2.take m).foldl wX X1) X)):=⟨_,hmr⟩;clear hmr;have A21:=hid (HA.out.step hw21);have cz:w21.cell? ⟨w.heap.size+1+1,0,none⟩=some (.slice xa xn xc):=zR A21.out.x;have fz:w21.frozen? ⟨w.heap.size+1+1,0,none⟩=false:=zF A21.out.x 0)
   all_goals
    go_wp2
    obtain ⟨base,hmr⟩:=HMR.out
    refine ⟨⟨m+1,by omega,by go_num,ya,yn,yc,?_,?_,?_⟩,?_⟩
    ·rw [HT.out];exact A21.out.put hmr
    ·rw [HT.out];exact zmr HK.out.1 HOKX.out
    ·rw [HT.out];have:=zh8 ((X2.take m).foldl wX X1) X;have:=HK.out.2;omega
    ·simp [intOf];omega
  ·have hmn:m=n2:=by omega
   have g2:(n2:Int)≤(m:Int):=by omega
   have HE:Hid ((X2.take m).foldl wX X1=X2.foldl wX X1):=by show _=_;rw [hmn,←HN2.out,List.take_length]
   obtain ⟨base,hr⟩:=ha.r
   have MI:Hid (Calls Tryz.prog 29 #[.agg #[.slice xa xn xc]] wr fun r w'=> ∃ v',r= .returned v'∧Txs w' v' ((X2.foldl wX X1).map fun X=>X.E.id)∧Below wr.heap.size wr w'):=by
    rw [←HE.out]
    exact zeQ base _ _ wr hr (by omega)
   clear hmn hr hok hlen
   go_wp2_with (go_at_call 29;refine Calls.mono MI.out ?_;rintro r w5 ⟨v',rfl,htx,hb5⟩;have HTX:Hid (_):=htx;have HB5:=hid hb5;clear htx hb5)
   go_ret
   exact ⟨_,rfl,HTX.out,zB HA.out.b HB5.out⟩
end Go.Proofs.YtpeafgddbbojaaaGreatDoor
namespace Go.Proofs.YtpeafgddbbojaaaGreatDoor
open Go Go.RowKit Go.Maps Go.Sort Cal
theorem foldl_wX_map: ∀ (Zs Xs:List EX),(Zs.foldl wX Xs).map EX.E=(Zs.map EX.E).foldl (fun C E=>jL E C) (Xs.map EX.E)
 |[],_=>rfl
 |Z::r,Xs=>by
  rw [List.foldl_cons,foldl_wX_map r (wX Xs Z),List.map_cons,List.foldl_cons]
  unfold wX
  rw [zaT]
theorem foldl_putC_rises: ∀ (Z X:List EV),Rises X→Rises (Z.foldl (fun C E=>jL E C) X)
 |[],_,h=>h
 |_::r,_,h=>foldl_putC_rises r _ (xo h)
theorem foldl_putC_ids: ∀ (Z X:List EV) (id:ByteArray),(∃ E∈Z.foldl (fun C E=>jL E C) X,E.id=id)↔(∃ E∈X,E.id=id)∨(∃ E∈Z,E.id=id)
 |[],X,id=>by simp
 |F::r,X,id=>by
  rw [List.foldl_cons,foldl_putC_ids r]
  constructor
  ·rintro (⟨E,hE,e⟩|⟨E,hE,e⟩)
   ·rcases yY.1 hE with rfl|⟨h,_⟩
    ·exact .inr ⟨E,List.mem_cons_self,e⟩
    ·exact .inl ⟨E,h,e⟩
   ·exact .inr ⟨E,List.mem_cons_of_mem _ hE,e⟩
  ·rintro (⟨E,hE,e⟩|⟨E,hE,e⟩)
   ·by_cases q:E.id=F.id
    ·exact .inl ⟨F,yY.2 (.inl rfl),q.symm.trans e⟩
    ·exact .inl ⟨E,yY.2 (.inr ⟨hE,q⟩),e⟩
   ·rcases List.mem_cons.1 hE with rfl|hE
    ·exact .inl ⟨E,yY.2 (.inl rfl),e⟩
    ·exact .inr ⟨E,hE,e⟩
def zcV(Xs Ys Zs:List EX):List ByteArray:=(Zs.foldl wX (Ys.foldl wX Xs)).map fun X=>X.E.id
theorem zid(Xs Ys Zs:List EX):zcV Xs Ys Zs=((Zs.map EX.E).foldl (fun C E=>jL E C) ((Ys.map EX.E).foldl (fun C E=>jL E C) (Xs.map EX.E))).map EV.id:=by
 unfold zcV
 rw [←foldl_wX_map,←foldl_wX_map,List.map_map]
 rfl
theorem foldl_wX_len: ∀ (Zs Xs:List EX),(Zs.foldl wX Xs).length≤Xs.length+Zs.length
 |[],_=>Nat.le_refl _
 |Z::r,Xs=>by
  have h1:=foldl_wX_len r (wX Xs Z)
  have h2:=zh8 Xs Z
  rw [List.foldl_cons,List.length_cons]
  omega
theorem zjs(Xs Ys Zs:List EX):(zcV Xs Ys Zs).length≤Xs.length+Ys.length+Zs.length:=by
 unfold zcV
 rw [List.length_map]
 have h1:=foldl_wX_len Zs (Ys.foldl wX Xs)
 have h2:=foldl_wX_len Ys Xs
 omega
theorem zlc(Xs Ys Zs:List EX)(h:Rises (Xs.map EX.E)):(zcV Xs Ys Zs).Pairwise fun a b=>a.data.toList<b.data.toList:=by
 rw [zid]
 exact List.pairwise_map.2 (foldl_putC_rises _ _ (foldl_putC_rises _ _ h))
theorem zjt(Xs Ys Zs:List EX)(id:ByteArray):id∈zcV Xs Ys Zs↔((∃ E∈Xs.map EX.E,E.id=id)∨(∃ E∈Ys.map EX.E,E.id=id))∨(∃ E∈Zs.map EX.E,E.id=id):=by
 rw [zid,List.mem_map,foldl_putC_ids,foldl_putC_ids]
theorem foldl_skipX{α β:Type}(f:α→β→α)(p:β→Bool)(h: ∀ a b,p b=false→f a b=a): ∀ (l:List β) (a:α),l.foldl f a=(l.filter p).foldl f a
 |[],_=>rfl
 |b::r,a=>by
  rw [List.foldl_cons,List.filter_cons]
  cases q:p b with
  |false=>rw [h a b q];exact foldl_skipX f p h r a
  |true=>rw [if_pos rfl,List.foldl_cons];exact foldl_skipX f p h r _
theorem zie{C:List EV}{id:ByteArray}(h: ¬ ∃ E∈C,E.id=id):lkC C id=none:=by
 cases hq:lkC C id with
 |none=>rfl
 |some F=>exact absurd ⟨F,(yM hq).1,(yM hq).2⟩ h
theorem zju(Xs Ys Zs:List EX)(h:Rises (Xs.map EX.E)):thr (Xs.map EX.E) (Ys.map EX.E) (Zs.map EX.E) (zcV Xs Ys Zs)=thr (Xs.map EX.E) (Ys.map EX.E) (Zs.map EX.E) (zai (Ys.map EX.E) (Zs.map EX.E)):=by
 classical
 have hup:=zlc Xs Ys Zs h
 have hnd:(zcV Xs Ys Zs).Nodup:=hup.imp (fun {a b} q e=>by rw [e] at q;exact absurd q (List.lt_irrefl _))
 have hf:(zcV Xs Ys Zs).filter (fun id=>decide (id∈zai (Ys.map EX.E) (Zs.map EX.E)))=zai (Ys.map EX.E) (Zs.map EX.E):=by
  have hp:((zcV Xs Ys Zs).filter (fun id=>decide (id∈zai (Ys.map EX.E) (Zs.map EX.E)))).Perm (zai (Ys.map EX.E) (Zs.map EX.E)):=(List.perm_ext_iff_of_nodup (hnd.filter _) (zbT _ _)).2 (fun x=>by
   rw [List.mem_filter,decide_eq_true_iff,zjt]
   constructor
   ·exact fun q=>q.2
   ·intro q
    refine ⟨?_,q⟩
    rcases (jn _ _ _).1 q with z|z
    ·exact .inl (.inr z)
    ·exact .inr z)
  exact List.Perm.eq_of_pairwise (le:=fun (a b:ByteArray)=>a.data.toList<b.data.toList) (fun a b _ _ q1 q2=>absurd (List.lt_trans q1 q2) (List.lt_irrefl _)) (hup.filter _) (List.pairwise_map.1 (zkY _ _)) hp
 unfold thr
 rw [foldl_skipX _ (fun id=>decide (id∈zai (Ys.map EX.E) (Zs.map EX.E))) (fun a id q=> ?_),hf]
 have hno:=mt (jn _ _ id).2 (of_decide_eq_false q)
 rw [xd,zie (fun z=>hno (.inl z)),zie (C:=Zs.map EX.E) (fun z=>hno (.inr z)),zkW]
 rfl
theorem zjv(X Y Z:List EV)(ids:List ByteArray): ∀ m,m≤ids.length→(thr X Y Z (ids.take m)).2.length≤6*m∧(thr X Y Z (ids.take m)).1.length≤60:=by
 intro m
 induction m with
 |zero=>intro _;rw [List.take_zero];exact ⟨Nat.le_refl _,Nat.zero_le _⟩
 |succ m ih=>
  intro hm
  obtain ⟨h1,h2⟩:=ih (by omega)
  rw [jy X Y Z ids m hm]
  refine ⟨?_,zhV X Y Z _ _ h2⟩
  have:=zhS ids[m] (thr X Y Z (ids.take m)) (lkC X ids[m]) (lkC Y ids[m]) (lkC Z ids[m])
  rw [xd]
  omega
theorem zif{E:EV}(h:EW E)(h20:E.ds.length≤20):zaV E=0:=by
 obtain ⟨b1,b2,_⟩:=yX h.ls
 have b3:=h.id
 have b4:=h.ti
 unfold zdX at b3
 unfold zfe at b4
 have b5:E.f.size≤20:=by
  have e:E.f.size=E.f.toList.length:=by rw [Lib.size_eq,Lib.toList_data]
  rw [e]
  rcases h.rl.fr with q|q|q|q|q<;>(rw [show E.f.toList=_ from q];decide)
 unfold zaV
 rw [if_neg]
 omega
theorem XRd.got{w:World}{X:EX}(h:XRd w X):XGot w X:=⟨h.1,h.2.1,h.2.2.1,zif h.2.2.2.2 h.2.2.2.1⟩
open Classical in
theorem zfy{id:ByteArray}{Os:List EX}{cl:List (ByteArray×ByteArray)}{E:EV}(q:(¬ ∃ Y∈Os,Y.E.id=E.id)∧60≤Os.length):jAp id (Os.map EX.E,cl) (.inl (some E))=(Os.map EX.E,cl++[(id,jZ)]):=by
 unfold jAp
 dsimp only
 rw [if_pos]
 refine ⟨fun ⟨F,hF,e⟩=>q.1 ?_,by rw [List.length_map];exact q.2⟩
 obtain ⟨Y,hY,rfl⟩:=List.mem_map.1 hF
 exact ⟨Y,hY,e⟩
open Classical in
theorem zig{id:ByteArray}{Os:List EX}{cl:List (ByteArray×ByteArray)}{E:EV}(q: ¬ ((¬ ∃ Y∈Os,Y.E.id=E.id)∧60≤Os.length)):jAp id (Os.map EX.E,cl) (.inl (some E))=(jL E (Os.map EX.E),cl):=by
 unfold jAp
 dsimp only
 rw [if_neg]
 rintro ⟨h1,h2⟩
 refine q ⟨fun ⟨Y,hY,e⟩=>h1 ⟨Y.E,List.mem_map_of_mem hY,e⟩,?_⟩
 rwa [List.length_map] at h2
theorem zih{Xs:List EX}(h:Rises (Xs.map EX.E)){i j:Nat}(hi:i<Xs.length)(hj:j<Xs.length)(e:Xs[i].E.id=Xs[j].E.id):i=j:=by
 have hp:=List.pairwise_iff_getElem.1 h
 have key: ∀ a b (ha:a<Xs.length) (hb:b<Xs.length),a<b→Xs[a].E.id=Xs[b].E.id→False:=fun a b ha hb hab q=>by
  have z:=hp a b (by rw [List.length_map];exact ha) (by rw [List.length_map];exact hb) hab
  rw [List.getElem_map,List.getElem_map] at z
  unfold kb at z
  rw [q] at z
  exact List.lt_irrefl _ z
 rcases Nat.lt_trichotomy i j with q|q|q
 ·exact absurd (key i j hi hj q e) id
 ·exact q
 ·exact absurd (key j i hj hi q e.symm) id
theorem zii{base:Nat}{W:World}{a:Option Addr}{n k:Nat}{Xs:List EX}(h:MR base W (.slice a n k) Xs)(h8:Xs.length≤1000)(hx: ∀ X∈Xs,XRd W X)(hs:Rises (Xs.map EX.E)){id:ByteArray}{E:EV}(hl:lkC (Xs.map EX.E) id=some E):
  ∃ (j b:Nat) (ra sa ma:Option Addr) (rn rc sn sc mn mc:Nat),a=some ⟨b,0,none⟩∧j<n∧EvAt W b (j*11) E (.slice ra rn rc) (.slice sa sn sc) (.slice ma mn mc)∧XRd W ⟨E,.slice ra rn rc,.slice sa sn sc,.slice ma mn mc⟩∧E.id=id∧
   ∀ W',Below W.heap.size W W'→Calls Tryz.prog 28 #[.agg #[.slice a n k],.string id] W' fun rr w'=>rr= .returned (.int .i64 (j:Int))∧Below W'.heap.size W' w':=by
 obtain ⟨h1,h2⟩:=yM hl
 obtain ⟨X,hX,rfl⟩:=List.mem_map.1 h1
 obtain ⟨j,hj,rfl⟩:=List.mem_iff_getElem.1 hX
 obtain ⟨a',cap,e,_,hc⟩:=h.form
 injection e with e1 e2 e3
 subst e1 e2 e3
 obtain ⟨b,rfl,hE⟩:=hc j hj
 have hr:=hx _ hX
 obtain ⟨⟨ra,rn,rc,er⟩,⟨sa,sn,sc,es⟩,⟨ma,mn,mc,em⟩⟩:=hr.got.ok
 refine ⟨j,b,ra,sa,ma,rn,rc,sn,sc,mn,mc,rfl,hj,by rw [←er,←es,←em];exact hE,by rw [←er,←es,←em];exact hr,h2,fun W' hW=> ?_⟩
 refine Calls.mono (zgD base id _ Xs W' (h.far (fun k _ hk=>hW.block k hk)) h8) ?_
 rintro rr w' ⟨q,rfl,hq,hb⟩
 rcases hq with ⟨_,hn⟩|⟨m,hm,rfl,e⟩
 ·exact absurd ⟨_,hX,h2⟩ hn
 ·rw [zih hs hm hj (e.trans h2.symm)]
  exact ⟨rfl,hb⟩
end Go.Proofs.YtpeafgddbbojaaaGreatDoor
namespace Go.Proofs.YtpeafgddbbojaaaGreatDoor
open Go Go.RowKit Go.Sort Cal
attribute [local go_sem] Oper.semAt_some
open Classical in
noncomputable def pkT(x y z:ByteArray):ByteArray×Bool:=if y=z then (y,true) else if y=x then (z,true) else if z=x then (y,true) else (⟨#[]⟩,false)
theorem zex{x y:ByteArray}:(x.toList==y.toList)=true↔x=y:=by
 rw [beq_iff_eq,ByteArray.toList_eq,ByteArray.toList_eq]
 constructor
 ·intro h
  have h2:x.data=y.data:=Array.toList_inj.1 h
  cases x;cases y
  cases h2
  rfl
 ·intro h;rw [h]
theorem zhZ{x y:ByteArray}(h:x≠y):(x.toList==y.toList)=false:=by
 rw [←Bool.not_eq_true,zex]
 exact h
theorem zaH(x y z:ByteArray)(w:World):
  Calls Tryz.prog 25 #[.string x,.string y,.string z] w fun r w'=>r= .returned (.tuple #[.string (pkT x y z).1,.bool (pkT x y z).2])∧w'=w:=by
 by_cases h1:y=z
 ·have e:pkT x y z=(y,true):=if_pos h1
  have h1':=zex.2 h1
  rw [e]
  clear h1 e
  go_enter Tryz.func25,Tryz.ntmps25
  go_wp2
  go_ret2
  exact ⟨rfl,rfl⟩
 ·have h1':=zhZ h1
  by_cases h2:y=x
  ·have e:pkT x y z=(z,true):=by unfold pkT;rw [if_neg h1,if_pos h2]
   have h2':=zex.2 h2
   rw [e]
   clear h1 h2 e
   go_enter Tryz.func25,Tryz.ntmps25
   go_wp2
   go_ret2
   exact ⟨rfl,rfl⟩
  ·have h2':=zhZ h2
   by_cases h3:z=x
   ·have e:pkT x y z=(y,true):=by unfold pkT;rw [if_neg h1,if_neg h2,if_pos h3]
    have h3':=zex.2 h3
    rw [e]
    clear h1 h2 h3 e
    go_enter Tryz.func25,Tryz.ntmps25
    go_wp2
    go_ret2
    exact ⟨rfl,rfl⟩
   ·have h3':=zhZ h3
    have e:pkT x y z=(⟨#[]⟩,false):=by unfold pkT;rw [if_neg h1,if_neg h2,if_neg h3]
    rw [e]
    clear h1 h2 h3 e
    go_enter Tryz.func25,Tryz.ntmps25
    go_wp2
    go_ret2
    exact ⟨rfl,rfl⟩
theorem zau(xs:List Int)(v:Value)(x:Int)(w:World)(h:Got w v xs)(hl:xs.length≤100000):
  Calls Tryz.prog 88 #[.int .i64 x,v] w fun r w'=>r= .returned (.bool (decide (x∈xs)))∧w'=w:=by
 obtain ⟨a,cap,rfl,hn,hs⟩:=h
 have HS:=hid hs
 have HN:=hid hn
 have hli:(xs.length:Int)≤100000:=by omega
 clear hs hn
 generalize hbd:decide (x∈xs)=bb
 have HBD:=hid hbd
 clear hbd
 go_enter Tryz.func88,Tryz.ntmps88
 go_wp2
 go_loop [5] (fun i=> ∃ m:Nat,m≤xs.length∧i= .int .i64 m∧Hid (∀ (j:Nat) (hj:j<xs.length),j<m→xs[j]≠x)) (fun i=>xs.length - (intOf i).toNat)
 case atStart=>exact ⟨0,Nat.zero_le _,rfl,fun j _ hj=>by omega⟩
 case round=>
  obtain ⟨m,hm,rfl,HM⟩:=hrel
  by_cases hlt:m<xs.length
  ·obtain ⟨ad,rfl⟩: ∃ ad,a=some ad:=by
    cases a with
    |none=>exact absurd (HN.out rfl).1 (by omega)
    |some ad=>exact ⟨ad,rfl⟩
   have hcell:=(HS.out ad rfl m hlt).2
   have HX:Hid (∀ y,xs[m]=y→y∈xs):=fun y q=>by rw [←q];exact List.getElem_mem hlt
   have HY:Hid (∀ y,xs[m]=y→y≠x→ ∀ (j:Nat) (hj:j<xs.length),j<m+1→xs[j]≠x):=fun y q qq j hj hjm=>by
    rcases Nat.lt_or_ge j m with z|z
    ·exact HM.out j hj z
    ·have:j=m:=by omega
     subst this
     rw [q];exact qq
   have HE:Hid (xs[m]=xs[m]):=rfl
   generalize hy:xs[m]=y at hcell HX HY
   have g1:(0:Int)≤(m:Int):=by omega
   have g2:(m:Int)<(xs.length:Int):=by omega
   have IN:=hid (HX.out y rfl)
   have HY2:=hid (HY.out y rfl)
   clear HX HY HE hy HM
   by_cases hyx:y=x
   ·have HD:Hid (true=bb):=by show _=_;rw [←HBD.out];exact (decide_eq_true (hyx▸IN.out)).symm
    clear IN HY2
    subst hyx
    go_wp2
    go_ret
    exact ⟨congrArg (fun b=>Ending.returned (.bool b)) HD.out,rfl⟩
   ·have HZ:=hid (HY2.out hyx)
    clear HY2 IN
    go_wp2
    go_round
    case rel=>exact ⟨m+1,by omega,by go_num,HZ.out⟩
    case measure=>simp [intOf];omega
  ·have HD:Hid (false=bb):=by
    show _=_
    rw [←HBD.out]
    exact (decide_eq_false (fun q=>by
     obtain ⟨j,hj,e⟩:=List.getElem_of_mem q
     exact HM.out j hj (by omega) e)).symm
   clear HM
   have g2:(xs.length:Int)≤(m:Int):=by omega
   go_wp2
   go_ret
   exact ⟨congrArg (fun b=>Ending.returned (.bool b)) HD.out,rfl⟩
def toM(ms:List (Int×Int))(f:Int):Int:=match ms.find? (fun m=>m.1==f) with|some m=>m.2|none=> -1
theorem zml{ms:List (Int×Int)}{f:Int}{m:Nat}(hm:m<ms.length)(h0: ∀ (j:Nat) (hj:j<ms.length),j<m→ms[j].1≠f)(h1:ms[m].1=f):toM ms f=ms[m].2:=by
 unfold toM
 have:ms.find? (fun m=>m.1==f)=some ms[m]:=by
  rw [List.find?_eq_some_iff_getElem]
  refine ⟨by simpa using h1,m,hm,rfl,fun j hj=> ?_⟩
  simpa using h0 j (by omega) hj
 rw [this]
theorem zmm{ms:List (Int×Int)}{f:Int}(h0: ∀ (j:Nat) (hj:j<ms.length),ms[j].1≠f):toM ms f= -1:=by
 unfold toM
 have:ms.find? (fun m=>m.1==f)=none:=by
  rw [List.find?_eq_none]
  intro x hx
  obtain ⟨j,hj,rfl⟩:=List.getElem_of_mem hx
  simpa using h0 j hj
 rw [this]
theorem zm5(ad:Addr)(j:Nat):ad.add (j*2+1)=⟨(ad.add (j*2)).block,(ad.add (j*2)).off+1,none⟩:=by
 unfold Addr.add
 rw [if_neg (by omega)]
 split
 ·rename_i h;rw [h]
 ·simp;omega
set_option maxHeartbeats 1000000 in
theorem zcI(ms:List (Int×Int))(v:Value)(f:Int)(w:World)(h:GotM w v ms)(hl:ms.length≤100000):
  Calls Tryz.prog 89 #[v,.int .i64 f] w fun r w'=>r= .returned (.int .i64 (toM ms f))∧w'=w:=by
 obtain ⟨a,cap,rfl,hn,hs⟩:=h
 have HS:=hid hs
 have HN:=hid hn
 have hli:(ms.length:Int)≤100000:=by omega
 clear hs hn
 generalize hbd:toM ms f=bb
 have HBD:=hid hbd
 clear hbd
 go_enter Tryz.func89,Tryz.ntmps89
 go_wp2
 go_loop [5] (fun i=> ∃ m:Nat,m≤ms.length∧i= .int .i64 m∧Hid (∀ (j:Nat) (hj:j<ms.length),j<m→ms[j].1≠f)) (fun i=>ms.length - (intOf i).toNat)
 case atStart=>exact ⟨0,Nat.zero_le _,rfl,fun j _ hj=>by omega⟩
 case round=>
  obtain ⟨m,hm,rfl,HM⟩:=hrel
  by_cases hlt:m<ms.length
  ·obtain ⟨ad,rfl⟩: ∃ ad,a=some ad:=by
    cases a with
    |none=>exact absurd (HN.out rfl).1 (by omega)
    |some ad=>exact ⟨ad,rfl⟩
   obtain ⟨_,hc1,hc2⟩:=HS.out ad rfl m hlt
   have HX:Hid (ms[m].1=f→ms[m].2=bb):=fun q=>by rw [←HBD.out];exact (zml hlt HM.out q).symm
   have HY:Hid (ms[m].1≠f→ ∀ (j:Nat) (hj:j<ms.length),j<m+1→ms[j].1≠f):=fun qq j hj hjm=>by
    rcases Nat.lt_or_ge j m with z|z
    ·exact HM.out j hj z
    ·have:j=m:=by omega
     subst this
     exact qq
   generalize ms[m].1=y1 at hc1 HX HY
   generalize ms[m].2=y2 at hc2 HX
   have g1:(0:Int)≤(m:Int):=by omega
   have g2:(m:Int)<(ms.length:Int):=by omega
   clear HM
   rw [zm5] at hc2
   cases m with
   |zero=>
    have k1:w.cell? ad=some (.int .i64 y1):=hc1
    have k2:w.cell? ⟨ad.block,ad.off+1,none⟩=some (.int .i64 y2):=hc2
    have l0:0<ms.length:=hlt
    by_cases hyx:y1=f
    ·have HD:=hid (HX.out hyx)
     clear HX HY hc1 hc2
     subst hyx
     go_wp2
     go_ret
     exact ⟨congrArg (fun b=>Ending.returned (.int .i64 b)) HD.out,rfl⟩
    ·have HZ:=hid (HY.out hyx)
     clear HX HY hc1 hc2
     go_wp2
     go_round
     case rel=>exact ⟨1,by omega,by go_num,HZ.out⟩
     case measure=>simp [intOf];omega
   |succ m=>
    by_cases hyx:y1=f
    ·have HD:=hid (HX.out hyx)
     clear HX HY
     subst hyx
     go_wp2
     go_ret
     exact ⟨congrArg (fun b=>Ending.returned (.int .i64 b)) HD.out,rfl⟩
    ·have HZ:=hid (HY.out hyx)
     clear HX HY
     go_wp2
     go_round
     case rel=>exact ⟨m+1+1,by omega,by go_num,HZ.out⟩
     case measure=>simp [intOf];omega
  ·have HD:Hid (-1=bb):=by
    show _=_
    rw [←HBD.out]
    exact (zmm (fun j hj=>HM.out j hj (by omega))).symm
   clear HM
   have g2:(ms.length:Int)≤(m:Int):=by omega
   go_wp2
   go_ret
   exact ⟨congrArg (fun b=>Ending.returned (.int .i64 b)) HD.out,rfl⟩
end Go.Proofs.YtpeafgddbbojaaaGreatDoor
namespace Go.Proofs.YtpeafgddbbojaaaGreatDoor
open Go Cal
def mnS(p:Int→Bool)(d x:Int):Int:=if p x=true∧(d<0∨x<d) then x else d
def mnF(p:Int→Bool)(l:List Int):Int:=l.foldl (mnS p) (-1)
theorem zcJ(p:Int→Bool)(l:List Int)(x:Int):mnF p (l++[x])=mnS p (mnF p l) x:=by
 unfold mnF
 rw [List.foldl_append]
 rfl
theorem zfp(p:Int→Bool)(l:List Int)(h: ∀ x∈l,0≤x):(mnF p l= -1∧ ∀ x∈l,p x=false)∨(0≤mnF p l∧mnF p l∈l∧p (mnF p l)=true∧ ∀ x∈l,p x=true→mnF p l≤x):=by
 have key: ∀ r:List Int,(∀ x∈r,0≤x)→(mnF p r.reverse= -1∧ ∀ x∈r.reverse,p x=false)∨(0≤mnF p r.reverse∧mnF p r.reverse∈r.reverse∧p (mnF p r.reverse)=true∧ ∀ x∈r.reverse,p x=true→mnF p r.reverse≤x):=by
  intro r
  induction r with
  |nil=>intro _;left;exact ⟨rfl,fun x hx=>by simp at hx⟩
  |cons a r ih=>
   intro h
   have ha:=h a List.mem_cons_self
   have ih:=ih (fun x hx=>h x (List.mem_cons_of_mem _ hx))
   rw [List.reverse_cons,zcJ]
   unfold mnS
   by_cases hp:p a=true
   ·by_cases hd:mnF p r.reverse<0∨a<mnF p r.reverse
    ·rw [if_pos ⟨hp,hd⟩]
     right
     refine ⟨ha,by simp,hp,fun x hx hxp=> ?_⟩
     rcases List.mem_append.1 hx with q|q
     ·rcases ih with ⟨_,i2⟩|⟨i0,_,_,i4⟩
      ·rw [i2 x q] at hxp;cases hxp
      ·have:=i4 x q hxp
       omega
     ·rw [List.mem_singleton.1 q];omega
    ·rw [if_neg (fun q=>hd q.2)]
     rcases ih with ⟨i1,_⟩|⟨i0,i2,i3,i4⟩
     ·omega
     ·right
      refine ⟨i0,List.mem_append_left _ i2,i3,fun x hx hxp=> ?_⟩
      rcases List.mem_append.1 hx with q|q
      ·exact i4 x q hxp
      ·rw [List.mem_singleton.1 q];omega
   ·rw [if_neg (fun q=>hp q.1)]
    rcases ih with ⟨i1,i2⟩|⟨i0,i2,i3,i4⟩
    ·left
     refine ⟨i1,fun x hx=> ?_⟩
     rcases List.mem_append.1 hx with q|q
     ·exact i2 x q
     ·rw [List.mem_singleton.1 q];exact Bool.not_eq_true _▸hp
    ·right
     refine ⟨i0,List.mem_append_left _ i2,i3,fun x hx hxp=> ?_⟩
     rcases List.mem_append.1 hx with q|q
     ·exact i4 x q hxp
     ·rw [List.mem_singleton.1 q] at hxp;exact absurd hxp hp
 have:=key l.reverse (fun x hx=>h x (by simpa using hx))
 rw [List.reverse_reverse] at this
 exact this
theorem zjn{J:List Int}(hJ:J.Pairwise (· < ·)){i j:Nat}(hi:i<J.length)(hj:j<J.length)(h:i<j):J[i]<J[j]:=List.pairwise_iff_getElem.1 hJ i j hi hj h
theorem zfq{p q:Int→Bool}{J l:List Int}(hJ:J.Pairwise (· < ·))(hm: ∀ x,x∈J↔x∈l∧p x=true)(h0: ∀ x∈l,0≤x){k:Nat}(hk:k≤J.length)(hq: ∀ x∈l,q x=true↔(p x=true∧ ∀ (i:Nat) (h:i<J.length),i+1=k→J[i]<x)):
  (∀ h:k<J.length,mnF q l=J[k])∧(k=J.length→mnF q l= -1):=by
 have fwd: ∀ x∈l,q x=true→ ∃ (i:Nat) (h:i<J.length),k≤i∧J[i]=x:=fun x hx hqx=>by
  obtain ⟨h1,h2⟩:=(hq x hx).1 hqx
  obtain ⟨i,hi,e⟩:=List.getElem_of_mem ((hm x).2 ⟨hx,h1⟩)
  refine ⟨i,hi,?_,e⟩
  apply Classical.byContradiction
  intro hc
  have h3:=h2 (k - 1) (by omega) (by omega)
  rw [←e] at h3
  rcases Nat.lt_or_ge i (k - 1) with z|z
  ·have:=zjn hJ hi (show k - 1<J.length by omega) z;omega
  ·have:i=k - 1:=by omega
   subst this
   omega
 constructor
 ·intro h
  have hkm:=(hm J[k]).1 (List.getElem_mem h)
  have hkq:q J[k]=true:=(hq _ hkm.1).2 ⟨hkm.2,fun i hi e=>zjn hJ hi h (by omega)⟩
  rcases zfp q l h0 with ⟨_,z⟩|⟨_,z1,z2,z3⟩
  ·rw [z _ hkm.1] at hkq;cases hkq
  ·obtain ⟨i,hi,hki,e⟩:=fwd _ z1 z2
   have h4:=z3 _ hkm.1 hkq
   rcases Nat.lt_or_ge k i with z|z
   ·have:=zjn hJ h hi z;omega
   ·have:i=k:=by omega
    subst this
    exact e.symm
 ·intro h
  rcases zfp q l h0 with ⟨z,_⟩|⟨_,z1,z2,_⟩
  ·exact z
  ·obtain ⟨i,hi,hki,_⟩:=fwd _ z1 z2
   omega
def stB(x y z:Bool):Bool:=x&&y|| !z&&(x||y)
end Go.Proofs.YtpeafgddbbojaaaGreatDoor
namespace Go.Proofs.YtpeafgddbbojaaaGreatDoor
open Go Go.RowKit Go.Sort Cal
attribute [local go_sem] Oper.semAt_some
theorem zQ{base n:Nat}{W:World}{e:TypeId}{size:Nat}{v:Value}{xs:List Value}(h:W.ownsRow base e size v n xs): ∃ a c,v= .slice a n c:=by
 rcases h.2 with ⟨rfl,h0⟩|⟨g,cap,cur,rfl,_⟩
 ·exact ⟨none,0,by rw [h0]⟩
 ·exact ⟨_,_,rfl⟩
theorem ve(c:UInt8): ∀ l:List UInt8,zZ c l≠[]
 |[]=>by simp [zZ]
 |b::t=>by
  unfold zZ
  split
  ·simp
  ·split<;>simp
theorem zbu(c:UInt8): ∀ l:List UInt8,(zZ c l).length≤l.length+1
 |[]=>by simp [zZ]
 |b::t=>by
  have h:=zbu c t
  unfold zZ
  split
  ·simp only [List.length_cons];omega
  ·split
   ·simp
   ·rename_i hq
    rw [hq] at h
    simp only [List.length_cons] at h ⊢
    omega
theorem vQ(c:UInt8): ∀ l:List UInt8,zZ c (l++[c])=zZ c l++[[]]
 |[]=>by simp [zZ]
 |b::t=>by
  have h:=vQ c t
  rw [List.cons_append]
  unfold zZ
  by_cases hb:b=c
  ·rw [if_pos hb,if_pos hb,h];rfl
  ·rw [if_neg hb,if_neg hb,h]
   cases hq:zZ c t with
   |nil=>exact absurd hq (ve c t)
   |cons x r=>rfl
theorem xu(c d:UInt8)(hd:d≠c): ∀ l:List UInt8,∃ (I:List (List UInt8)) (x:List UInt8),zZ c l=I++[x]∧zZ c (l++[d])=I++[x++[d]]
 |[]=>⟨[],[],by simp [zZ],by simp [zZ,hd]⟩
 |b::t=>by
  obtain ⟨I,x,h1,h2⟩:=xu c d hd t
  rw [List.cons_append]
  unfold zZ
  by_cases hb:b=c
  ·rw [if_pos hb,if_pos hb,h1,h2]
   exact ⟨[]::I,x,rfl,rfl⟩
  ·rw [if_neg hb,if_neg hb,h1,h2]
   cases I with
   |nil=>exact ⟨[],b::x,rfl,rfl⟩
   |cons y r=>exact ⟨(b::y)::r,x,rfl,rfl⟩
def yU(c:UInt8)(l:List UInt8):List (List UInt8):=(zZ c l).dropLast
def yt(c:UInt8)(l:List UInt8):List UInt8:=(zZ c l).getLast (ve c l)
theorem zaa(c:UInt8)(l:List UInt8):zZ c l=yU c l++[yt c l]:=(List.dropLast_concat_getLast (ve c l)).symm
theorem zk0(c:UInt8)(l:List UInt8):yU c (l++[c])=yU c l++[yt c l]∧yt c (l++[c])=[]:=by
 have h:=vQ c l
 have h2:=zaa c (l++[c])
 rw [h,zaa c l] at h2
 have h3:=List.append_inj' h2 rfl
 exact ⟨h3.1.symm,by injection h3.2 with q _;exact q.symm⟩
theorem zjk(c d:UInt8)(l:List UInt8)(hd:d≠c):yU c (l++[d])=yU c l∧yt c (l++[d])=yt c l++[d]:=by
 obtain ⟨I,x,h1,h2⟩:=xu c d hd l
 have e1:=zaa c l
 have e2:=zaa c (l++[d])
 rw [h1] at e1
 rw [h2] at e2
 have q1:=List.append_inj' e1 rfl
 have q2:=List.append_inj' e2 rfl
 have r1:x=yt c l:=by injection q1.2
 have r2:x++[d]=yt c (l++[d]):=by injection q2.2
 exact ⟨q2.1.symm.trans q1.1,r2.symm.trans (by rw [r1])⟩
theorem vH(s:ByteArray)(a b:Nat):s.extract a b=bs ((s.data.toList.take b).drop a):=by
 apply zaO
 rw [zh]
 simp [ByteArray.data_extract,Array.toList_extract,List.drop_take]
theorem zbv(W:World)(x:ByteArray): ∀ (j:Nat) (v:Value),[Value.string x][j]? =some v→(W.alloc (.cells #[.string x] 9)).cell? ((⟨W.heap.size,0,none⟩:Addr).add j)=some v:=fun j v hv=>by
 match j,hv with
 |0,hv=>simp at hv;subst hv;simp [Addr.add]
structure CutAtR(s:ByteArray)(c:UInt8)(w wr:World)(k f:Nat)(v:Value):Prop where
 own:wr.ownsRow w.heap.size 9 1 v (yU c (s.data.toList.take k)).length ((yU c (s.data.toList.take k)).map sv)
 below:Below w.heap.size w wr
 le:f≤k
 last:(s.data.toList.take k).drop f=yt c (s.data.toList.take k)
theorem CutAtR.miss{s:ByteArray}{c:UInt8}{w wr:World}{k f:Nat}{v:Value}(h:CutAtR s c w wr k f v)(hk:k<s.size)(hne:s[k]≠c):CutAtR s c w wr (k+1) f v:=by
 have e:=vg s k hk
 obtain ⟨q1,q2⟩:=zjk c s[k] (s.data.toList.take k) hne
 have hl:(s.data.toList.take k).length=k:=by rw [List.length_take,←Lib.size_eq];omega
 refine ⟨by rw [e,q1];exact h.own,h.below,by have:=h.le;omega,?_⟩
 rw [e,q2,List.drop_append_of_le_length (by rw [hl];exact h.le),h.last]
theorem zgj{s:ByteArray}{c:UInt8}{w w5:World}{k:Nat}{v':Value}(hk:k<s.size)(he:s[k]=c)(ho:w5.ownsRow w.heap.size 9 1 v' ((yU c (s.data.toList.take k)).length+1) ((yU c (s.data.toList.take k)).map sv++[sv (yt c (s.data.toList.take k))]))(hb:Below w.heap.size w w5):CutAtR s c w w5 (k+1) (k+1) v':=by
 have e:=vg s k hk
 obtain ⟨q1,q2⟩:=zk0 c (s.data.toList.take k)
 rw [he] at e
 have hl:(s.data.toList.take (k+1)).length=k+1:=by rw [List.length_take,←Lib.size_eq];omega
 refine ⟨?_,hb,Nat.le_refl _,?_⟩
 ·rw [e,q1,List.length_append,List.map_append]
  exact ho
 ·rw [List.drop_of_length_le (by rw [hl];exact Nat.le_refl _),e,q2]
set_option maxHeartbeats 2000000 in
set_option maxRecDepth 100000 in
theorem xR(s:ByteArray)(c:UInt8)(w:World)(hs:s.size≤100000):
  Calls Tryz.prog 50 #[.string s,.int .u8 c.toNat] w fun r w'=>Below w.heap.size w w'∧ ∃ v,r= .returned v∧w'.ownsRow w.heap.size 9 1 v (zZ c s.data.toList).length ((zZ c s.data.toList).map sv):=by
 obtain ⟨i0,hi,hz0,hz1,hz2⟩:=info_parts ye
 go_enter Tryz.func50,Tryz.ntmps50
 go_wp2
 go_loopw [5,6,7] (fun v fr i wr=> ∃ k f:Nat,k≤s.size∧i= .int .i64 k∧fr= .int .i64 f∧(∃ a n c,v= .slice a n c)∧f≤k∧Hid (CutAtR s c w wr k f v)) (fun _ _ i _=>s.size - (intOf i).toNat)
 case atStart=>exact ⟨0,0,Nat.zero_le _,rfl,rfl,⟨_,_,_,rfl⟩,Nat.le_refl _,⟨by rw [List.take_zero];exact World.ownsRow_nil _ _ _ _,Below.refl _ _,Nat.le_refl _,by rw [List.take_zero];rfl⟩⟩
 case round=>
  obtain ⟨k,f,hk,rfl,rfl,⟨va,vn,vc,rfl⟩,hfk,HR⟩:=hrel
  have hvl:(yU c (s.data.toList.take k)).length≤100001:=by
   have h1:=zbu c (s.data.toList.take k)
   rw [List.length_take,←Lib.size_eq] at h1
   unfold yU
   rw [List.length_dropLast]
   omega
  have hvn:vn=(yU c (s.data.toList.take k)).length:=by
   obtain ⟨a9,c9,e9⟩:=zQ HR.out.own
   injection e9
  by_cases hlt:k<s.size
  ·by_cases hc:s[k]=c
   ·have hcv:(s[k].toNat:Int)=(c.toNat:Int):=by rw [hc]
    have hex:s.extract f k=bs (yt c (s.data.toList.take k)):=by rw [vH,HR.out.last]
    have HIT:Hid (∀ (w5:World) (v':Value),w5.ownsRow w.heap.size 9 1 v' ((yU c (s.data.toList.take k)).length+1) ((yU c (s.data.toList.take k)).map sv++[sv (yt c (s.data.toList.take k))])→Below w.heap.size w w5→CutAtR s c w w5 (k+1) (k+1) v'):=fun w5 v' h1 h2=>zgj hlt hc h1 h2
    have HOW:=hid HR.out.own
    have HBW:=hid HR.out.below
    have hzz:w.heap.size≤wr.heap.size:=HBW.out.size
    have hsv:sv (yt c (s.data.toList.take k))= .string (s.extract f k):=by rw [hex];rfl
    rw [hsv] at HIT
    generalize (yU c (s.data.toList.take k))=I at HIT HOW hvl hvn
    subst hvn
    have hfk':(f:Int)≤(k:Int):=by omega
    have hks:(k:Int)≤(s.size:Int):=by omega
    have hf0:(0:Int)≤(f:Int):=by omega
    clear HR hex hsv
    obtain ⟨X,hX⟩: ∃ X,s.extract f k=X:=⟨_,rfl⟩
    rw [hX] at HIT
    have NC:Hid (_):=zbv wr X
    go_upto_region 8 with (first
     |(at_builtin;refine wpList_append_own_at _ rfl _ _ 51 rfl w.heap.size 9 i0 (.string ⟨#[]⟩) 1 16 Tryz.underlying51 hi hz0 hz1 hz2 rfl (by decide) _ _ _ rfl (World.ownsRow.alloc HOW.out (.cells #[.string X] 9)) ⟨wr.heap.size,0,none⟩ 1 1 [.string X] rfl rfl NC.out (fun v hv=>by rw [List.mem_singleton.1 hv];rfl) (by unfold maxLen;omega) (by omega) (by rw [World.size_alloc];omega) ?_;intro v' w5 hown' hgrow _ hat;have B5:Hid (Below w.heap.size w w5):=(zB HBW.out (zC wr (.cells #[.string X] 9))).grown hgrow (by rw [World.size_alloc];omega) (fun k q=>(World.ownsRow.lt HOW.out k q).1);have O5:=hid (HIT.out w5 v' hown' B5.out);obtain ⟨g',cap',rfl⟩:=ownsRow_succ hown';clear hown' hgrow hat)
     |go_in)
    go_wp2
    go_roundw
    case rel=>exact ⟨k+1,k+1,by omega,by go_num,by go_num,⟨_,_,_,rfl⟩,Nat.le_refl _,O5.out⟩
    case measure=>simp [intOf];omega
   ·have hcv: ¬ ((s[k].toNat:Int)=(c.toNat:Int)):=fun q=>hc (UInt8.toNat_inj.1 (by omega))
    have HM:=hid (HR.out.miss hlt hc)
    clear HR hvn hvl hc
    go_wp2
    go_roundw
    case rel=>exact ⟨k+1,f,by omega,by go_num,rfl,⟨_,_,_,rfl⟩,by omega,HM.out⟩
    case measure=>simp [intOf];omega
  ·have hke:k=s.size:=by omega
   subst hke
   have hfull:s.data.toList.take s.size=s.data.toList:=List.take_of_length_le (by rw [←Lib.size_eq];exact Nat.le_refl _)
   have hlast:=HR.out.last
   have HOW:=hid HR.out.own
   have HBW:=hid HR.out.below
   rw [hfull] at hlast HOW hvl hvn
   have hex:s.extract f s.size=bs (yt c s.data.toList):=by rw [vH,hfull,hlast]
   have HE:Hid ((zZ c s.data.toList).length=(yU c s.data.toList).length+1∧(zZ c s.data.toList).map sv=(yU c s.data.toList).map sv++[.string (s.extract f s.size)]):=by
    rw [zaa c s.data.toList,List.length_append,List.map_append,hex]
    exact ⟨rfl,rfl⟩
   have hzz:w.heap.size≤wr.heap.size:=HBW.out.size
   generalize (yU c s.data.toList)=I at HOW hvl hvn HE
   subst hvn
   have hfs:(f:Int)≤(s.size:Int):=by omega
   have hf0:(0:Int)≤(f:Int):=by omega
   clear HR hex hlast hfull
   obtain ⟨X,hX⟩: ∃ X,s.extract f s.size=X:=⟨_,rfl⟩
   rw [hX] at HE
   have NC:Hid (_):=zbv wr X
   go_wp2_with (first
    |(at_builtin;refine wpList_append_own_at _ rfl _ _ 51 rfl w.heap.size 9 i0 (.string ⟨#[]⟩) 1 16 Tryz.underlying51 hi hz0 hz1 hz2 rfl (by decide) _ _ _ rfl (World.ownsRow.alloc HOW.out (.cells #[.string X] 9)) ⟨wr.heap.size,0,none⟩ 1 1 [.string X] rfl rfl NC.out (fun v hv=>by rw [List.mem_singleton.1 hv];rfl) (by unfold maxLen;omega) (by omega) (by rw [World.size_alloc];omega) ?_;intro v' w5 hown' hgrow _ hat;have B5:Hid (Below w.heap.size w w5):=(zB HBW.out (zC wr (.cells #[.string X] 9))).grown hgrow (by rw [World.size_alloc];omega) (fun k q=>(World.ownsRow.lt HOW.out k q).1);have O5:=hid hown';obtain ⟨g',cap',rfl⟩:=ownsRow_succ hown';clear hown' hgrow hat)
    |go_in)
   go_ret
   exact ⟨B5.out,_,rfl,by rw [HE.out.1,HE.out.2];exact O5.out⟩
def slN:Value→Nat
 | .slice _ n _=>n
 |_=>0
theorem zfr{base n c:Nat}{W:World}{a:Option Addr}{xs:List Int}(h:Ow base W (.slice a n c) xs){j:Nat}(hj:j<xs.length): ∃ g,a=some ⟨g,0,none⟩∧base≤g∧g<W.heap.size∧W.cell? ⟨g,j,none⟩=some (.int .i64 xs[j]):=by
 rcases h.2 with ⟨_,h0⟩|⟨g,cap,cur,hv,hb,hg,_⟩
 ·omega
 ·injection hv with e1 e2 e3
  subst e1 e2 e3
  have z:=World.ownsRow.cellAt h j (by omega)
  rw [List.getElem?_map,List.getElem?_eq_getElem hj] at z
  exact ⟨g,rfl,hb,(Array.getElem?_eq_some_iff.1 hg).1,z⟩
theorem zfs{b:Nat}{w w1 w2:World}(h1:Below b w w1)(h2:Below b w1 w2):Below b w w2:=
 ⟨h2.os.trans h1.os,h2.tape.trans h1.tape,h2.output.trans h1.output,Nat.le_trans h1.size h2.size,fun k hk=>(h2.block k hk).trans (h1.block k hk)⟩
def ltB(o:Option Int)(x:Int):Bool:=match o with|none=>true|some y=>decide (y<x)
def oK(J:List Int)(k:Nat):Option Int:=if k=0 then none else J[k - 1]?
theorem zk3(J:List Int)(k:Nat)(hk:k≤J.length)(x:Int):ltB (oK J k) x=true↔ ∀ (i:Nat) (h:i<J.length),i+1=k→J[i]<x:=by
 unfold oK
 by_cases h0:k=0
 ·rw [if_pos h0]
  exact ⟨fun _ i h e=>by omega,fun _=>rfl⟩
 ·rw [if_neg h0,List.getElem?_eq_getElem (show k - 1<J.length by omega)]
  show decide _=true↔_
  rw [decide_eq_true_eq]
  constructor
  ·intro h i hi e
   have:i=k - 1:=by omega
   subst this
   exact h
  ·intro h
   exact h (k - 1) (by omega) (by omega)
theorem zmn{base n:Nat}{W:World}{v:Value}{xs:List Int}(h:W.ownsRow base 3 1 v n (xs.map (Value.int .i64)))(hn:n=xs.length):Ow base W v xs:=by
 subst hn
 exact h
set_option maxHeartbeats 8000000 in
set_option maxRecDepth 100000 in
theorem zey(v1 v2 v3:Value)(l1 l2 l3 J:List Int)(w:World)(h1:Got w v1 l1)(h2:Got w v2 l2)(h3:Got w v3 l3)(hl1:l1.length≤100)(hl2:l2.length≤100)(hl3:l3.length≤100)(h0: ∀ x∈l1++l2++l3,0≤x)(hJ:J.Pairwise (· < ·))(hJl:J.length≤1000)(hm: ∀ x,x∈J↔x∈l1++l2++l3∧stB (decide (x∈l2)) (decide (x∈l3)) (decide (x∈l1))=true):
  Calls Tryz.prog 54 #[v1,v2,v3] w fun r w'=> ∃ v,r= .returned v∧Ow w.heap.size w' v J∧Below w.heap.size w w':=by
 obtain ⟨i0,hi,hz0,hz1,hz2⟩:=info_parts yZ
 have G1:=hid h1
 have G2:=hid h2
 have G3:=hid h3
 have C1:Hid (∀ (x:Int) (W:World),Below w.heap.size w W→Calls Tryz.prog 88 #[.int .i64 x,v1] W fun r w'=>r= .returned (.bool (decide (x∈l1)))∧w'=W):=fun x W hW=>zau l1 v1 x W (h1.step hW) (by omega)
 have C2:Hid (∀ (x:Int) (W:World),Below w.heap.size w W→Calls Tryz.prog 88 #[.int .i64 x,v2] W fun r w'=>r= .returned (.bool (decide (x∈l2)))∧w'=W):=fun x W hW=>zau l2 v2 x W (h2.step hW) (by omega)
 have C3:Hid (∀ (x:Int) (W:World),Below w.heap.size w W→Calls Tryz.prog 88 #[.int .i64 x,v3] W fun r w'=>r= .returned (.bool (decide (x∈l3)))∧w'=W):=fun x W hW=>zau l3 v3 x W (h3.step hW) (by omega)
 obtain ⟨n1,hn1⟩: ∃ n,l1.length=n:=⟨_,rfl⟩
 obtain ⟨n2,hn2⟩: ∃ n,l2.length=n:=⟨_,rfl⟩
 obtain ⟨n3,hn3⟩: ∃ n,l3.length=n:=⟨_,rfl⟩
 obtain ⟨a1,k1,rfl,_⟩:=h1
 obtain ⟨a2,k2,rfl,_⟩:=h2
 obtain ⟨a3,k3,rfl,_⟩:=h3
 rw [hn1] at C1 G1 ⊢
 rw [hn2] at C2 G2 ⊢
 rw [hn3] at C3 G3 ⊢
 have HL:Hid (l1.length≤100∧l2.length≤100∧l3.length≤100):=⟨hl1,hl2,hl3⟩
 have HNX:Hid (∀ (k:Nat),k≤J.length→ ∀ q:Int→Bool,(∀ x∈l1++l2++l3,q x=true↔(stB (decide (x∈l2)) (decide (x∈l3)) (decide (x∈l1))=true∧ ∀ (i:Nat) (h:i<J.length),i+1=k→J[i]<x))→(∀ h:k<J.length,mnF q (l1++l2++l3)=J[k])∧(k=J.length→mnF q (l1++l2++l3)= -1)):=fun k hk q hq=>zfq hJ hm h0 hk hq
 have HJ0:Hid (∀ (k:Nat) (h:k<J.length),0≤J[k]):=fun k h=>h0 _ ((hm _).1 (List.getElem_mem h)).1
 clear h0 hJ hm hl1 hl2 hl3 hn1 hn2 hn3
 have hJi:(J.length:Int)≤1000:=by omega
 obtain ⟨L2,hL2⟩: ∃ L,L=l1++l2:=⟨_,rfl⟩
 obtain ⟨AL,hAL⟩: ∃ L,L=L2++l3:=⟨_,rfl⟩
 have HL2:=hid hL2
 have HAL:=hid hAL
 have HLL:Hid (L2.length≤200∧AL.length≤300):=by
  show _∧_
  rw [hAL,List.length_append,hL2,List.length_append]
  have:=HL.out
  omega
 rw [←hL2,←hAL] at HNX
 clear hL2 hAL
 go_enter Tryz.func54,Tryz.ntmps54
 go_upto_region 3 with (at_builtin;refine zdy rfl _ _ rfl w.heap.size [] l1 _ _ rfl (World.ownsRow_nil _ _ _ _) rfl G1.out (by have:=HL.out;simp;omega) (Nat.le_refl _) ?_;intro v' w1 ho hb;have O1:=hid ho;have B1:=hid hb;obtain ⟨q1,q2,rfl⟩:=zQ ho;clear ho hb)
 go_upto_region 4 with (at_builtin;refine zdy rfl _ _ rfl w.heap.size l1 l2 _ _ rfl O1.out rfl (G2.out.step B1.out) (by have:=HL.out;omega) B1.out.size ?_;intro v' w2 ho hb;rw [←HL2.out] at ho;have O2:=hid ho;have B2:=hid (zfs B1.out hb);obtain ⟨q3,q4,rfl⟩:=zQ ho;clear ho hb)
 go_upto_region 5 with (at_builtin;refine zdy rfl _ _ rfl w.heap.size L2 l3 _ _ rfl O2.out rfl (G3.out.step B2.out) (by have:=HL.out;have:=HLL.out;omega) B2.out.size ?_;intro v' w3 ho hb;rw [←HAL.out] at ho;have O3:=hid ho;have B3:=hid (zfs B2.out hb);obtain ⟨q5,q6,rfl⟩:=zQ ho;clear ho hb)
 have HCA:Hid (∀ W,Below w3.heap.size w3 W→ ∀ (j:Nat) (hj:j<AL.length),∃ g,q5=some ⟨g,0,none⟩∧W.cell? ⟨g,j,none⟩=some (.int .i64 AL[j])):=fun W hW j hj=>by
  obtain ⟨g,e,_,hg,hc⟩:=zfr O3.out hj
  exact ⟨g,e,(World.cell?_of_block (a:=⟨g,j,none⟩) (hW.block _ hg)).trans hc⟩
 have BW:Hid (∀ W,Below w3.heap.size w3 W→Below w.heap.size w W):=fun W hW=>zB B3.out hW
 have hALi:(AL.length:Int)≤300:=by have:=HLL.out;omega
 clear O1 O2 B1 B2
 go_wp2
 go_loopw [8,9,10,11,12,13,14,15] (fun ov _ _ _ _ _ _ _ wr=> ∃ (k:Nat) (oa:Option Addr) (oc:Nat),k≤J.length∧ov= .slice oa k oc∧Hid (Ow w3.heap.size wr (.slice oa k oc) (J.take k))∧Hid (Below w3.heap.size w3 wr)) (fun ov _ _ _ _ _ _ _ _=>J.length - slN ov)
 case atStart=>exact ⟨0,none,0,Nat.zero_le _,rfl,World.ownsRow_nil _ _ _ _,Below.refl _ _⟩
 case round=>
 obtain ⟨k,oa,oc,hk,rfl,HOW,HBW⟩:=hrel
 have HNK:Hid ((∀ h:k<J.length,mnF (fun x=>ltB (oK J k) x&&stB (decide (x∈l2)) (decide (x∈l3)) (decide (x∈l1))) AL=J[k])∧(k=J.length→mnF (fun x=>ltB (oK J k) x&&stB (decide (x∈l2)) (decide (x∈l3)) (decide (x∈l1))) AL= -1)):=HNX.out k hk _ (fun x _=>by
  rw [Bool.and_eq_true,zk3 J k hk x]
  exact And.comm)
 have HCO:Hid (∀ W,Below wr.heap.size wr W→ ∀ (k':Nat),k=k'+1→ ∃ g,oa=some ⟨g,0,none⟩∧ ∃ y,oK J k=some y∧W.cell? ⟨g,k',none⟩=some (.int .i64 y)):=fun W hW k' e=>by
  subst e
  obtain ⟨g,e1,_,hg,hc⟩:=zfr HOW.out (j:=k') (by rw [List.length_take];omega)
  refine ⟨g,e1,J[k'],?_,?_⟩
  ·unfold oK
   rw [if_neg (by omega),Nat.add_sub_cancel,List.getElem?_eq_getElem (by omega)]
  ·rw [List.getElem_take] at hc
   exact (World.cell?_of_block (a:=⟨g,k',none⟩) (hW.block _ hg)).trans hc
 have hki:(k:Int)≤1000:=by omega
 have HWO:Hid (∀ W,Below wr.heap.size wr W→Below w3.heap.size w3 W):=fun W hW=>zB HBW.out hW
 generalize hq:(fun x=>ltB (oK J k) x&&stB (decide (x∈l2)) (decide (x∈l3)) (decide (x∈l1)))=q at HNK
 have HQ:=hid hq
 clear hq
 generalize wr=wo at HOW HBW HCO HWO ⊢
 go_wp2
 go_loopw [9,10,11,12,13,14,15] (fun dv iv _ _ _ _ _ wq=> ∃ i:Nat,i≤AL.length∧iv= .int .i64 i∧dv= .int .i64 (mnF q (AL.take i))∧Hid (Below wo.heap.size wo wq)) (fun _ iv _ _ _ _ _ _=>AL.length - (intOf iv).toNat)
 case atStart=>exact ⟨0,Nat.zero_le _,rfl,rfl,Below.refl _ _⟩
 case round=>
  obtain ⟨i,hi',rfl,rfl,HBI⟩:=hrel
  by_cases hlt:i<AL.length
  ·obtain ⟨g,rfl,hcell⟩:=HCA.out wr (HWO.out _ HBI.out) i hlt
   have HT:Hid (mnF q (AL.take (i+1))=mnS q (mnF q (AL.take i)) AL[i]):=by
    show _=_
    rw [List.take_succ_eq_append_getElem hlt,zcJ]
   have HCX:Hid (∀ W,Below wr.heap.size wr W→W.cell? ⟨g,i,none⟩=some (.int .i64 AL[i])):=fun W hW=>by
    obtain ⟨g',e,h⟩:=HCA.out W (HWO.out _ (zB HBI.out hW)) i hlt
    cases e
    exact h
   have HF:Hid (mnF q (AL.take (i+1))=if (ltB (oK J k) AL[i]&&stB (decide (AL[i]∈l2)) (decide (AL[i]∈l3)) (decide (AL[i]∈l1)))=true∧(mnF q (AL.take i)<0∨AL[i]<mnF q (AL.take i)) then AL[i] else mnF q (AL.take i)):=by
    show _=_
    rw [HT.out]
    unfold mnS
    rw [←HQ.out]
   have g1:(0:Int)≤(i:Int):=by omega
   have g2:(i:Int)<(AL.length:Int):=by omega
   generalize AL[i]=x at hcell HCX HF
   generalize mnF q (AL.take i)=d at HF ⊢
   clear HT
   cases k with
   |zero=>
    have HF0:Hid (ltB (oK J 0) x=true):=rfl
    rw [HF0.out] at HF
    go_upto_region 13 with fail
    have BZ:=hid HBI.out
    go_upto_region 14 with (go_at_call 88;refine Calls.mono (C2.out _ _ (BW.out _ (HWO.out _ BZ.out))) ?_;rintro r w' ⟨rfl,hq⟩;have hq:=hq.symm;subst hq)
    go_upto_region 15 with (go_at_call 88;refine Calls.mono (C3.out _ _ (BW.out _ (HWO.out _ BZ.out))) ?_;rintro r w' ⟨rfl,hq⟩;have hq:=hq.symm;subst hq)
    go_upto_region 16 with (go_at_call 88;refine Calls.mono (C1.out _ _ (BW.out _ (HWO.out _ BZ.out))) ?_;rintro r w' ⟨rfl,hq⟩;have hq:=hq.symm;subst hq)
    generalize decide (x∈l1)=bz at HF ⊢
    generalize decide (x∈l2)=bx at HF ⊢
    generalize decide (x∈l3)=by' at HF ⊢
    clear HCX
    go_cut [15] (fun v15 wx=>v15= .bool (stB bx by' bz)∧wx=wr)
    case first=>
     cases bx<;>cases by'<;>cases bz<;>(
      go_wp2
      go_meet
      case rel=>exact ⟨rfl,rfl⟩)
    case rest=>
     obtain ⟨rfl,hwc⟩:=hcut
     have hwc:=hwc.symm
     subst hwc
     generalize stB bx by' bz=st at HF ⊢
     cases st with
     |false=>
      go_wp2
      refine ⟨⟨i+1,by omega,by go_num,(by rw [HF.out];simp),BZ.out⟩,?_⟩
      simp [intOf];omega
     |true=>
      by_cases hd1:d<0
      ·go_wp2
       refine ⟨⟨i+1,by omega,by go_num,(by rw [HF.out];simp [hd1]),BZ.out⟩,?_⟩
       simp [intOf];omega
      ·by_cases hd2:x<d
       ·go_wp2
        refine ⟨⟨i+1,by omega,by go_num,(by rw [HF.out];simp [hd1,hd2]),BZ.out⟩,?_⟩
        simp [intOf];omega
       ·go_wp2
        refine ⟨⟨i+1,by omega,by go_num,(by rw [HF.out];simp [hd1,hd2]),BZ.out⟩,?_⟩
        simp [intOf];omega
   |succ k'=>
    obtain ⟨g2',rfl,y,hy,hco⟩:=HCO.out wr HBI.out k' rfl
    have hlb:ltB (oK J (k'+1)) x=decide (y<x):=by rw [hy];rfl
    rw [hlb] at HF
    clear hy hlb
    have hk1:(0:Int)≤(k':Int):=by omega
    go_upto_region 12 with fail
    go_region
    have hcell2:=HCX.out wr.drew (zI _)
    have BZ:Hid (Below wo.heap.size wo wr.drew):=zB HBI.out (zI _)
    clear hcell hco
    generalize wr.drew=wz at hcell2 BZ ⊢
    by_cases hyx:y<x
    ·rw [decide_eq_true hyx] at HF
     go_upto_region 13 with fail
     go_upto_region 14 with (go_at_call 88;refine Calls.mono (C2.out _ _ (BW.out _ (HWO.out _ BZ.out))) ?_;rintro r w' ⟨rfl,hq⟩;have hq:=hq.symm;subst hq)
     go_upto_region 15 with (go_at_call 88;refine Calls.mono (C3.out _ _ (BW.out _ (HWO.out _ BZ.out))) ?_;rintro r w' ⟨rfl,hq⟩;have hq:=hq.symm;subst hq)
     go_upto_region 16 with (go_at_call 88;refine Calls.mono (C1.out _ _ (BW.out _ (HWO.out _ BZ.out))) ?_;rintro r w' ⟨rfl,hq⟩;have hq:=hq.symm;subst hq)
     generalize decide (x∈l1)=bz at HF ⊢
     generalize decide (x∈l2)=bx at HF ⊢
     generalize decide (x∈l3)=by' at HF ⊢
     clear HCX
     go_cut [15] (fun v15 wx=>v15= .bool (stB bx by' bz)∧wx=wz)
     case first=>
      cases bx<;>cases by'<;>cases bz<;>(
       go_wp2
       go_meet
       case rel=>exact ⟨rfl,rfl⟩)
     case rest=>
      obtain ⟨rfl,hwc⟩:=hcut
      have hwc:=hwc.symm
      subst hwc
      generalize stB bx by' bz=st at HF ⊢
      cases st with
      |false=>
       go_wp2
       refine ⟨⟨i+1,by omega,by go_num,(by rw [HF.out];simp),BZ.out⟩,?_⟩
       simp [intOf];omega
      |true=>
       by_cases hd1:d<0
       ·go_wp2
        refine ⟨⟨i+1,by omega,by go_num,(by rw [HF.out];simp [hd1]),BZ.out⟩,?_⟩
        simp [intOf];omega
       ·by_cases hd2:x<d
        ·go_wp2
         refine ⟨⟨i+1,by omega,by go_num,(by rw [HF.out];simp [hd1,hd2]),BZ.out⟩,?_⟩
         simp [intOf];omega
        ·go_wp2
         refine ⟨⟨i+1,by omega,by go_num,(by rw [HF.out];simp [hd1,hd2]),BZ.out⟩,?_⟩
         simp [intOf];omega
    ·rw [decide_eq_false hyx] at HF
     go_upto_region 13 with fail
     go_upto_region 14 with (go_at_call 88;refine Calls.mono (C2.out _ _ (BW.out _ (HWO.out _ BZ.out))) ?_;rintro r w' ⟨rfl,hq⟩;have hq:=hq.symm;subst hq)
     go_upto_region 15 with (go_at_call 88;refine Calls.mono (C3.out _ _ (BW.out _ (HWO.out _ BZ.out))) ?_;rintro r w' ⟨rfl,hq⟩;have hq:=hq.symm;subst hq)
     go_upto_region 16 with (go_at_call 88;refine Calls.mono (C1.out _ _ (BW.out _ (HWO.out _ BZ.out))) ?_;rintro r w' ⟨rfl,hq⟩;have hq:=hq.symm;subst hq)
     generalize decide (x∈l1)=bz at HF ⊢
     generalize decide (x∈l2)=bx at HF ⊢
     generalize decide (x∈l3)=by' at HF ⊢
     clear HCX
     go_cut [15] (fun v15 wx=>v15= .bool (stB bx by' bz)∧wx=wz)
     case first=>
      cases bx<;>cases by'<;>cases bz<;>(
       go_wp2
       go_meet
       case rel=>exact ⟨rfl,rfl⟩)
     case rest=>
      obtain ⟨rfl,hwc⟩:=hcut
      have hwc:=hwc.symm
      subst hwc
      generalize stB bx by' bz=st at HF ⊢
      cases st with
      |false=>
       go_wp2
       refine ⟨⟨i+1,by omega,by go_num,(by rw [HF.out];simp),BZ.out⟩,?_⟩
       simp [intOf];omega
      |true=>
       by_cases hd1:d<0
       ·go_wp2
        refine ⟨⟨i+1,by omega,by go_num,(by rw [HF.out];simp [hd1]),BZ.out⟩,?_⟩
        simp [intOf];omega
       ·by_cases hd2:x<d
        ·go_wp2
         refine ⟨⟨i+1,by omega,by go_num,(by rw [HF.out];simp [hd1,hd2]),BZ.out⟩,?_⟩
         simp [intOf];omega
        ·go_wp2
         refine ⟨⟨i+1,by omega,by go_num,(by rw [HF.out];simp [hd1,hd2]),BZ.out⟩,?_⟩
         simp [intOf];omega
  ·have hin:i=AL.length:=by omega
   have g2:(AL.length:Int)≤(i:Int):=by omega
   rw [hin,List.take_length]
   by_cases hkJ:k<J.length
   ·have hd:=HNK.out.1 hkJ
    have h0k:=HJ0.out k hkJ
    have HT:=hid (List.take_succ_eq_append_getElem hkJ)
    rw [hd]
    generalize J[k]=dk at HT h0k ⊢
    have HO2:=hid (zU HOW.out HBI.out)
    have B2:Hid (Below w3.heap.size w3 wr):=HWO.out _ HBI.out
    have hA:=zC wr (.cells #[.int .i64 dk] 3)
    have HROW:Hid (World.ownsRow (wr.alloc (.cells #[.int .i64 dk] 3)) w3.heap.size 3 1 (.slice oa k oc) k ((J.take k).map (Value.int .i64))):=by
     have z:World.ownsRow _ _ _ _ _ _ _:=zU HO2.out hA
     rw [List.length_take,Nat.min_eq_left (by omega)] at z
     exact z
    have NC:Hid (∀ (j:Nat) (v:Value),[Value.int .i64 dk][j]? =some v→(wr.alloc (.cells #[.int .i64 dk] 3)).cell? ((⟨wr.heap.size,0,none⟩:Addr).add j)=some v):=zaU wr _
    clear hA hd HNK HCO HOW
    go_wp2_with (at_builtin;refine wpList_append_own_at _ rfl _ _ 43 rfl w3.heap.size 3 i0 (.int .i64 0) 1 8 Tryz.underlying43 hi hz0 hz1 hz2 rfl (by decide) _ _ _ rfl HROW.out ⟨wr.heap.size,0,none⟩ 1 1 [.int .i64 dk] rfl rfl NC.out (fun v hv=>by rw [List.mem_singleton.1 hv];rfl) (by unfold maxLen;omega) (by omega) (by have:=B2.out.size;rw [World.size_alloc];omega) ?_;intro v' w7 hown' hgrow _ hat;have HOWN:=hid hown';have HGR:=hid hgrow;obtain ⟨na,nc,rfl⟩:=zQ hown';clear hown' hgrow hat)
    refine ⟨⟨k+1,na,nc,hkJ,rfl,?_,?_⟩,?_⟩
    ·show Ow _ _ _ _
     rw [HT.out]
     refine zmn ?_ (show k+1=_ by rw [List.length_append,List.length_take];simp;omega)
     rw [List.map_append]
     exact HOWN.out
    ·exact (zB B2.out (zC _ _)).grown HGR.out (Nat.le_trans B2.out.size (zC _ _).size) (fun k q=>(World.ownsRow.lt HROW.out k q).1)
    ·show J.length - (k+1)<J.length - k
     omega
   ·have hkJ':k=J.length:=by omega
    have hd:=HNK.out.2 hkJ'
    have HO2:Hid (Ow w3.heap.size wr (.slice oa k oc) J):=by
     have z:=zU HOW.out HBI.out
     rw [hkJ',List.take_length,←hkJ'] at z
     exact zmn z hkJ'
    have B2:Hid (Below w3.heap.size w3 wr):=HWO.out _ HBI.out
    rw [hd]
    clear hd HNK HCO HOW hkJ'
    go_wp2
    go_ret
    exact ⟨_,rfl,zW HO2.out B3.out.size,BW.out _ B2.out⟩
end Go.Proofs.YtpeafgddbbojaaaGreatDoor
