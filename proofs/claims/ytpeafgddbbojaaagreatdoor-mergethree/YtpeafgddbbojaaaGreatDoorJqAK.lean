import Derived.Test.YtpeafgddbbojaaaGreatDoorJqAJ
import Derived.Test.YtpeafgddbbojaaaGreatDoorJqAF
import Derived.Test.YtpeafgddbbojaaaGreatDoorJqAE
import Derived.Test.YtpeafgddbbojaaaGreatDoorJqAA
import Derived.Test.YtpeafgddbbojaaaGreatDoorJqAD
namespace Go.Proofs.YtpeafgddbbojaaaGreatDoor
open Go Go.RowKit Go.Maps Go.Sort Cal
theorem zkf{E:EV}(h:EW E):E.id.size≤12∧E.ti.size≤40∧E.sk.length≤20∧E.mv.length≤20:=⟨h.id.2.2,h.ti.2,(yX h.ls).1,(yX h.ls).2.1⟩
theorem OffI.step{N:Nat→Prop}{W W':World}{v:Value}{xs:List Int}(h:OffI N W v xs)(hb:Below W.heap.size W W'):OffI N W' v xs:=by
 obtain ⟨a,c,h1,h2,h3,h4⟩:=h
 refine ⟨a,c,h1,h2,h3,fun j hj=> ?_⟩
 obtain ⟨b,e,hn,hl,hc⟩:=h4 j hj
 exact ⟨b,e,hn,Nat.lt_of_lt_of_le hl hb.size,zD hc hb⟩
theorem OffM.step{N:Nat→Prop}{W W':World}{v:Value}{xs:List (Int×Int)}(h:OffM N W v xs)(hb:Below W.heap.size W W'):OffM N W' v xs:=by
 obtain ⟨a,c,h1,h2,h3,h4⟩:=h
 refine ⟨a,c,h1,h2,h3,fun j hj=> ?_⟩
 obtain ⟨b,e,hn,hl,hc,hd⟩:=h4 j hj
 exact ⟨b,e,hn,Nat.lt_of_lt_of_le hl hb.size,zD hc hb,zD hd hb⟩
theorem Off.step{N:Nat→Prop}{W W':World}{E:EV}{sl skv mvv:Value}(h:Off N W E sl skv mvv)(hb:Below W.heap.size W W'):Off N W' E sl skv mvv:=⟨h.d.step hb,h.s.step hb,h.m.step hb⟩
theorem Off.ls{N:Nat→Prop}{W:World}{E:EV}{sl skv mvv:Value}(h:Off N W E sl skv mvv)(h20:E.ds.length≤20):Ls W E sl skv mvv:=⟨xk h.d.ints h20,h.s.ints,h.m.movs⟩
theorem vp{w w':World}{bb b o:Nat}{mo:Option Nat}{v:Value}(h:Kept w w' bb mo)(hc:w.cell? ⟨b,o,none⟩=some v)(h1:b≠bb)(h2:some b≠mo):w'.cell? ⟨b,o,none⟩=some v:=
 (World.cell?_of_block (a:=⟨b,o,none⟩) (h.block b (xI hc) h1 h2)).trans hc
theorem OffI.kept{N:Nat→Prop}{w w':World}{bb:Nat}{mo:Option Nat}{v:Value}{xs:List Int}(h:OffI N w v xs)(hk:Kept w w' bb mo)(h1:N bb)(h2: ∀ b,some b=mo→N b):OffI N w' v xs:=by
 obtain ⟨a,c,q1,q2,q3,q4⟩:=h
 refine ⟨a,c,q1,q2,q3,fun j hj=> ?_⟩
 obtain ⟨b,e,hn,hl,hc⟩:=q4 j hj
 exact ⟨b,e,hn,Nat.lt_of_lt_of_le hl hk.size,vp hk hc (fun q=>hn (q▸h1)) (fun q=>hn (h2 b q))⟩
theorem OffM.kept{N:Nat→Prop}{w w':World}{bb:Nat}{mo:Option Nat}{v:Value}{xs:List (Int×Int)}(h:OffM N w v xs)(hk:Kept w w' bb mo)(h1:N bb)(h2: ∀ b,some b=mo→N b):OffM N w' v xs:=by
 obtain ⟨a,c,q1,q2,q3,q4⟩:=h
 refine ⟨a,c,q1,q2,q3,fun j hj=> ?_⟩
 obtain ⟨b,e,hn,hl,hc,hd⟩:=q4 j hj
 exact ⟨b,e,hn,Nat.lt_of_lt_of_le hl hk.size,vp hk hc (fun q=>hn (q▸h1)) (fun q=>hn (h2 b q)),vp hk hd (fun q=>hn (q▸h1)) (fun q=>hn (h2 b q))⟩
theorem Off.kept{N:Nat→Prop}{w w':World}{bb:Nat}{mo:Option Nat}{E:EV}{sl skv mvv:Value}(h:Off N w E sl skv mvv)(hk:Kept w w' bb mo)(h1:N bb)(h2: ∀ b,some b=mo→N b):Off N w' E sl skv mvv:=⟨h.d.kept hk h1 h2,h.s.kept hk h1 h2,h.m.kept hk h1 h2⟩
def zfN(lo bb:Nat)(mo:Option Nat)(k:Nat):Prop:=k<lo∨k=bb∨some k=mo
def BookAt(lo:Nat)(W:World)(bb:Nat)(mo:Option Nat)(n:Nat)(C:List EV):Prop:=
 ∃ D,Bok W bb mo n D∧lo≤W.heap.size∧(∀ mb,mo=some mb→lo≤mb)∧Holds (zfN lo bb mo) W D C
theorem Holds.step{N:Nat→Prop}{W W':World}{D:DataW Value}{C:List EV}(h:Holds N W D C)(hb:Below W.heap.size W W'):Holds N W' D C:=
 ⟨h.up,h.tidy,h.size,h.has,fun E hE=>by
  obtain ⟨q,sl,skv,mvv,h1,h2⟩:=h.at_ E hE
  exact ⟨q,sl,skv,mvv,h1,h2.step hb⟩⟩
theorem BookAt.step{lo:Nat}{W W':World}{bb:Nat}{mo:Option Nat}{n:Nat}{C:List EV}(h:BookAt lo W bb mo n C)(hb:Below W.heap.size W W'):BookAt lo W' bb mo n C:=by
 obtain ⟨D,h1,h2,h3,h4⟩:=h
 exact ⟨D,h1.step hb,Nat.le_trans h2 hb.size,h3,h4.step hb⟩
theorem BookAt.lt{lo:Nat}{W:World}{bb:Nat}{mo:Option Nat}{n:Nat}{C:List EV}(h:BookAt lo W bb mo n C):bb<W.heap.size∧ ∀ mb,mo=some mb→mb<W.heap.size:=by
 obtain ⟨D,h1,h2,h3,h4⟩:=h
 refine ⟨(Array.getElem?_eq_some_iff.1 h1.1).1,fun mb e=> ?_⟩
 subst e
 exact h1.2.2.lt
theorem BookAt.rises{lo:Nat}{W:World}{bb:Nat}{mo:Option Nat}{n:Nat}{C:List EV}(h:BookAt lo W bb mo n C):Rises C∧ ∀ E∈C,EW E:=by
 obtain ⟨D,h1,h2,h3,h4⟩:=h
 exact ⟨h4.up,fun E hE=>(h4.at_ E hE).1.1⟩
theorem zal(w:World):Calls Tryz.prog 11 #[] w fun r w'=>r= .returned (.pointer (some ⟨w.heap.size,0,none⟩))∧BookAt w.heap.size w' w.heap.size none 0 []∧Below w.heap.size w w':=
 Calls.mono (zke w) (by
  rintro r w' ⟨rfl,h1,h2⟩
  exact ⟨rfl,⟨_,h1,h2.size,(fun mb e=>by cases e),Holds.none _ _⟩,h2⟩)
theorem BookAt.nil{lo:Nat}{W:World}{bb n:Nat}{C:List EV}(h:BookAt lo W bb none n C):C=[]:=by
 obtain ⟨D,h1,h2,h3,h4⟩:=h
 have hD:D= .map []:=h1.2
 subst hD
 exact List.length_eq_zero_iff.1 (by rw [←h4.size];rfl)
theorem BookAt.lift{lo lo':Nat}{W:World}{bb n:Nat}(h:BookAt lo W bb none n [])(hl:lo'≤W.heap.size):BookAt lo' W bb none n []:=by
 obtain ⟨D,h1,h2,h3,h4⟩:=h
 have hD:D= .map []:=h1.2
 subst hD
 exact ⟨_,h1,hl,(fun mb e=>by cases e),Holds.none _ _⟩
theorem BookAt.grown{lo:Nat}{W W':World}{bb:Nat}{mo:Option Nat}{n B:Nat}{C:List EV}(h:BookAt lo W bb mo n C)(hg:W.grownBy W' (some B))(hB:B<lo)(hne:B≠bb):BookAt lo W' bb mo n C:=by
 obtain ⟨D,h1,h2,h3,h4⟩:=h
 refine ⟨D,⟨(hg.block bb (Array.getElem?_eq_some_iff.1 h1.1).1 (fun q=>hne (Option.some.inj q).symm)).trans h1.1,?_⟩,Nat.le_trans h2 hg.size,h3,h4.up,h4.tidy,h4.size,h4.has,fun E hE=> ?_⟩
 ·cases mo with
  |none=>exact h1.2
  |some mb=>exact ⟨h1.2.1,h1.2.2.kept hg (fun q=>by have:=Option.some.inj q;have:=h3 mb rfl;omega)⟩
 ·obtain ⟨q,sl,skv,mvv,q1,q2⟩:=h4.at_ E hE
  exact ⟨q,sl,skv,mvv,q1,q2.grown (.inl hB) hg⟩
theorem zlD{a b:ByteArray}(h:a≠b):key a≠key b:=fun q=>h (ziU (by unfold key at q;exact Lit.string.inj q))
theorem zd3(a:ByteArray):WideAt.IsKeyLit (key a):=trivial
theorem Holds.hasE{N:Nat→Prop}{W:World}{D:DataW Value}{C:List EV}(h:Holds N W D C)(id:ByteArray):Maps.has D (key id)=true↔ ∃ E∈C,E.id=id:=by
 unfold key
 rw [h.has]
 constructor
 ·rintro ⟨E,hE,q⟩;exact ⟨E,hE,ziU q⟩
 ·rintro ⟨E,hE,q⟩;exact ⟨E,hE,by unfold kb;rw [q]⟩
theorem ze0{D:DataW Value}(h:Tidy D):IsMap D:=by
 obtain ⟨es,q,_⟩:=h
 exact ⟨es,q⟩
theorem Holds.put{N N':Nat→Prop}{W W':World}{D:DataW Value}{C:List EV}(h:Holds N W D C){E:EV}{sl skv mvv:Value}(hw:EW E)(h20:E.ds.length≤20)(ho:Off N' W' E sl skv mvv)
  (hold: ∀ F∈C,F.id≠E.id→ ∀ sl skv mvv,Off N W F sl skv mvv→Off N' W' F sl skv mvv):Holds N' W' (D.put (key E.id) (.held (ev E sl skv mvv))) (jL E C):=by
 refine ⟨xo h.up,h.tidy.put (zd3 _) _,?_,fun x=> ?_,fun F hF=> ?_⟩
 ·rw [size_put h.tidy]
  by_cases hx: ∃ F∈C,F.id=E.id
  ·rw [if_pos ((h.hasE E.id).2 hx),h.size]
   obtain ⟨F,hF,e⟩:=hx
   unfold jL
   rw [jl,←e,zg2 h.up hF]
  ·rw [if_neg (fun q=>hx ((h.hasE E.id).1 q)),h.size]
   unfold jL
   rw [jl,zcq (fun F hF q=>hx ⟨F,hF,q⟩)]
 ·by_cases hx:kb E=x
  ·subst hx
   exact ⟨fun _=>⟨E,yY.2 (.inl rfl),rfl⟩,fun _=>has_put_same (ze0 h.tidy) (zd3 E.id) _⟩
  ·rw [has_put_other (show Lit.string x≠key E.id from fun q=>hx (Lit.string.inj q).symm),h.has]
   constructor
   ·rintro ⟨F,hF,rfl⟩
    exact ⟨F,yY.2 (.inr ⟨hF,fun q=>hx (by unfold kb;rw [q])⟩),rfl⟩
   ·rintro ⟨F,hF,rfl⟩
    rcases yY.1 hF with rfl|⟨hF',_⟩
    ·exact absurd rfl hx
    ·exact ⟨F,hF',rfl⟩
 ·rcases yY.1 hF with rfl|⟨hF',hne⟩
  ·exact ⟨⟨hw,h20⟩,sl,skv,mvv,atKey_put_same (ze0 h.tidy) (zd3 _) _ _,ho⟩
  ·obtain ⟨q,sl1,skv1,mvv1,q1,q2⟩:=h.at_ F hF'
   exact ⟨q,sl1,skv1,mvv1,by rw [atKey_put_other (zlD hne)];exact q1,hold F hF' hne _ _ _ q2⟩
theorem Holds.look{N:Nat→Prop}{W:World}{D:DataW Value}{C:List EV}(h:Holds N W D C)(id:ByteArray):(∃ E∈C,E.id=id∧ ∃ sl skv mvv,D.atKey (key id) (.held zV)= .held (ev E sl skv mvv)∧Off N W E sl skv mvv)∨((¬ ∃ E∈C,E.id=id)∧D.atKey (key id) (.held zV)= .held zV):=by
 by_cases hx: ∃ E∈C,E.id=id
 ·obtain ⟨E,hE,rfl⟩:=hx
  obtain ⟨q,sl,skv,mvv,q1,q2⟩:=h.at_ E hE
  exact .inl ⟨E,hE,rfl,sl,skv,mvv,q1,q2⟩
 ·refine .inr ⟨hx,atKey_of_not_has ?_ _⟩
  cases hh:Maps.has D (key id) with
  |false=>rfl
  |true=>exact absurd ((h.hasE id).1 hh) hx
def PutTo(lo:Nat)(w w':World)(bb:Nat)(mo:Option Nat)(n:Nat)(C:List EV):Prop:=
 ∃ mo',BookAt lo w' bb mo' (n+1) C∧Kept w w' bb mo∧(mo'=mo∨(mo=none∧ ∀ mb,mo'=some mb→w.heap.size≤mb))
theorem zaR{W:World}{bb n n':Nat}{mo:Option Nat}{D:DataW Value}(h:Bok W bb mo n D)(hn:n≤n'):Bok W bb mo n' D:=by
 obtain ⟨h1,h2⟩:=h
 refine ⟨h1,?_⟩
 cases mo with
 |none=>exact h2
 |some mb=>
  obtain ⟨h3,es,clock,q1,q2,q3,q4⟩:=h2
  exact ⟨h3,es,clock,q1,q2,Nat.le_trans q3 hn,q4⟩
theorem zlE(lo bb n:Nat)(mo:Option Nat)(C:List EV)(E:EV)(sl skv mvv:Value)(w:World)(h:BookAt lo w bb mo n C)(hn:n≤90000)(hw:EW E)(hL:Ls w E sl skv mvv):
  Calls Tryz.prog 33 #[.pointer (some ⟨bb,0,none⟩),ev E sl skv mvv] w fun r w'=>(∃ v,r= .returned v)∧PutTo lo w w' bb mo n (jL E C):=by
 obtain ⟨i12,t40,k20,m20⟩:=zkf hw
 have h20:E.ds.length≤20:=by obtain ⟨_,_,_,q,_⟩:=hL.d;exact q
 have hlt:=h.lt
 obtain ⟨D,h1,h2,h3,h4⟩:=h
 cases mo with
 |none=>
  have hD:D= .map []:=h1.2
  subst hD
  have hC:C=[]:=List.length_eq_zero_iff.1 (by rw [←h4.size];rfl)
  subst hC
  refine Calls.mono (zgR bb E sl skv mvv n w h1 (by omega) hL k20 m20) ?_
  rintro r w' ⟨hr,mb,hm,sl',skv',mvv',q1,q2,q3⟩
  refine ⟨hr,some mb,⟨_,zaR q1 (by omega),Nat.le_trans h2 q3.size,fun mb' e=> ?_,h4.put hw h20 (q2.mono (fun k hk=> ?_)) (fun F hF=>absurd hF (by simp))⟩,q3,.inr ⟨rfl,fun mb' e=> ?_⟩⟩
  ·cases e;omega
  ·rcases hk with hk|hk|hk
   ·exact .inl (by omega)
   ·exact .inl (by omega)
   ·exact .inr (Option.some.inj hk)
  ·cases e;omega
 |some mb=>
  refine Calls.mono (zgP bb mb n D E sl skv mvv w h1 (by omega) (by omega) hL k20 m20) ?_
  rintro r w' ⟨hr,sl',skv',mvv',q1,q2,q3⟩
  have hmb:=hlt.2 mb rfl
  refine ⟨hr,some mb,⟨_,q1,Nat.le_trans h2 q3.size,h3,h4.put hw h20 (q2.mono (fun k hk=> ?_)) (fun F hF hne s1 s2 s3 hO=>hO.kept q3 (.inr (.inl rfl)) (fun b e=> .inr (.inr e)))⟩,q3,.inl rfl⟩
  rcases hk with hk|hk|hk
  ·exact .inl (by omega)
  ·exact .inl (by omega)
  ·exact .inr (Option.some.inj hk)
theorem zkg(lo bb n:Nat)(mo:Option Nat)(C:List EV)(E:EV)(sl skv mvv:Value)(k:Int)(s:Nat→Addr)(w:World)(g:GlobK s w)(h:BookAt lo w bb mo n C)(hn:n≤90000)(hi:E.id.size≤60)(ht:E.ti.size≤60)(hL:Ls w E sl skv mvv)(hk:EvK E k):
  Calls Tryz.prog 12 #[.pointer (some ⟨bb,0,none⟩),ev E sl skv mvv] w fun r w'=>
   (k≠0∧r= .returned (jY s k)∧Below w.heap.size w w')∨(k=0∧((¬ ∃ F∈C,F.id=E.id)∧60≤C.length)∧r= .returned (.iface 269 (.pointer (some (s 6))))∧Below w.heap.size w w')∨(k=0∧ ¬ ((¬ ∃ F∈C,F.id=E.id)∧60≤C.length)∧r= .returned .nilIface∧PutTo lo w w' bb mo n (jL E C)):=by
 have hbk:=h
 obtain ⟨D,h1,h2,h3,h4⟩:=h
 have hat: ∃ (U:EV) (ua:Option Addr) (un uc:Nat) (va:Option Addr) (vn vc:Nat) (wa:Option Addr) (wn wd:Nat),D.atKey (key E.id) (.held zV)= .held (ev U (.slice ua un uc) (.slice va vn vc) (.slice wa wn wd)):=by
  rcases h4.look E.id with ⟨F,hF,e,sl1,skv1,mvv1,q1,q2⟩|⟨_,q⟩
  ·obtain ⟨a1,c1,rfl,_⟩:=q2.d
   obtain ⟨a2,c2,rfl,_⟩:=q2.s
   obtain ⟨a3,c3,rfl,_⟩:=q2.m
   exact ⟨F,_,_,_,_,_,_,_,_,_,q1⟩
  ·exact ⟨Z0,_,_,_,_,_,_,_,_,_,q⟩
 obtain ⟨U,ua,un,uc,va,vn,vc,wa,wn,wd,hat⟩:=hat
 have hfull:(Maps.has D (key E.id)=false∧60≤Maps.size D)↔((¬ ∃ F∈C,F.id=E.id)∧60≤C.length):=by
  rw [h4.size,←h4.hasE E.id,Bool.not_eq_true]
 refine Calls.mono (zlB bb n mo D E U sl skv mvv ua un uc va vn vc wa wn wd k s w g h1 (by omega) hi ht hL hk hat (fun w'=>PutTo lo w w' bb mo n (jL E C)) (fun hk0 W hW=> ?_)) ?_
 ·refine Calls.mono (zlE lo bb n mo C E sl skv mvv W (hbk.step hW) hn ((jM hk).1 hk0) (hL.step hW)) ?_
  rintro r w' ⟨hr,mo',q1,q2,q3⟩
  refine ⟨hr,mo',q1,ji hW q2,q3.imp id (fun q=>⟨q.1,fun mb e=>Nat.le_trans hW.size (q.2 mb e)⟩)⟩
 ·rintro r w' (q|⟨q0,q1,q2,q3⟩|⟨q0,q1,q2,q3⟩)
  ·exact .inl q
  ·exact .inr (.inl ⟨q0,hfull.1 q1,q2,q3⟩)
  ·exact .inr (.inr ⟨q0,fun z=>q1 (hfull.2 z),q2,q3⟩)
theorem zmL(E:EV):bs (kb E)=E.id:=by
 unfold bs kb
 cases E.id
 rfl
theorem zlF{lo:Nat}{W:World}{bb:Nat}{mo:Option Nat}{n:Nat}{D:DataW Value}{C:List EV}(h1:Bok W bb mo n D)(h4:Holds (zfN lo bb mo) W D C){ss:List (List UInt8)}(hp:ss.Perm (strKeys D)):ss.mergeSort (fun x y=>decide (x≤y))=C.map kb:=by
 have hsk:(C.map kb).Perm (strKeys D):=by
  obtain ⟨es,hD,hpw⟩:=h4.tidy
  have hks: ∀ p∈es,∃ x,p.1= .string x:=by
   cases mo with
   |none=>
    have hD':D= .map []:=h1.2
    rw [hD] at hD'
    have:es=[]:=by simpa using hD'
    rw [this]
    exact fun p hp=>absurd hp (by simp)
   |some mb=>
    obtain ⟨es',hD',hko⟩:=h1.2.2.keysOf
    obtain rfl:es=es':=by rw [hD] at hD';simpa using hD'
    exact fun p hp=>by obtain ⟨v,hv⟩:=hko p hp;obtain ⟨x,_,hx,_⟩:=Maps.keyOf_str Tryz.underlying9 hv;exact ⟨x,hx⟩
  have hnd:(C.map kb).Nodup:=List.pairwise_map.2 (h4.up.imp (fun {a b} q e=>by rw [e] at q;exact List.lt_irrefl _ q))
  have hm: ∀ x,x∈C.map kb↔Maps.has (.map es) (.string x)=true:=fun x=>by
   rw [←hD,h4.has,List.mem_map]
  rw [hD]
  exact perm_strKeys hpw hks hnd hm
 have e1:ss.mergeSort (fun x y=>decide (x≤y))=(C.map kb).mergeSort (fun x y=>decide (x≤y)):=mergeSort_of_perm (hp.trans hsk.symm)
 rw [e1]
 refine List.mergeSort_of_pairwise ?_
 exact List.pairwise_map.2 (h4.up.imp (fun {a b} q=>decide_eq_true (List.le_of_lt q)))
theorem zgV(lo bb n:Nat)(mo:Option Nat)(C:List EV)(w:World)(h:BookAt lo w bb mo n C)(hn:n≤100000):
  Calls Tryz.prog 15 #[.pointer (some ⟨bb,0,none⟩)] w fun r w'=> ∃ v,r= .returned v∧RowV w.heap.size w' v (C.map EV.id)∧Below w.heap.size w w':=by
 obtain ⟨D,h1,h2,h3,h4⟩:=h
 refine Calls.mono (zkd bb mo n D w h1 hn) ?_
 rintro r w' ⟨v,ss,rfl,hp,hr,hb⟩
 refine ⟨v,rfl,?_,hb⟩
 have:=zcl hr
 rw [zlF h1 h4 hp,List.map_map] at this
 rwa [show (bs∘kb)=EV.id from funext zmL] at this
end Go.Proofs.YtpeafgddbbojaaaGreatDoor
namespace Go.Proofs.YtpeafgddbbojaaaGreatDoor
open Go Go.RowKit Cal
attribute [local go_sem] Oper.semAt_some
def upd(E F:EV):Nat→EV
 |0=>{ E with ti:=F.ti }
 |1=>{ E with st:=F.st }
 |2=>{ E with lg:=F.lg }
 |3=>{ E with f:=F.f,e:=F.e,ds:=F.ds,c:=F.c,u:=F.u }
 |4=>{ E with sk:=F.sk }
 |_=>{ E with mv:=F.mv }
theorem zgF(s:ByteArray):bs s.data.toList=s:=zaO rfl
theorem zfJ(E:EV)(k:Nat)(hk:k<6)(w:World)(hw:EW E)(ht:Tab w):
  Calls Tryz.prog 80 #[.string (zt k),.string (bs (fT E k))] w fun r w'=>r= .returned (.bool true)∧Below w.heap.size w w':=by
 obtain ⟨k20,m20,_⟩:=yX hw.ls
 match k,hk with
 |0,_=>
  generalize bs (fT E 0)=sb
  unfold zt
  go_enter Tryz.func80,Tryz.ntmps80
  go_wp2
  go_ret
  exact ⟨rfl,Below.refl _ _⟩
 |1,_=>
  generalize bs (fT E 1)=sb
  unfold zt
  go_enter Tryz.func80,Tryz.ntmps80
  go_wp2
  go_ret
  exact ⟨rfl,Below.refl _ _⟩
 |2,_=>
  have R:=hid (yo E.lg w (by have:=hw.bd.2.1;omega) (by have:=hw.bd.2.2;omega) ht)
  show Calls _ _ #[.string (zt 2),.string (bs (Lib.itoa E.lg))] _ _
  generalize bs (Lib.itoa E.lg)=sb at R ⊢
  unfold zt
  go_enter Tryz.func80,Tryz.ntmps80
  go_wp2_with (go_at_call 128;refine Calls.mono R.out ?_;rintro r w1 ⟨rfl,hb1⟩)
  go_ret
  exact ⟨rfl,hb1⟩
 |3,_=>
  generalize bs (fT E 3)=sb
  unfold zt
  go_enter Tryz.func80,Tryz.ntmps80
  go_wp2
  go_ret
  exact ⟨rfl,Below.refl _ _⟩
 |4,_=>
  generalize bs (fT E 4)=sb
  unfold zt
  go_enter Tryz.func80,Tryz.ntmps80
  go_wp2
  go_ret
  exact ⟨rfl,Below.refl _ _⟩
 |5,_=>
  have R:=hid (zaA E.mv w (by omega))
  show Calls _ _ #[.string (zt 5),.string (bs (Lib.join (E.mv.map mtx) [44]))] _ _
  generalize bs (Lib.join (E.mv.map mtx) [44])=sb at R ⊢
  unfold zt
  go_enter Tryz.func80,Tryz.ntmps80
  go_wp2_with (go_at_call 129;refine Calls.mono R.out ?_;rintro r w1 ⟨rfl,hb1⟩)
  go_ret
  exact ⟨rfl,hb1⟩
set_option maxHeartbeats 4000000 in
set_option maxRecDepth 100000 in
theorem ziO(E F:EV)(sl skv mvv:Value)(k:Nat)(hk:k<6)(B:Nat)(N:Nat→Prop)(hN:N B)(w:World)(hN2: ∀ n,N n→n<w.heap.size)(g:GlobR w)(hB:EB w B E sl skv mvv)(hO:Off N w E sl skv mvv)(hw:EW F)(h20:F.ds.length≤20):
  Calls Tryz.prog 81 #[.pointer (some ⟨B,0,none⟩),.string (zt k),.string (bs (fT F k))] w fun r w'=>r= .returned .nilIface∧w.grownBy w' (some B)∧ ∃ sl' skv' mvv',EB w' B (upd E F k) sl' skv' mvv'∧Off N w' (upd E F k) sl' skv' mvv':=by
 obtain ⟨k20,m20,_,_,kd,md,_⟩:=yX hw.ls
 match k,hk with
 |0,_=>
  show Calls _ _ #[_,.string (zt 0),.string (bs F.ti.data.toList)] _ _
  rw [zgF]
  have HBX:=hid hB
  have HOX:=hid hO
  obtain ⟨x0,x1,x2,x3,x4,x5,x6,x7,x8,x9,x10⟩:=zK (show w.heap[B]? =_ from hB)
  have z:=zF (show w.heap[B]? =_ from hB) 1
  unfold zt
  go_enter Tryz.func81,Tryz.ntmps81
  go_wp2
  go_ret
  exact ⟨rfl,zG _ ⟨B,1,none⟩ _,sl,skv,mvv,zd9 (.string F.ti) HBX.out,(HOX.out.grown hN (zG _ ⟨B,1,none⟩ _):Off N _ E sl skv mvv).d,(HOX.out.grown hN (zG _ ⟨B,1,none⟩ _):Off N _ E sl skv mvv).s,(HOX.out.grown hN (zG _ ⟨B,1,none⟩ _):Off N _ E sl skv mvv).m⟩
 |1,_=>
  have R:=hid (xJ F.st w hw.bd.1.1 hw.bd.1.2)
  show Calls _ _ #[_,.string (zt 1),.string (bs (dtx F.st))] _ _
  generalize bs (dtx F.st)=sb at R ⊢
  have HBX:=hid hB
  have HOX:=hid hO
  unfold zt
  clear hB hO
  go_enter Tryz.func81,Tryz.ntmps81
  go_wp2_with (go_at_call 130;refine Calls.mono R.out ?_;rintro r w1 ⟨rfl,hb1⟩;obtain ⟨x0,x1,x2,x3,x4,x5,x6,x7,x8,x9,x10⟩:=zK (show w1.heap[B]? =_ from HBX.out.step hb1);have z:=zF (show w1.heap[B]? =_ from HBX.out.step hb1) 2)
  go_ret
  have gg:w.grownBy (w1.setCell ⟨B,2,none⟩ (.int .i64 F.st)) (some B):=zL (zO hb1 _) (zG _ ⟨B,2,none⟩ _)
  exact ⟨rfl,gg,sl,skv,mvv,zea (.int .i64 F.st) (HBX.out.step hb1),(HOX.out.grown hN gg).d,(HOX.out.grown hN gg).s,(HOX.out.grown hN gg).m⟩
 |2,_=>
  have R:=hid (yo F.lg w (by have:=hw.bd.2.1;omega) (by have:=hw.bd.2.2;omega) g.tab)
  show Calls _ _ #[_,.string (zt 2),.string (bs (Lib.itoa F.lg))] _ _
  generalize bs (Lib.itoa F.lg)=sb at R ⊢
  have HBX:=hid hB
  have HOX:=hid hO
  unfold zt
  clear hB hO
  go_enter Tryz.func81,Tryz.ntmps81
  go_wp2_with (go_at_call 128;refine Calls.mono R.out ?_;rintro r w1 ⟨rfl,hb1⟩;obtain ⟨x0,x1,x2,x3,x4,x5,x6,x7,x8,x9,x10⟩:=zK (show w1.heap[B]? =_ from HBX.out.step hb1);have z:=zF (show w1.heap[B]? =_ from HBX.out.step hb1) 3)
  go_ret
  have gg:w.grownBy (w1.setCell ⟨B,3,none⟩ (.int .i64 F.lg)) (some B):=zL (zO hb1 _) (zG _ ⟨B,3,none⟩ _)
  exact ⟨rfl,gg,sl,skv,mvv,zeb (.int .i64 F.lg) (HBX.out.step hb1),(HOX.out.grown hN gg).d,(HOX.out.grown hN gg).s,(HOX.out.grown hN gg).m⟩
 |3,_=>
  obtain ⟨t,ht,et⟩:=jH hw.rl
  have R:=zfI F.f F.e F.ds F.c F.u t w g h20 hw.rl ht
  show Calls _ _ #[_,.string (zt 3),.string (bs (ruT (rd F.f F.e F.ds F.c F.u)))] _ _
  rw [et]
  generalize bs (yV (rd F.f F.e F.ds F.c F.u) t)=sb at R ⊢
  unfold rv at R
  have HR:=hid R
  have HBX:=hid hB
  have HOX:=hid hO
  unfold zt
  clear hB hO R
  go_enter Tryz.func81,Tryz.ntmps81
  go_wp2_with (go_at_call 131;refine Calls.mono HR.out ?_;rintro r w1 ⟨s1,rfl,ho1,hb1⟩;obtain ⟨ra,rc,rfl⟩:=zw ho1;obtain ⟨x0,x1,x2,x3,x4,x5,x6,x7,x8,x9,x10⟩:=zK (show w1.heap[B]? =_ from HBX.out.step hb1);have z4:=zF (show w1.heap[B]? =_ from HBX.out.step hb1) 4;have z5:=zF (show w1.heap[B]? =_ from HBX.out.step hb1) 5;have z6:=zF (show w1.heap[B]? =_ from HBX.out.step hb1) 6;have z7:=zF (show w1.heap[B]? =_ from HBX.out.step hb1) 7;have z8:=zF (show w1.heap[B]? =_ from HBX.out.step hb1) 8)
  rw [jd]
  have g5:=xj w1 B (.string F.f) (.int .i64 F.e) (.slice ra F.ds.length rc) (.int .i64 F.c) (.int .i64 F.u)
  have b5:=zaQ (.string F.f) (.int .i64 F.e) (.slice ra F.ds.length rc) (.int .i64 F.c) (.int .i64 F.u) (show w1.heap[B]? =_ from HBX.out.step hb1)
  generalize zjN w1 B (.string F.f) (.int .i64 F.e) (.slice ra F.ds.length rc) (.int .i64 F.c) (.int .i64 F.u)=w2 at g5 b5 ⊢
  go_ret
  have gg:w.grownBy w2 (some B):=zL (zO hb1 _) g5
  exact ⟨rfl,gg,.slice ra F.ds.length rc,skv,mvv,b5,(zaC ho1 hN2 (by omega)).grown hN g5,(HOX.out.grown hN gg).s,(HOX.out.grown hN gg).m⟩
 |4,_=>
  have R:=hid (ja F.sk w (by omega) kd)
  show Calls _ _ #[_,.string (zt 4),.string (bs (Lib.join (F.sk.map dtx) [44]))] _ _
  generalize bs (Lib.join (F.sk.map dtx) [44])=sb at R ⊢
  have HBX:=hid hB
  have HOX:=hid hO
  unfold zt
  clear hB hO
  go_enter Tryz.func81,Tryz.ntmps81
  go_wp2_with (go_at_call 132;refine Calls.mono R.out ?_;rintro r w1 ⟨s1,rfl,ho1,hb1⟩;obtain ⟨ra,rc,rfl⟩:=zw ho1;obtain ⟨x0,x1,x2,x3,x4,x5,x6,x7,x8,x9,x10⟩:=zK (show w1.heap[B]? =_ from HBX.out.step hb1);have z:=zF (show w1.heap[B]? =_ from HBX.out.step hb1) 9)
  go_ret
  have gg:w.grownBy (w1.setCell ⟨B,9,none⟩ (.slice ra F.sk.length rc)) (some B):=zL (zO hb1 _) (zG _ ⟨B,9,none⟩ _)
  exact ⟨rfl,gg,sl,(.slice ra F.sk.length rc),mvv,vX (.slice ra F.sk.length rc) (HBX.out.step hb1),(HOX.out.grown hN gg).d,(zaC ho1 hN2 (by omega)).grown hN (zG _ ⟨B,9,none⟩ _),(HOX.out.grown hN gg).m⟩
 |5,_=>
  have R:=hid (jc F.mv w (by omega) md)
  show Calls _ _ #[_,.string (zt 5),.string (bs (Lib.join (F.mv.map mtx) [44]))] _ _
  generalize bs (Lib.join (F.mv.map mtx) [44])=sb at R ⊢
  have HBX:=hid hB
  have HOX:=hid hO
  unfold zt
  clear hB hO
  go_enter Tryz.func81,Tryz.ntmps81
  go_wp2_with (go_at_call 133;refine Calls.mono R.out ?_;rintro r w1 ⟨s1,rfl,ho1,hb1⟩;obtain ⟨ra,rc,rfl⟩:=zo (zr ho1 (by omega)).2;obtain ⟨x0,x1,x2,x3,x4,x5,x6,x7,x8,x9,x10⟩:=zK (show w1.heap[B]? =_ from HBX.out.step hb1);have z:=zF (show w1.heap[B]? =_ from HBX.out.step hb1) 10)
  go_ret
  have gg:w.grownBy (w1.setCell ⟨B,10,none⟩ (.slice ra F.mv.length rc)) (some B):=zL (zO hb1 _) (zG _ ⟨B,10,none⟩ _)
  exact ⟨rfl,gg,sl,skv,(.slice ra F.mv.length rc),xY (.slice ra F.mv.length rc) (HBX.out.step hb1),(HOX.out.grown hN gg).d,(HOX.out.grown hN gg).s,(zch ho1 hN2 (by omega)).grown hN (zG _ ⟨B,10,none⟩ _)⟩
theorem zaB(i k:Nat)(hi:i<6)(hk:k<6):((zt k).toList==(zt i).toList)=decide (i=k):=by
 rw [ByteArray.toList_eq,ByteArray.toList_eq]
 have h: ∀ i:Fin 6,∀ k:Fin 6,((zt k.1).data.toList==(zt i.1).data.toList)=decide (i.1=k.1):=by decide
 exact h ⟨i,hi⟩ ⟨k,hk⟩
def zak(E:EV)(m:Nat):EV:=⟨E.id,if 0<m then E.ti else ⟨#[]⟩,if 1<m then E.st else 0,if 2<m then E.lg else 0,if 3<m then E.f else ⟨#[]⟩,if 3<m then E.e else 0,if 3<m then E.ds else [],if 3<m then E.c else 0,if 3<m then E.u else 0,if 4<m then E.sk else [],if 5<m then E.mv else []⟩
theorem zeU(E:EV)(m:Nat)(h:m<6):upd (zak E m) E m=zak E (m+1):=by
 match m,h with
 |0,_=>rfl
 |1,_=>rfl
 |2,_=>rfl
 |3,_=>rfl
 |4,_=>rfl
 |5,_=>rfl
theorem zeV(E:EV):zak E 6=E:=rfl
theorem zgG(E:EV)(w:World)(m:Nat)(h:m<6):(w.alloc (pcO (E.id.data.toList::pT E))).cell? ⟨w.heap.size,1+m,none⟩=some (.string (bs (fT E m))):=by
 unfold pcO pT
 rw [World.cell?_alloc_new]
 match m,h with
 |0,_=>rfl
 |1,_=>rfl
 |2,_=>rfl
 |3,_=>rfl
 |4,_=>rfl
 |5,_=>rfl
theorem zlx(E:EV)(w:World):(w.alloc (pcO (E.id.data.toList::pT E))).cell? ⟨w.heap.size,0,none⟩=some (.string E.id):=by
 unfold pcO
 rw [World.cell?_alloc_new]
 show some (sv _)=_
 unfold sv
 rw [zgF]
set_option maxHeartbeats 4000000 in
set_option maxRecDepth 100000 in
theorem zgH(E:EV)(s:Nat→Addr)(w:World)(gk:GlobK s w)(g:GlobR w)(hE:EW E)(h20:E.ds.length≤20):
  Calls Tryz.prog 47 #[.string (bs (eT E))] w fun r w'=> ∃ sl skv mvv,r= .returned (.tuple #[ev E sl skv mvv,.nilIface])∧Ls w' E sl skv mvv∧Below w.heap.size w w':=by
 obtain ⟨k20,m20,_⟩:=yX hE.ls
 have GK:=hid gk
 have GR:=hid g
 have HW:=hid hE
 have SP:Hid (∀ W,Calls Tryz.prog 79 #[.string (bs (eT E)),.string ⟨#[124]⟩] W fun r w'=>r= .returned (.slice (some ⟨W.heap.size,0,none⟩) 7 7)∧w'=W.alloc (pcO (E.id.data.toList::pT E))):=fun W=>by
  have:=za7 (bs (eT E)) 124 W (by rw [Lib.size_eq,zh];have:=zeY hE h20;omega)
  rw [zh,zdc hE] at this
  exact this
 have SH:Hid (∀ (m:Nat),m<6→ ∀ W,Tab W→Calls Tryz.prog 80 #[.string (zt m),.string (bs (fT E m))] W fun r w'=>r= .returned (.bool true)∧Below W.heap.size W w'):=fun m hm W h=>zfJ E m hm W hE h
 have FI:Hid (∀ (m:Nat),m<6→ ∀ (B:Nat) (N:Nat→Prop),N B→ ∀ (W:World),(∀ n,N n→n<W.heap.size)→GlobR W→ ∀ sl skv mvv,EB W B (zak E m) sl skv mvv→Off N W (zak E m) sl skv mvv→Calls Tryz.prog 81 #[.pointer (some ⟨B,0,none⟩),.string (zt m),.string (bs (fT E m))] W fun r w'=>r= .returned .nilIface∧W.grownBy w' (some B)∧ ∃ sl' skv' mvv',EB w' B (zak E (m+1)) sl' skv' mvv'∧Off N w' (zak E (m+1)) sl' skv' mvv'):=
  fun m hm B N hN W hN2 hg sl skv mvv hB hO=>by
   have:=ziO (zak E m) E sl skv mvv m hm B N hN W hN2 hg hB hO hE h20
   rw [zeU E m hm] at this
   exact this
 have CK:Hid (∀ sl skv mvv W,GlobK s W→Ls W E sl skv mvv→Calls Tryz.prog 32 #[ev E sl skv mvv] W fun r w'=>r= .returned .nilIface∧Below W.heap.size W w'):=fun sl skv mvv W hg hl=>by
  have:=vW E sl skv mvv 0 s W hg hl.d hl.s hl.m (by have:=hE.id.2.2;omega) (by have:=hE.ti.2;omega) (by obtain ⟨k,hk⟩:=vV E;have:=(jM hk).2 hE;subst this;exact hk)
  rw [zdt] at this
  exact this
 generalize bs (eT E)=sb at SP ⊢
 clear gk g hE
 have hA:=zC w (.cells zA 48)
 have kR:(w.alloc (.cells zA 48)).heap[w.heap.size]? =some (.cells zA 48 (0,0)):=zJ _ rfl
 have hz:(w.alloc (.cells zA 48)).heap.size=w.heap.size+1:=World.size_alloc _ _
 have HA:Hid (_):=hA
 have KR:Hid (_):=kR
 have HZ:Hid (_):=hz
 clear hA kR hz
 go_enter Tryz.func47,Tryz.ntmps47
 generalize hw0:w.alloc (.cells zA 48)=w0 at HA KR HZ
 go_upto_region 2 with (go_at_call 75;refine Calls.mono (vr _) ?_;rintro r w' ⟨rfl,rfl⟩)
 have FC1:Hid (∀ (i:Nat),i<6→(w0.alloc vD).cell? ⟨w0.heap.size,i,none⟩=some (.string (zt i))):=fun i hi=>vE w0 i hi
 have HB1:Hid (Below w0.heap.size w0 (w0.alloc vD)):=zC _ _
 have hz1:(w0.alloc vD).heap.size=w0.heap.size+1:=World.size_alloc _ _
 generalize w0.alloc vD=w1 at FC1 HB1 hz1 ⊢
 have HZ1:Hid (_):=hz1
 clear hz1
 go_upto_region 3 with (go_at_call 79;refine Calls.mono (SP.out _) ?_;rintro r w' ⟨rfl,rfl⟩)
 have PC:Hid (∀ (m:Nat),m<6→(w1.alloc (pcO (E.id.data.toList::pT E))).cell? ⟨w1.heap.size,1+m,none⟩=some (.string (bs (fT E m)))):=fun m hm=>zgG E w1 m hm
 have pc0:=zlx E w1
 have HB2:Hid (Below w1.heap.size w1 (w1.alloc (pcO (E.id.data.toList::pT E)))):=zC _ _
 have HZ2:Hid ((w1.alloc (pcO (E.id.data.toList::pT E))).heap.size=w1.heap.size+1):=World.size_alloc _ _
 generalize w1.alloc (pcO (E.id.data.toList::pT E))=w2 at PC pc0 HB2 HZ2 ⊢
 have HDEF:Hid (zak E 0=⟨E.id,⟨#[]⟩,0,0,⟨#[]⟩,0,[],0,0,[],[]⟩):=rfl
 generalize hid:E.id=idn at pc0 HDEF
 clear SP hw0 hid
 go_upto_region 8 with (fail)
 have KE:Hid (EB (w2.alloc (.cells #[.string idn,.string ⟨#[]⟩,.int .i64 0,.int .i64 0,.string ⟨#[]⟩,.int .i64 0,.slice none 0 0,.int .i64 0,.int .i64 0,.slice none 0 0,.slice none 0 0] 48)) w2.heap.size (zak E 0) (.slice none 0 0) (.slice none 0 0) (.slice none 0 0)):=by
  show EB _ _ _ _ _ _
  rw [HDEF.out]
  exact zJ _ rfl
 have HB3:Hid (Below w2.heap.size w2 (w2.alloc (.cells #[.string idn,.string ⟨#[]⟩,.int .i64 0,.int .i64 0,.string ⟨#[]⟩,.int .i64 0,.slice none 0 0,.int .i64 0,.int .i64 0,.slice none 0 0,.slice none 0 0] 48))):=zC _ _
 have HZ3:Hid ((w2.alloc (.cells #[.string idn,.string ⟨#[]⟩,.int .i64 0,.int .i64 0,.string ⟨#[]⟩,.int .i64 0,.slice none 0 0,.int .i64 0,.int .i64 0,.slice none 0 0,.slice none 0 0] 48)).heap.size=w2.heap.size+1):=World.size_alloc _ _
 have OF0:Hid (∀ N,Off N (w2.alloc (.cells #[.string idn,.string ⟨#[]⟩,.int .i64 0,.int .i64 0,.string ⟨#[]⟩,.int .i64 0,.slice none 0 0,.int .i64 0,.int .i64 0,.slice none 0 0,.slice none 0 0] 48)) (zak E 0) (.slice none 0 0) (.slice none 0 0) (.slice none 0 0)):=fun N=>by
  rw [HDEF.out]
  exact ⟨OffI.nil _ _ _,OffI.nil _ _ _,OffM.nil _ _ _⟩
 clear pc0
 generalize w2.alloc (.cells #[.string idn,.string ⟨#[]⟩,.int .i64 0,.int .i64 0,.string ⟨#[]⟩,.int .i64 0,.slice none 0 0,.int .i64 0,.int .i64 0,.slice none 0 0,.slice none 0 0] 48)=w3 at KE HB3 HZ3 OF0 ⊢
 obtain ⟨nf,hnf⟩: ∃ n,n=w0.heap.size:=⟨_,rfl⟩
 obtain ⟨np,hnp⟩: ∃ n,n=w1.heap.size:=⟨_,rfl⟩
 obtain ⟨be,hbe⟩: ∃ n,n=w2.heap.size:=⟨_,rfl⟩
 have e1:=HZ.out
 have e2:=HZ1.out
 have e3:=HZ2.out
 have e4:=HZ3.out
 have B23:=hid (zB HB2.out HB3.out)
 have B13:=hid (zB HB1.out B23.out)
 have BW3:=hid (zB HA.out B13.out)
 have FC3:Hid (∀ (i:Nat),i<6→w3.cell? ⟨nf,i,none⟩=some (.string (zt i))):=fun i hi=>by rw [hnf];exact zD (FC1.out i hi) B23.out
 have PC3:Hid (∀ (m:Nat),m<6→w3.cell? ⟨np,1+m,none⟩=some (.string (bs (fT E m)))):=fun i hi=>by rw [hnp];exact zD (PC.out i hi) HB3.out
 have KR3:Hid (w3.heap[w.heap.size]? =some (.cells zA 48 (0,0))):=(B13.out.block _ (by omega)).trans KR.out
 have KE3:Hid (EB w3 be (zak E 0) (.slice none 0 0) (.slice none 0 0) (.slice none 0 0)):=by show EB _ _ _ _ _ _;rw [hbe];exact KE.out
 have hs1:w.heap.size+1=nf:=by omega
 have hs2:nf+1=np:=by omega
 have hs3:np+1=be:=by omega
 have hs4:be+1=w3.heap.size:=by omega
 rw [←hnf,←hnp,←hbe]
 have HS1:Hid (w.heap.size<nf∧nf<np∧np<be∧be<w3.heap.size):=by show _∧_;omega
 clear HZ HZ1 HZ2 HZ3 e1 e2 e3 e4 HA KR HB1 HB2 HB3 B23 B13 FC1 PC KE hnf hnp hbe hs1 hs2 hs3 hs4 HDEF
 go_loopw [8,9,33] (fun _ _ i wr=> ∃ m:Nat,m≤6∧i= .int .i64 m∧Hid (Below w3.heap.size w3 wr)) (fun _ _ i _=>6 - (intOf i).toNat)
 case atStart=>exact ⟨0,Nat.zero_le _,rfl,Below.refl _ _⟩
 case round=>
  obtain ⟨m,hm,rfl,HB⟩:=hrel
  by_cases hlt:m<6
  ·have hc1:=zD (FC3.out m hlt) HB.out
   have hc2:=zD (PC3.out m hlt) HB.out
   have SM:=hid (SH.out m hlt wr (GR.out.tab.step (zB BW3.out HB.out)))
   generalize zt m=fb at hc1 SM
   generalize bs (fT E m)=tb at hc2 SM
   have hm6:(m:Int)<6:=by omega
   clear FC3 PC3 SH FI CK GK GR BW3 KR3 KE3 OF0
   go_wp2_with (go_at_call 80;refine Calls.mono SM.out ?_;rintro r w4 ⟨rfl,hb4⟩)
   go_roundw
   case rel=>exact ⟨m+1,by omega,by go_num,zB HB.out hb4⟩
   case measure=>simp [intOf];omega
  ·obtain ⟨m0,hm0⟩: ∃ x,x=m:=⟨m,rfl⟩
   subst hm0
   have hm6:(6:Int)≤(m0:Int):=by omega
   obtain ⟨w4,hw4⟩: ∃ x,x=wr:=⟨wr,rfl⟩
   subst hw4
   have FC4:Hid (∀ (i:Nat),i<6→w4.cell? ⟨nf,i,none⟩=some (.string (zt i))):=fun i hi=>zD (FC3.out i hi) HB.out
   have PC4:Hid (∀ (m:Nat),m<6→w4.cell? ⟨np,1+m,none⟩=some (.string (bs (fT E m)))):=fun i hi=>zD (PC3.out i hi) HB.out
   have KR4:Hid (w4.heap[w.heap.size]? =some (.cells zA 48 (0,0))):=(HB.out.block _ (by have:=HS1.out;omega)).trans KR3.out
   have KE4:=hid (KE3.out.step HB.out)
   have BW4:=hid (zB BW3.out HB.out)
   have HS4:Hid (w.heap.size<nf∧nf<np∧np<be∧be<w4.heap.size):=by
    obtain ⟨q1,q2,q3,q4⟩:=HS1.out
    exact ⟨q1,q2,q3,Nat.lt_of_lt_of_le q4 HB.out.size⟩
   have OF4:Hid (Off (fun n=>n=w.heap.size∨n=be) w4 (zak E 0) (.slice none 0 0) (.slice none 0 0) (.slice none 0 0)):=(OF0.out _).grown (B:=be) (.inr rfl) (zO HB.out _)
   clear FC3 PC3 KR3 KE3 BW3 HS1 OF0 SH HB hlt hm
   go_upto_region 14 with (fail)
   clear hm6
   go_loopw [10,11,12,50] (fun _ _ _ i wx=> ∃ m:Nat,m≤6∧i= .int .i64 m∧Hid (w4.grownBy wx (some be))∧Hid (∃ sl skv mvv,EB wx be (zak E m) sl skv mvv∧Off (fun n=>n=w.heap.size∨n=be) wx (zak E m) sl skv mvv)) (fun _ _ _ i _=>6 - (intOf i).toNat)
   case atStart=>exact ⟨0,Nat.zero_le _,rfl,zO (Below.refl _ _) _,_,_,_,KE4.out,OF4.out⟩
   case round=>
    obtain ⟨m,hm,rfl,HG,HEO⟩:=hrel
    obtain ⟨sl,skv,mvv,he,ho⟩:=HEO.out
    have HE:=hid he
    have HO:=hid ho
    clear HEO he ho
    have hs:=HS4.out
    have BWX:Hid (Below w.heap.size w wr):=BW4.out.grown HG.out BW4.out.size (fun k q=>by cases q;omega)
    by_cases hlt:m<6
    ·have hc1:wr.cell? ⟨nf,m,none⟩=_:=yG HG.out (FC4.out m hlt) (by omega)
     have hc2:wr.cell? ⟨np,1+m,none⟩=_:=yG HG.out (PC4.out m hlt) (by omega)
     have FM:Hid (Calls _ _ _ _ _):=FI.out m hlt be (fun n=>n=w.heap.size∨n=be) (.inr rfl) wr (fun n h=>by have:=HG.out.size;rcases h with h|h<;>omega) (GR.out.step BWX.out) sl skv mvv HE.out HO.out
     generalize zt m=fb at hc1 FM
     generalize bs (fT E m)=tb at hc2 FM
     have hm6:(m:Int)<6:=by omega
     clear FC4 PC4 FI CK GK GR BW4 KR4 KE4 OF4 BWX hs HS4
     go_wp2_with (go_at_call 81;refine Calls.mono FM.out ?_;rintro r w5 ⟨rfl,hg5,sl',skv',mvv',hE5,hO5⟩)
     go_roundw
     case rel=>exact ⟨m+1,by omega,by go_num,zL HG.out hg5,sl',skv',mvv',hE5,hO5⟩
     case measure=>simp [intOf];omega
    ·have hm6:m=6:=by omega
     subst hm6
     rw [zeV] at HE HO
     have LS:Ls wr E sl skv mvv:=⟨xk HO.out.d.ints h20,HO.out.s.ints,HO.out.m.movs⟩
     have C0:=CK.out sl skv mvv wr (GK.out.step BWX.out) LS
     have KR5:Hid (wr.heap[w.heap.size]? =some (.cells zA 48 (0,0))):=(HG.out.block _ (by omega) (fun q=>by have q':w.heap.size=be:=Option.some.inj q;omega)).trans KR4.out
     have hsz:=HG.out.size
     have hb1:w.heap.size<be:=by omega
     have hb2:be<wr.heap.size:=by omega
     clear FC4 PC4 FI CK GK GR BW4 KR4 KE4 OF4 HS4 hs hlt HG hsz
     obtain ⟨ra,rc,rfl,_⟩:=LS.d
     obtain ⟨sa,sc,rfl,_⟩:=LS.s
     obtain ⟨ma,mc,rfl,_⟩:=LS.m
     obtain ⟨idn',ti',st',lg',f',e',ds',c',u',sk',mv'⟩:=E
     unfold ev at C0
     dsimp only at*
     obtain ⟨x0,x1,x2,x3,x4,x5,x6,x7,x8,x9,x10⟩:=zK (show wr.heap[be]? =_ from HE.out)
     have HC0:=hid C0
     clear C0 LS
     go_upto_region 23 with (go_at_call 32;refine Calls.mono HC0.out ?_;rintro r w6 ⟨rfl,hb6⟩)
     have KE6:=HE.out.step hb6
     have KR6:Hid (w6.heap[w.heap.size]? =some (.cells zA 48 (0,0))):=(hb6.block _ (by omega)).trans KR5.out
     have BW6:=hid (zB BWX.out hb6)
     have OF6:Hid (Off (fun n=>n=w.heap.size∨n=be) w6 _ _ _ _):=HO.out.grown (B:=be) (.inr rfl) (zO hb6 _)
     clear x0 x1 x2 x3 x4 x5 x6 x7 x8 x9 x10 HC0 HE HO KR5 BWX
     obtain ⟨x0,x1,x2,x3,x4,x5,x6,x7,x8,x9,x10⟩:=zK (show w6.heap[be]? =_ from KE6)
     obtain ⟨t0,t1,t2,t3,t4,t5,t6,t7,t8,t9,t10⟩:=zK KR6.out
     obtain ⟨f0,f1,f2,f3,f4,f5,f6,f7,f8,f9,f10⟩:=frz KR6.out
     clear KE6
     go_wp2
     rw [zX]
     have n10:=zk (.string idn') (.string ti') (.int .i64 st') (.int .i64 lg') (.string f') (.int .i64 e') ((.slice ra ds'.length rc)) (.int .i64 c') (.int .i64 u') ((.slice sa sk'.length sc)) ((.slice ma mv'.length mc)) KR6.out
     have g7:=zT w6 w.heap.size (.string idn') (.string ti') (.int .i64 st') (.int .i64 lg') (.string f') (.int .i64 e') ((.slice ra ds'.length rc)) (.int .i64 c') (.int .i64 u') ((.slice sa sk'.length sc)) ((.slice ma mv'.length mc))
     clear x0 x1 x2 x3 x4 x5 x6 x7 x8 x9 x10 t0 t1 t2 t3 t4 t5 t6 t7 t8 t9 t10 f0 f1 f2 f3 f4 f5 f6 f7 f8 f9 f10
     generalize yI w6 w.heap.size (.string idn') (.string ti') (.int .i64 st') (.int .i64 lg') (.string f') (.int .i64 e') ((.slice ra ds'.length rc)) (.int .i64 c') (.int .i64 u') ((.slice sa sk'.length sc)) ((.slice ma mv'.length mc))=w7 at n10 g7 ⊢
     obtain ⟨c0,c1,c2,c3,c4,c5,c6,c7,c8,c9,c10⟩:=zK n10
     have OF7:=OF6.out.grown (B:=w.heap.size) (.inl rfl) g7
     refine bodyPost_ret (v:= .tuple #[.agg #[.string idn',.string ti',.int .i64 st',.int .i64 lg',.string f',.int .i64 e',(.slice ra ds'.length rc),.int .i64 c',.int .i64 u',(.slice sa sk'.length sc),(.slice ma mv'.length mc)],.nilIface]) (by simp [results,Tryz.f47,go_sem,c0,c1,c2,c3,c4,c5,c6,c7,c8,c9,c10]) rfl ⟨_,_,_,rfl,⟨xk OF7.d.ints h20,OF7.s.ints,OF7.m.movs⟩,BW6.out.grown g7 BW6.out.size (fun k q=>by cases q;exact Nat.le_refl _)⟩
end Go.Proofs.YtpeafgddbbojaaaGreatDoor
namespace Go.Proofs.YtpeafgddbbojaaaGreatDoor
open Go Go.RowKit Go.Maps Go.Sort Cal
attribute [local go_sem] Oper.semAt_some
def znf:ByteArray:=⟨#[97,108,108]⟩
def zjQ:Nat→ByteArray
 |6=>znf
 |k=>zt k
noncomputable def cT(E:EV):Nat→List UInt8
 |6=>eT E
 |k=>fT E k
theorem zeo(a b:List Int)(x:Int):x∈ris a b→x∈a∨x∈b:=by
 intro h
 unfold ris Go.Lib.compact Go.Lib.compactUpTo at h
 obtain ⟨i,hi,rfl⟩:=List.mem_map.1 h
 have hlt:i<((a++b).mergeSort fun x y=>decide (x≤y)).length:=by
  have:=List.mem_range.1 (List.mem_filter.1 hi).1
  simpa using this
 have hm:(((a++b).mergeSort fun x y=>decide (x≤y)).toArray[i]!)∈(a++b).mergeSort fun x y=>decide (x≤y):=by
  have e:((a++b).mergeSort fun x y=>decide (x≤y)).toArray[i]! =((a++b).mergeSort fun x y=>decide (x≤y))[i]:=by rw [getElem!_pos _ i (by simpa using hlt)];simp
  rw [e];exact List.getElem_mem hlt
 exact List.mem_append.1 (List.mem_mergeSort.1 hm)
theorem zhC(f t:Int): ∀ (ms:List (Int×Int)) (a:Int×Bool),ms.foldl (fun g m=>if m.1=f then (m.2,true) else g) a=(t,true)→a=(t,true)∨(f,t)∈ms
 |[],a,h=> .inl h
 |m::r,a,h=>by
  rw [List.foldl_cons] at h
  rcases zhC f t r _ h with q|q
  ·by_cases e:m.1=f
   ·rw [if_pos e] at q
    injection q with q1 _
    refine .inr (List.mem_cons.2 (.inl ?_))
    rw [←e,←q1]
   ·rw [if_neg e] at q
    exact .inl q
  ·exact .inr (List.mem_cons_of_mem _ q)
theorem zj1(f t:Int)(ms:List (Int×Int))(h:gl ms f=(t,true)):(f,t)∈ms:=by
 rcases zhC f t ms _ h with q|q
 ·cases q
 ·exact q
theorem zhD{α:Type} [DecidableEq α] {b x y z:α}(h:yD b x y=some z):z=x∨z=y:=by
 unfold yD at h
 split at h
 ·exact .inl (Option.some.inj h).symm
 ·split at h
  ·exact .inr (Option.some.inj h).symm
  ·cases h
theorem zdC(l1 l2 l3:List (Int×Int))(P:Int×Int→Prop)(h2: ∀ m∈l2,P m)(h3: ∀ m∈l3,P m): ∀ (F:List Int) (o q:List (Int×Int)),(∀ m∈o,P m)→F.foldl (jSt l1 l2 l3) (some o)=some q→(∀ m∈q,P m)∧q.length≤o.length+F.length
 |[],o,q,ho,h=>by
  have e:o=q:=Option.some.inj h
  subst e
  exact ⟨ho,Nat.le_refl _⟩
 |f::r,o,q,ho,h=>by
  rw [List.foldl_cons] at h
  cases hz:yD (gl l1 f) (gl l2 f) (gl l3 f) with
  |none=>
   have e:jSt l1 l2 l3 (some o) f=none:=by unfold jSt;simp [hz]
   rw [e,zcA] at h
   cases h
  |some p=>
   obtain ⟨t,k⟩:=p
   have e:jSt l1 l2 l3 (some o) f=some (if k then o++[(f,t)] else o):=by unfold jSt;simp [hz]
   rw [e] at h
   cases k with
   |false=>
    obtain ⟨a1,a2⟩:=zdC l1 l2 l3 P h2 h3 r o q ho h
    exact ⟨a1,by simp;omega⟩
   |true=>
    have hP:P (f,t):=by
     rcases zhD hz with q|q
     ·exact h2 _ (zj1 f t l2 q.symm)
     ·exact h3 _ (zj1 f t l3 q.symm)
    obtain ⟨a1,a2⟩:=zdC l1 l2 l3 P h2 h3 r (o++[(f,t)]) q (fun m hm=>by
     rcases List.mem_append.1 hm with z|z
     ·exact ho m z
     ·rw [List.mem_singleton.1 z];exact hP) h
    exact ⟨a1,by simp at a2 ⊢;omega⟩
noncomputable def jF(E1 E2 E3:EV)(k:Nat):ByteArray×Bool:=
 match yD (bs (fT E1 k)) (bs (fT E2 k)) (bs (fT E3 k)) with
 |some t=>(t,true)
 |none=>if k=4 then (bs (Lib.join ((jSk E1.sk E2.sk E3.sk).map dtx) [44]),true) else if k=5 then (bs (Lib.join (((jMv E1.mv E2.mv E3.mv).getD []).map mtx) [44]),(jMv E1.mv E2.mv E3.mv).isSome) else (⟨#[]⟩,false)
theorem zmb(k:Nat)(hk:k<6):((zt k).toList==[115,107,105,112,115])=decide (k=4):=by
 have h:=zaB 4 k (by omega) hk
 rw [show (zt 4).toList=[115,107,105,112,115] from by unfold zt;rw [ByteArray.toList_eq];rfl] at h
 rw [h];exact decide_eq_decide.2 ⟨fun q=>q.symm,fun q=>q.symm⟩
theorem zmc(k:Nat)(hk:k<6):((zt k).toList==[109,111,118,101,115])=decide (k=5):=by
 have h:=zaB 5 k (by omega) hk
 rw [show (zt 5).toList=[109,111,118,101,115] from by unfold zt;rw [ByteArray.toList_eq];rfl] at h
 rw [h];exact decide_eq_decide.2 ⟨fun q=>q.symm,fun q=>q.symm⟩
set_option maxHeartbeats 8000000 in
set_option maxRecDepth 100000 in
theorem zcC(k:Nat)(hk:k<6)(E1 E2 E3:EV)(x1 y1 z1:Value)(x2 y2 z2:Value)(x3 y3 z3:Value)(w:World)(g:GlobR w)(L1:Ls w E1 x1 y1 z1)(L2:Ls w E2 x2 y2 z2)(L3:Ls w E3 x3 y3 z3)(W1:EW E1)(W2:EW E2)(W3:EW E3)(G2:Got w y2 E2.sk)(G3:Got w y3 E3.sk):
  Calls Tryz.prog 78 #[.string (zt k),ev E1 x1 y1 z1,ev E2 x2 y2 z2,ev E3 x3 y3 z3] w fun r w'=>r= .returned (.tuple #[.string (jF E1 E2 E3 k).1,.bool (jF E1 E2 E3 k).2])∧Below w.heap.size w w':=by
 obtain ⟨k21,m21,_,_,kd1,md1,_⟩:=yX W1.ls
 have C1:Hid (∀ W,Below w.heap.size w W→Calls Tryz.prog 76 #[ev E1 x1 y1 z1,.string (zt k)] W fun r w'=>r= .returned (.string (bs (fT E1 k)))∧Below W.heap.size W w'):=fun W hW=>zci E1 x1 y1 z1 k hk W (g.step hW) (L1.d.step hW) (L1.s.step hW) (L1.m.step hW) W1
 obtain ⟨k22,m22,_,_,kd2,md2,_⟩:=yX W2.ls
 have C2:Hid (∀ W,Below w.heap.size w W→Calls Tryz.prog 76 #[ev E2 x2 y2 z2,.string (zt k)] W fun r w'=>r= .returned (.string (bs (fT E2 k)))∧Below W.heap.size W w'):=fun W hW=>zci E2 x2 y2 z2 k hk W (g.step hW) (L2.d.step hW) (L2.s.step hW) (L2.m.step hW) W2
 obtain ⟨k23,m23,_,_,kd3,md3,_⟩:=yX W3.ls
 have C3:Hid (∀ W,Below w.heap.size w W→Calls Tryz.prog 76 #[ev E3 x3 y3 z3,.string (zt k)] W fun r w'=>r= .returned (.string (bs (fT E3 k)))∧Below W.heap.size W w'):=fun W hW=>zci E3 x3 y3 z3 k hk W (g.step hW) (L3.d.step hW) (L3.s.step hW) (L3.m.step hW) W3
 have JS:Hid (∀ W,Below w.heap.size w W→Calls Tryz.prog 125 #[y1,y2,y3] W fun r w'=> ∃ v',r= .returned v'∧Ow W.heap.size w' v' (jSk E1.sk E2.sk E3.sk)∧Below W.heap.size W w'):=fun W hW=>zcz y1 y2 y3 _ _ _ W (L1.s.step hW) (L2.s.step hW) (L3.s.step hW) (G2.step hW) (G3.step hW) (by omega) (by omega)
 have JM:Hid (∀ W,Below w.heap.size w W→Calls Tryz.prog 126 #[z1,z2,z3] W fun r w'=> ∃ v',r= .returned (.tuple #[v',.bool (jMv E1.mv E2.mv E3.mv).isSome])∧OwM W.heap.size w' v' ((jMv E1.mv E2.mv E3.mv).getD [])∧Below W.heap.size W w'):=fun W hW=>zcB z1 z2 z3 _ _ _ W (L1.m.step hW) (L2.m.step hW) (L3.m.step hW) (fun m hm=>(md1 m hm).1) (fun m hm=>(md2 m hm).1) (fun m hm=>(md3 m hm).1) (by omega) (by omega) (fun f hf=>by
  rcases zeo _ _ f hf with q|q
  ·obtain ⟨m,hm,rfl⟩:=List.mem_map.1 q;exact (md2 m hm).1
  ·obtain ⟨m,hm,rfl⟩:=List.mem_map.1 q;exact (md3 m hm).1)
 have SV:Hid ((∀ x∈jSk E1.sk E2.sk E3.sk,0≤x∧x≤73048)∧(jSk E1.sk E2.sk E3.sk).length≤60):=⟨fun x hx=>by
  rcases zeo _ _ x (List.mem_filter.1 hx).1 with q|q
  ·exact kd2 x q
  ·exact kd3 x q,by
  refine Nat.le_trans (List.length_filter_le _ _) (Nat.le_trans (jS _ _) ?_);omega⟩
 have MV:Hid ((∀ m∈(jMv E1.mv E2.mv E3.mv).getD [],(0≤m.1∧m.1≤73048)∧0≤m.2∧m.2≤73048)∧((jMv E1.mv E2.mv E3.mv).getD []).length≤60):=by
  cases hq:jMv E1.mv E2.mv E3.mv with
  |none=>exact ⟨fun m hm=>absurd hm (by simp),by simp⟩
  |some q=>
   obtain ⟨a1,a2⟩:=zdC E1.mv E2.mv E3.mv _ md2 md3 _ [] q (fun m hm=>absurd hm (by simp)) hq
   refine ⟨a1,Nat.le_trans a2 ?_⟩
   have:=jS (E2.mv.map Prod.fst) (E3.mv.map Prod.fst)
   simp only [List.length_map] at this
   simp only [List.length_nil,Nat.zero_add]
   omega
 have GT:=hid g
 have EK:=hid hk
 obtain ⟨p1,q1,n1⟩:=L1
 obtain ⟨r1,rc1,rfl,p1⟩:=p1
 obtain ⟨s1,sc1,rfl,q1⟩:=q1
 obtain ⟨m1,mc1,rfl,n1⟩:=n1
 clear p1 q1 n1 k21 m21 kd1 md1 W1
 obtain ⟨p2,q2,n2⟩:=L2
 obtain ⟨r2,rc2,rfl,p2⟩:=p2
 obtain ⟨s2,sc2,rfl,q2⟩:=q2
 obtain ⟨m2,mc2,rfl,n2⟩:=n2
 clear p2 q2 n2 k22 m22 kd2 md2 W2
 obtain ⟨p3,q3,n3⟩:=L3
 obtain ⟨r3,rc3,rfl,p3⟩:=p3
 obtain ⟨s3,sc3,rfl,q3⟩:=q3
 obtain ⟨m3,mc3,rfl,n3⟩:=n3
 clear p3 q3 n3 k23 m23 kd3 md3 W3
 clear g G2 G3
 have C1':Hid (∀ W,Below w.heap.size w W→Calls Tryz.prog 76 #[.agg (eW E1.id E1.ti E1.st E1.lg E1.f E1.e r1 E1.ds.length rc1 E1.c E1.u s1 E1.sk.length sc1 m1 E1.mv.length mc1),.string (zt k)] W fun r w'=>r= .returned (.string (bs (fT E1 k)))∧Below W.heap.size W w'):=C1.out
 have C2':Hid (∀ W,Below w.heap.size w W→Calls Tryz.prog 76 #[.agg (eW E2.id E2.ti E2.st E2.lg E2.f E2.e r2 E2.ds.length rc2 E2.c E2.u s2 E2.sk.length sc2 m2 E2.mv.length mc2),.string (zt k)] W fun r w'=>r= .returned (.string (bs (fT E2 k)))∧Below W.heap.size W w'):=C2.out
 have C3':Hid (∀ W,Below w.heap.size w W→Calls Tryz.prog 76 #[.agg (eW E3.id E3.ti E3.st E3.lg E3.f E3.e r3 E3.ds.length rc3 E3.c E3.u s3 E3.sk.length sc3 m3 E3.mv.length mc3),.string (zt k)] W fun r w'=>r= .returned (.string (bs (fT E3 k)))∧Below W.heap.size W w'):=C3.out
 change Calls Tryz.prog 78 #[.string (zt k),.agg (eW E1.id E1.ti E1.st E1.lg E1.f E1.e r1 E1.ds.length rc1 E1.c E1.u s1 E1.sk.length sc1 m1 E1.mv.length mc1),.agg (eW E2.id E2.ti E2.st E2.lg E2.f E2.e r2 E2.ds.length rc2 E2.c E2.u s2 E2.sk.length sc2 m2 E2.mv.length mc2),.agg (eW E3.id E3.ti E3.st E3.lg E3.f E3.e r3 E3.ds.length rc3 E3.c E3.u s3 E3.sk.length sc3 m3 E3.mv.length mc3)] w _
 have hB:Below w.heap.size w (((w.alloc (.cells (eW E1.id E1.ti E1.st E1.lg E1.f E1.e r1 E1.ds.length rc1 E1.c E1.u s1 E1.sk.length sc1 m1 E1.mv.length mc1) 48)).alloc (.cells (eW E2.id E2.ti E2.st E2.lg E2.f E2.e r2 E2.ds.length rc2 E2.c E2.u s2 E2.sk.length sc2 m2 E2.mv.length mc2) 48)).alloc (.cells (eW E3.id E3.ti E3.st E3.lg E3.f E3.e r3 E3.ds.length rc3 E3.c E3.u s3 E3.sk.length sc3 m3 E3.mv.length mc3) 48)):=zB (zB (zC _ _) (zC _ _)) (zC _ _)
 have K1:(((w.alloc (.cells (eW E1.id E1.ti E1.st E1.lg E1.f E1.e r1 E1.ds.length rc1 E1.c E1.u s1 E1.sk.length sc1 m1 E1.mv.length mc1) 48)).alloc (.cells (eW E2.id E2.ti E2.st E2.lg E2.f E2.e r2 E2.ds.length rc2 E2.c E2.u s2 E2.sk.length sc2 m2 E2.mv.length mc2) 48)).alloc (.cells (eW E3.id E3.ti E3.st E3.lg E3.f E3.e r3 E3.ds.length rc3 E3.c E3.u s3 E3.sk.length sc3 m3 E3.mv.length mc3) 48)).heap[w.heap.size]? =some (.cells (eW E1.id E1.ti E1.st E1.lg E1.f E1.e r1 E1.ds.length rc1 E1.c E1.u s1 E1.sk.length sc1 m1 E1.mv.length mc1) 48 (0,0)):=zH _ (zH _ (zJ _ rfl))
 have K2:(((w.alloc (.cells (eW E1.id E1.ti E1.st E1.lg E1.f E1.e r1 E1.ds.length rc1 E1.c E1.u s1 E1.sk.length sc1 m1 E1.mv.length mc1) 48)).alloc (.cells (eW E2.id E2.ti E2.st E2.lg E2.f E2.e r2 E2.ds.length rc2 E2.c E2.u s2 E2.sk.length sc2 m2 E2.mv.length mc2) 48)).alloc (.cells (eW E3.id E3.ti E3.st E3.lg E3.f E3.e r3 E3.ds.length rc3 E3.c E3.u s3 E3.sk.length sc3 m3 E3.mv.length mc3) 48)).heap[w.heap.size+1]? =some (.cells (eW E2.id E2.ti E2.st E2.lg E2.f E2.e r2 E2.ds.length rc2 E2.c E2.u s2 E2.sk.length sc2 m2 E2.mv.length mc2) 48 (0,0)):=zH _ (zJ _ (World.size_alloc _ _))
 have K3:(((w.alloc (.cells (eW E1.id E1.ti E1.st E1.lg E1.f E1.e r1 E1.ds.length rc1 E1.c E1.u s1 E1.sk.length sc1 m1 E1.mv.length mc1) 48)).alloc (.cells (eW E2.id E2.ti E2.st E2.lg E2.f E2.e r2 E2.ds.length rc2 E2.c E2.u s2 E2.sk.length sc2 m2 E2.mv.length mc2) 48)).alloc (.cells (eW E3.id E3.ti E3.st E3.lg E3.f E3.e r3 E3.ds.length rc3 E3.c E3.u s3 E3.sk.length sc3 m3 E3.mv.length mc3) 48)).heap[w.heap.size+1+1]? =some (.cells (eW E3.id E3.ti E3.st E3.lg E3.f E3.e r3 E3.ds.length rc3 E3.c E3.u s3 E3.sk.length sc3 m3 E3.mv.length mc3) 48 (0,0)):=zJ _ (by rw [World.size_alloc,World.size_alloc])
 have e4:=zmb k hk
 have e5:=zmc k hk
 have HE4:Hid (k=4→zt k=zt 4):=fun q=>by rw [q]
 have HE5:Hid (k=5→zt k=zt 5):=fun q=>by rw [q]
 have OS:Hid (∀ W,Calls Tryz.prog 44 #[.string (bs (fT E1 k)),.string (bs (fT E2 k)),.string (bs (fT E3 k))] W fun r w'=>r= .returned (.tuple #[.string ((yD (bs (fT E1 k)) (bs (fT E2 k)) (bs (fT E3 k))).getD ⟨#[]⟩),.bool (yD (bs (fT E1 k)) (bs (fT E2 k)) (bs (fT E3 k))).isSome])∧Below W.heap.size W w'):=fun W=>(zbZ _ _ _ W).mono (by rintro r w' ⟨rfl,rfl⟩;exact ⟨rfl,Below.refl _ _⟩)
 have HJs:Hid (∀ t,yD (bs (fT E1 k)) (bs (fT E2 k)) (bs (fT E3 k))=some t→jF E1 E2 E3 k=(t,true)):=fun t q=>by unfold jF;rw [q]
 have HJ4:Hid (yD (bs (fT E1 k)) (bs (fT E2 k)) (bs (fT E3 k))=none→k=4→jF E1 E2 E3 k=(bs (Lib.join ((jSk E1.sk E2.sk E3.sk).map dtx) [44]),true)):=fun q e=>by unfold jF;rw [q];dsimp only;rw [if_pos e]
 have HJ5:Hid (yD (bs (fT E1 k)) (bs (fT E2 k)) (bs (fT E3 k))=none→k=5→jF E1 E2 E3 k=(bs (Lib.join (((jMv E1.mv E2.mv E3.mv).getD []).map mtx) [44]),(jMv E1.mv E2.mv E3.mv).isSome)):=fun q e=>by unfold jF;rw [q];dsimp only;rw [if_neg (by omega),if_pos e]
 have HJn:Hid (yD (bs (fT E1 k)) (bs (fT E2 k)) (bs (fT E3 k))=none→k≠4→k≠5→jF E1 E2 E3 k=(⟨#[]⟩,false)):=fun q e f=>by unfold jF;rw [q];dsimp only;rw [if_neg e,if_neg f]
 clear C1 C2 C3 hk
 generalize jF E1 E2 E3 k=J at HJs HJ4 HJ5 HJn ⊢
 generalize yD (bs (fT E1 k)) (bs (fT E2 k)) (bs (fT E3 k))=z at OS HJs HJ4 HJ5 HJn
 generalize bs (fT E1 k)=t1 at C1' OS
 generalize bs (fT E2 k)=t2 at C2' OS
 generalize bs (fT E3 k)=t3 at C3' OS
 generalize zt k=fb at C1' C2' C3' e4 e5 HE4 HE5 ⊢
 have HB:=hid hB
 have HK1:Hid (_):=K1
 have HK2:Hid (_):=K2
 have HK3:Hid (_):=K3
 clear hB K1 K2 K3
 obtain ⟨zb,hzb⟩: ∃ zb,zb=z.getD ⟨#[]⟩:=⟨_,rfl⟩
 obtain ⟨zs,hzs⟩: ∃ zs,zs=z.isSome:=⟨_,rfl⟩
 rw [←hzb,←hzs] at OS
 have HZB:=hid hzb
 have HZS:=hid hzs
 clear hzb hzs
 go_enter Tryz.func78,Tryz.ntmps78
 go_upto_region 1 with (fail)
 generalize ((w.alloc (.cells (eW E1.id E1.ti E1.st E1.lg E1.f E1.e r1 E1.ds.length rc1 E1.c E1.u s1 E1.sk.length sc1 m1 E1.mv.length mc1) 48)).alloc (.cells (eW E2.id E2.ti E2.st E2.lg E2.f E2.e r2 E2.ds.length rc2 E2.c E2.u s2 E2.sk.length sc2 m2 E2.mv.length mc2) 48)).alloc (.cells (eW E3.id E3.ti E3.st E3.lg E3.f E3.e r3 E3.ds.length rc3 E3.c E3.u s3 E3.sk.length sc3 m3 E3.mv.length mc3) 48)=w0 at HB HK1 HK2 HK3 ⊢
 generalize w.heap.size+1+1=B3 at HK3 ⊢
 generalize w.heap.size+1=B2 at HK2 ⊢
 obtain ⟨u1a,u1b,u1c,u1d,u1e,u1f,u1g,u1h,u1i,u1j,u1k⟩:=zK HK1.out
 have U1a:=cell_regrown u1a
 have U1b:=cell_regrown u1b
 have U1c:=cell_regrown u1c
 have U1d:=cell_regrown u1d
 have U1e:=cell_regrown u1e
 have U1f:=cell_regrown u1f
 have U1g:=cell_regrown u1g
 have U1h:=cell_regrown u1h
 have U1i:=cell_regrown u1i
 have U1j:=cell_regrown u1j
 have U1k:=cell_regrown u1k
 have D1:Hid (∀ d os,Calls Tryz.prog 76 #[.agg (eW E1.id E1.ti E1.st E1.lg E1.f E1.e r1 E1.ds.length rc1 E1.c E1.u s1 E1.sk.length sc1 m1 E1.mv.length mc1),.string fb] (grow (redrawn w0 d) os) fun r w''=>r= .returned (.string t1)∧ ∃ p:Regrown,w''=grow (redrawn w0 p.d) p.os):=fun d os=>Calls.regrown_of (C1'.out _ (zB HB.out (below_regrown _ _ _)))
 obtain ⟨u2a,u2b,u2c,u2d,u2e,u2f,u2g,u2h,u2i,u2j,u2k⟩:=zK HK2.out
 have U2a:=cell_regrown u2a
 have U2b:=cell_regrown u2b
 have U2c:=cell_regrown u2c
 have U2d:=cell_regrown u2d
 have U2e:=cell_regrown u2e
 have U2f:=cell_regrown u2f
 have U2g:=cell_regrown u2g
 have U2h:=cell_regrown u2h
 have U2i:=cell_regrown u2i
 have U2j:=cell_regrown u2j
 have U2k:=cell_regrown u2k
 have D2:Hid (∀ d os,Calls Tryz.prog 76 #[.agg (eW E2.id E2.ti E2.st E2.lg E2.f E2.e r2 E2.ds.length rc2 E2.c E2.u s2 E2.sk.length sc2 m2 E2.mv.length mc2),.string fb] (grow (redrawn w0 d) os) fun r w''=>r= .returned (.string t2)∧ ∃ p:Regrown,w''=grow (redrawn w0 p.d) p.os):=fun d os=>Calls.regrown_of (C2'.out _ (zB HB.out (below_regrown _ _ _)))
 obtain ⟨u3a,u3b,u3c,u3d,u3e,u3f,u3g,u3h,u3i,u3j,u3k⟩:=zK HK3.out
 have U3a:=cell_regrown u3a
 have U3b:=cell_regrown u3b
 have U3c:=cell_regrown u3c
 have U3d:=cell_regrown u3d
 have U3e:=cell_regrown u3e
 have U3f:=cell_regrown u3f
 have U3g:=cell_regrown u3g
 have U3h:=cell_regrown u3h
 have U3i:=cell_regrown u3i
 have U3j:=cell_regrown u3j
 have U3k:=cell_regrown u3k
 have D3:Hid (∀ d os,Calls Tryz.prog 76 #[.agg (eW E3.id E3.ti E3.st E3.lg E3.f E3.e r3 E3.ds.length rc3 E3.c E3.u s3 E3.sk.length sc3 m3 E3.mv.length mc3),.string fb] (grow (redrawn w0 d) os) fun r w''=>r= .returned (.string t3)∧ ∃ p:Regrown,w''=grow (redrawn w0 p.d) p.os):=fun d os=>Calls.regrown_of (C3'.out _ (zB HB.out (below_regrown _ _ _)))
 have DO:Hid (∀ d os,Calls Tryz.prog 44 #[.string t1,.string t2,.string t3] (grow (redrawn w0 d) os) fun r w''=>r= .returned (.tuple #[.string zb,.bool zs])∧ ∃ p:Regrown,w''=grow (redrawn w0 p.d) p.os):=fun d os=>Calls.regrown_of (OS.out _)
 refine wp_region_quiet_below (by kernel_rfl) (by kernel_rfl) ?_
 repeat (quiet_step (fail))
 quiet_step ((go_at_call 76;exact D1.out _ _))
 repeat (quiet_step (fail))
 quiet_step ((go_at_call 76;exact D2.out _ _))
 repeat (quiet_step (fail))
 quiet_step ((go_at_call 76;exact D3.out _ _))
 repeat (quiet_step (fail))
 quiet_step ((go_at_call 44;exact DO.out _ _))
 repeat (quiet_step (fail))
 refine wpQuiet_nil ?_
 intro w4 hw'
 have hb4:Below w0.heap.size w0 w4:=by
  obtain ⟨⟨dq,osq⟩,hw''⟩:=hw'
  subst hw''
  exact below_regrown _ _ _
 clear hw' D1 D2 D3 DO C1' C2' C3' OS
 clear u1a U1a u1b U1b u1c U1c u1d U1d u1e U1e u1f U1f u1g U1g u1h U1h u1i U1i u1j U1j u1k U1k
 clear u2a U2a u2b U2b u2c U2c u2d U2d u2e U2e u2f U2f u2g U2g u2h U2h u2i U2i u2j U2j u2k U2k
 clear u3a U3a u3b U3b u3c U3c u3d U3d u3e U3e u3f U3f u3g U3g u3h U3h u3i U3i u3j U3j u3k U3k
 have HB4:=hid (zB HB.out hb4)
 obtain ⟨_,_,_,_,_,_,_,_,_,v1j,v1k⟩:=zK ((hb4.block _ (Array.getElem?_eq_some_iff.1 HK1.out).1).trans HK1.out)
 obtain ⟨_,_,_,_,_,_,_,_,_,v2j,v2k⟩:=zK ((hb4.block _ (Array.getElem?_eq_some_iff.1 HK2.out).1).trans HK2.out)
 obtain ⟨_,_,_,_,_,_,_,_,_,v3j,v3k⟩:=zK ((hb4.block _ (Array.getElem?_eq_some_iff.1 HK3.out).1).trans HK3.out)
 clear hb4 HK1 HK2 HK3 HB
 cases z with
 |some t=>
  have ez:zb=t:=HZB.out
  have es:zs=true:=HZS.out
  subst ez es
  have HJ:Hid (J=(zb,true)):=HJs.out _ rfl
  clear JS JM SV MV HJs HJ4 HJ5 HJn HZB HZS e4 e5 HE4 HE5
  go_wp2
  go_ret2
  exact ⟨by rw [HJ.out];rfl,HB4.out⟩
 |none=>
  have ez:zb=⟨#[]⟩:=HZB.out
  have es:zs=false:=HZS.out
  subst ez es
  by_cases h4:k=4
  ·rw [decide_eq_true h4] at e4
   have HJ:=hid (HJ4.out rfl h4)
   have hfb:fb=zt 4:=HE4.out h4
   have JS4:=hid (JS.out w4 HB4.out)
   have HFB:=hid hfb
   clear JS JM MV HJs HJ4 HJ5 HJn HZB HZS e5 HE4 HE5 h4 hfb EK
   generalize jSk E1.sk E2.sk E3.sk=R at HJ JS4 SV
   go_upto_region 7 with (go_at_call 125;refine Calls.mono JS4.out ?_;rintro r w5 ⟨v',rfl,ho5,hb5⟩;obtain ⟨va,vc,rfl⟩:=zw ho5)
   have HB5:=hid (zB HB4.out hb5)
   have GG:Hid (Calls Tryz.prog 76 #[.agg #[.string ⟨#[]⟩,.string ⟨#[]⟩,.int .i64 0,.int .i64 0,.string ⟨#[]⟩,.int .i64 0,.slice none 0 0,.int .i64 0,.int .i64 0,.slice va R.length vc,.slice none 0 0],.string fb] w5 fun r w'=>r= .returned (.string (bs (Lib.join (R.map dtx) [44])))∧Below w5.heap.size w5 w'):=by
    rw [HFB.out]
    exact zdq ⟨⟨#[]⟩,⟨#[]⟩,0,0,⟨#[]⟩,0,[],0,0,[],[]⟩ none 0 0 va _ vc none 0 0 _ w5 (fun W hW=>jo R _ dtx W ((xh ho5 (by have:=SV.out.2;omega)).step hW) SV.out.2 (fun x _=>by have:=yP x;omega) (fun x hx W' hW'=>vR x W' (SV.out.1 x hx).1 (SV.out.1 x hx).2 ((GT.out.step (zB HB5.out (zB hW hW'))).tab)))
   clear ho5 hb5 JS4 v1j v1k v2j v2k v3j v3k e4 SV
   generalize R.length=nR at GG ⊢
   go_wp2_with (go_at_call 76;refine Calls.mono GG.out ?_;rintro r w6 ⟨rfl,hb6⟩)
   go_ret2
   exact ⟨by rw [HJ.out];rfl,zB HB5.out hb6⟩
  ·rw [decide_eq_false h4] at e4
   by_cases h5:k=5
   ·rw [decide_eq_true h5] at e5
    have HJ:=hid (HJ5.out rfl h5)
    have hfb:fb=zt 5:=HE5.out h5
    have JM4:=hid (JM.out w4 HB4.out)
    have HFB:=hid hfb
    clear JS JM SV HJs HJ4 HJ5 HJn HZB HZS HE4 HE5 h4 h5 hfb EK
    generalize (jMv E1.mv E2.mv E3.mv).isSome=bS at HJ JM4
    generalize (jMv E1.mv E2.mv E3.mv).getD []=R at HJ JM4 MV
    go_upto_region 10 with (go_at_call 126;refine Calls.mono JM4.out ?_;rintro r w5 ⟨v',rfl,ho5,hb5⟩;obtain ⟨va,vc,rfl⟩:=zo (zr ho5 (by have:=MV.out.2;omega)).2)
    have HB5:=hid (zB HB4.out hb5)
    have GG:Hid (Calls Tryz.prog 76 #[.agg #[.string ⟨#[]⟩,.string ⟨#[]⟩,.int .i64 0,.int .i64 0,.string ⟨#[]⟩,.int .i64 0,.slice none 0 0,.int .i64 0,.int .i64 0,.slice none 0 0,.slice va R.length vc],.string fb] w5 fun r w'=>r= .returned (.string (bs (Lib.join (R.map mtx) [44])))∧Below w5.heap.size w5 w'):=by
     rw [HFB.out]
     exact zdr ⟨⟨#[]⟩,⟨#[]⟩,0,0,⟨#[]⟩,0,[],0,0,[],[]⟩ none 0 0 none 0 0 va _ vc _ w5 (fun W hW=>jg R _ W ((zr ho5 (by have:=MV.out.2;omega)).1.step hW) MV.out.2 MV.out.1 ((GT.out.step (zB HB5.out hW)).tab))
    clear ho5 hb5 JM4 v1j v1k v2j v2k v3j v3k e4 e5 MV
    generalize R.length=nR at GG ⊢
    go_wp2_with (go_at_call 76;refine Calls.mono GG.out ?_;rintro r w6 ⟨rfl,hb6⟩)
    go_ret2
    exact ⟨by rw [HJ.out];rfl,zB HB5.out hb6⟩
   ·rw [decide_eq_false h5] at e5
    have HJ:=hid (HJn.out rfl h4 h5)
    clear JS JM SV MV HJs HJ4 HJ5 HJn HZB HZS HE4 HE5 h4 h5 EK
    go_wp2
    go_ret2
    exact ⟨by rw [HJ.out];rfl,HB4.out⟩
end Go.Proofs.YtpeafgddbbojaaaGreatDoor
