import Derived.Test.YtpeafgddbbojaaaGreatDoorJqAD
import Derived.Maps.OwnSet
import Derived.Maps.OwnOps
import Derived.Test.YtpeafgddbbojaaaGreatDoorJqAA
import Derived.Deep.RegionHeld3
import Derived.Carry
import Derived.Deep.DeepCutAuto
import Derived.Lib.SliceRun
import Derived.Shelf.Abstract
import Derived.Shelf.SlIter.Nil
import Derived.Shelf.SortM.Plain
import Derived.Shelf.SortM.SortNone
import Derived.Test.YtpeafgddbbojaaaGreatDoorProg
import Derived.TacticsInMore
import Derived.Test.YtpeafgddbbojaaaGreatDoorJqAB
import Derived.Deep.LoopGhost
import Derived.BigRegionIn
import Derived.OrdersIn
import Derived.Shelf.Sort.Plain
import Derived.Shelf.Slices.In.SortNone
import Derived.Shelf.Slices.CompactI
import Derived.Sort.OwnSortedInts
import Derived.Lib.SlicesCompact
import Derived.Maps.AppendAt
import Derived.Stop.Asserts
namespace Go.Proofs.YtpeafgddbbojaaaGreatDoor
open Go Go.RowKit Go.Maps Cal
attribute [local go_sem] Oper.semAt_some
theorem law:Keyed Tryz.prog 9:=string_keyed Tryz.underlying9
def hld(v:Value):Option (DataW Value×List MemPlace):=some (.held v,[])
theorem zcj{v:Value}{d:DataW Value}{ps:List MemPlace}(h:hld v=some (d,ps)):d= .held v:=by
 unfold hld at h
 cases h
 rfl
theorem zfM(w:World):(zeroValue 48).run Tryz.prog w= .ok zV w:=by unfold zV;kernel_rfl
def key(s:ByteArray):Lit:= .string s.data.toList
theorem zaD{s:ByteArray}(h:s.size≤1000):keyOf Tryz.prog 9 (.string s)=some (key s):=Go.WideMaps.keyOf_string_mk Tryz.underlying9 (by unfold maxLen;omega)
def Bok(W:World)(bb:Nat)(mo:Option Nat)(n:Nat)(D:DataW Value):Prop:=
 W.heap[bb]? =some (.cells #[.map mo] 77 (0,0))∧match mo with
  |none=>D= .map []
  |some mb=>mb≠bb∧W.ownsMap Tryz.prog 9 hld mb n D
theorem Bok.step{W W':World}{bb:Nat}{mo:Option Nat}{n:Nat}{D:DataW Value}(h:Bok W bb mo n D)(hb:Below W.heap.size W W'):Bok W' bb mo n D:=by
 obtain ⟨h1,h2⟩:=h
 refine ⟨(hb.block _ (Array.getElem?_eq_some_iff.1 h1).1).trans h1,?_⟩
 cases mo with
 |none=>exact h2
 |some mb=>exact ⟨h2.1,h2.2.kept (zO hb none) (by simp)⟩
theorem Bok.cell{W:World}{bb:Nat}{mo:Option Nat}{n:Nat}{D:DataW Value}(h:Bok W bb mo n D):W.cell? ⟨bb,0,none⟩=some (.map mo):=by simp [World.cell?,h.1]
theorem zck(bb:Nat)(mo:Option Nat)(n:Nat)(D:DataW Value)(w:World)(h:Bok w bb mo n D):
  Calls Tryz.prog 36 #[.pointer (some ⟨bb,0,none⟩)] w fun r w'=>r= .returned (.map mo)∧w'=w:=by
 have hc:=h.cell
 clear h
 go_enter Tryz.func36,Tryz.ntmps36
 go_wp2
 go_ret
 exact ⟨rfl,rfl⟩
theorem jh(w:World){ops:Array Oper}{rest:List Oper}{o:Oper}{a:Act}{Q:Exit→Act→World→Prop}(hg:o.guard=none)(m x:Operand)(hop:o.op=Op.lookup 75 m x true)
  (b n:Nat) (D:DataW Value) (hm:a.eval m= .map (some b)) (hown:w.ownsMap Tryz.prog 9 hld b n D) (k:Value) (kl:Lit) (hx:a.eval x=k) (hkey:keyOf Tryz.prog 9 k=some kl) (u:Value) (hat:D.atKey kl (.held zV)= .held u)
  (hK:wpList Tryz.prog ops Q rest (a.put o.dst (.tuple #[u,.bool (Maps.has D kl)])) w):wpList Tryz.prog ops Q (o::rest) a w:=
 wpList_lookup_own_ok w hg m x 75 hop 9 48 law Tryz.underlying75 hld (zfM w) (.held zV) [] rfl b n D hm hown k kl hx hkey (fun v ps hv=>by
  have h:=zcj hv
  rw [hat] at h
  cases h
  exact hK)
structure Kept(w w':World)(bb:Nat)(mo:Option Nat):Prop where
 os:w'.os=w.os
 tape:w'.tape=w.tape
 output:w'.output=w.output
 size:w.heap.size≤w'.heap.size
 block: ∀ k,k<w.heap.size→k≠bb→some k≠mo→w'.heap[k]? =w.heap[k]?
theorem Kept.below{w w':World}{bb:Nat}{mo:Option Nat}(h:Kept w w' bb mo){w0:World}(hb:Below w0.heap.size w0 w)(h1:w0.heap.size≤bb)(h2: ∀ m,mo=some m→w0.heap.size≤m):Below w0.heap.size w0 w':=
 ⟨h.os.trans hb.os,h.tape.trans hb.tape,h.output.trans hb.output,Nat.le_trans hb.size h.size,fun k hk=>(h.block k (Nat.lt_of_lt_of_le hk hb.size) (by omega) (fun q=>by have:=h2 k q.symm;omega)).trans (hb.block k hk)⟩
theorem OffI.mono{N N':Nat→Prop}{W:World}{v:Value}{xs:List Int}(h:OffI N W v xs)(q: ∀ b,N' b→N b):OffI N' W v xs:=by
 obtain ⟨a,c,h1,h2,h3,h4⟩:=h
 refine ⟨a,c,h1,h2,h3,fun j hj=> ?_⟩
 obtain ⟨b,e,hb,hl,hc⟩:=h4 j hj
 exact ⟨b,e,fun k=>hb (q b k),hl,hc⟩
theorem OffM.mono{N N':Nat→Prop}{W:World}{v:Value}{xs:List (Int×Int)}(h:OffM N W v xs)(q: ∀ b,N' b→N b):OffM N' W v xs:=by
 obtain ⟨a,c,h1,h2,h3,h4⟩:=h
 refine ⟨a,c,h1,h2,h3,fun j hj=> ?_⟩
 obtain ⟨b,e,hb,hl,hc⟩:=h4 j hj
 exact ⟨b,e,fun k=>hb (q b k),hl,hc⟩
theorem Off.mono{N N':Nat→Prop}{W:World}{E:EV}{sl skv mvv:Value}(h:Off N W E sl skv mvv)(q: ∀ b,N' b→N b):Off N' W E sl skv mvv:=⟨h.d.mono q,h.s.mono q,h.m.mono q⟩
theorem zke(w:World):Calls Tryz.prog 11 #[] w fun r w'=>r= .returned (.pointer (some ⟨w.heap.size,0,none⟩))∧Bok w' w.heap.size none 0 (.map [])∧Below w.heap.size w w':=by
 go_enter Tryz.func11,Tryz.ntmps11
 go_wp2
 go_ret
 exact ⟨rfl,⟨zJ _ rfl,rfl⟩,zC _ _⟩
set_option maxHeartbeats 2000000 in
set_option maxRecDepth 100000 in
theorem zgP(bb mb n:Nat)(D:DataW Value)(E:EV)(sl skv mvv:Value)(w:World)(h:Bok w bb (some mb) n D)(hn:n≤100000)(hi:E.id.size≤1000)(hL:Ls w E sl skv mvv)(k20:E.sk.length≤20)(m20:E.mv.length≤20):
  Calls Tryz.prog 33 #[.pointer (some ⟨bb,0,none⟩),ev E sl skv mvv] w fun r w'=>(∃ v,r= .returned v)∧ ∃ sl' skv' mvv',Bok w' bb (some mb) (n+1) (D.put (key E.id) (.held (ev E sl' skv' mvv')))∧Off (fun k=>k<w.heap.size∨k=mb) w' E sl' skv' mvv'∧Kept w w' bb (some mb):=by
 have HD20:Hid (E.ds.length≤20):=by obtain ⟨_,_,_,q,_⟩:=hL.d;exact q
 have hA:=zC w (.cells #[.string E.id,.string E.ti,.int .i64 E.st,.int .i64 E.lg,.string E.f,.int .i64 E.e,sl,.int .i64 E.c,.int .i64 E.u,skv,mvv] 48)
 have kE:=EB.new w E sl skv mvv
 have hL0:=hL.step hA
 have h0:=h.step hA
 obtain ⟨hd,hs,hm⟩:=hL
 obtain ⟨ra,rc,rfl,_⟩:=hd
 obtain ⟨sa,sc,rfl,_⟩:=hs
 obtain ⟨ma,mc,rfl,_⟩:=hm
 have hbb:bb<w.heap.size:=(Array.getElem?_eq_some_iff.1 h.1).1
 have hmb:mb<w.heap.size:=h.2.2.lt
 have HNE:=hid h.2.1
 have HA:Hid (_):=hA
 have HKY:=hid (zaD hi)
 have m8:E.mv.length≤80000:=by omega
 have hnm:n<maxLen:=by unfold maxLen;omega
 unfold ev
 generalize hw0:w.alloc (.cells (eW E.id E.ti E.st E.lg E.f E.e ra E.ds.length rc E.c E.u sa E.sk.length sc ma E.mv.length mc) 48)=w0 at HA kE hL0 h0
 have HB0:=hid h0
 have KE:=hid kE
 have CP:Hid (∀ W,Below w0.heap.size w0 W→Calls Tryz.prog 63 #[ev E (.slice ra E.ds.length rc) (.slice sa E.sk.length sc) (.slice ma E.mv.length mc)] W fun r w'=> ∃ sl' skv' mvv',r= .returned (ev E sl' skv' mvv')∧Ow W.heap.size w' sl' E.ds∧Ow W.heap.size w' skv' E.sk∧OwM W.heap.size w' mvv' E.mv∧Below W.heap.size W w'):=fun W hW=>je E _ _ _ W (hL0.step hW) k20 m20
 unfold ev at CP
 have hbe:w.heap.size<w0.heap.size:=by rw [←hw0,World.size_alloc];exact Nat.lt_succ_self _
 have cB:=h0.cell
 obtain ⟨x0,x1,x2,x3,x4,x5,x6,x7,x8,x9,x10⟩:=zK (show w0.heap[w.heap.size]? =_ from kE)
 have qn: ∀ (W:World),(binOp .eql 75 (.map (some mb)) (.map none)).run Tryz.prog W= .ok (.bool false) W:=fun W=>by kernel_rfl
 clear hA hL0 h0 h kE
 have KS:Hid (∀ (W:World) (be:Nat),W.heap[bb]? =some (.cells #[.map (some mb)] 77 (0,0))→W.heap[be]? =some (.cells (eW E.id E.ti E.st E.lg E.f E.e ra E.ds.length rc E.c E.u sa E.sk.length sc ma E.mv.length mc) 48 (0,0))→W.cell? ⟨bb,0,none⟩=some (.map (some mb))∧W.cell? ⟨be,0,none⟩=some (.string E.id)∧W.cell? ⟨be,1,none⟩=some (.string E.ti)∧W.cell? ⟨be,2,none⟩=some (.int .i64 E.st)∧W.cell? ⟨be,3,none⟩=some (.int .i64 E.lg)∧W.cell? ⟨be,4,none⟩=some (.string E.f)∧W.cell? ⟨be,5,none⟩=some (.int .i64 E.e)∧W.cell? ⟨be,6,none⟩=some (.slice ra E.ds.length rc)∧W.cell? ⟨be,7,none⟩=some (.int .i64 E.c)∧W.cell? ⟨be,8,none⟩=some (.int .i64 E.u)∧W.cell? ⟨be,9,none⟩=some (.slice sa E.sk.length sc)∧W.cell? ⟨be,10,none⟩=some (.slice ma E.mv.length mc)):=fun W be h1 h2=>by
  obtain ⟨x0,x1,x2,x3,x4,x5,x6,x7,x8,x9,x10⟩:=zK h2
  exact ⟨by simp [World.cell?,h1],x0,x1,x2,x3,x4,x5,x6,x7,x8,x9,x10⟩
 go_enter Tryz.func33,Tryz.ntmps33
 go_upto_region 3 with (fail)
 have hl1:bb<w0.heap.size:=Nat.lt_trans hbb hbe
 have hlk: ∀ k,k<w.heap.size→k<w0.heap.size:=fun k h=>Nat.lt_trans h hbe
 have hl2:mb<w0.heap.size:=Nat.lt_trans hmb hbe
 have hne2:w.heap.size≠mb:=Nat.ne_of_gt hmb
 go_region_held3 (fun W=>W.cell? ⟨bb,0,none⟩=some (.map (some mb))∧W.cell? ⟨w.heap.size,0,none⟩=some (.string E.id)∧W.cell? ⟨w.heap.size,1,none⟩=some (.string E.ti)∧W.cell? ⟨w.heap.size,2,none⟩=some (.int .i64 E.st)∧W.cell? ⟨w.heap.size,3,none⟩=some (.int .i64 E.lg)∧W.cell? ⟨w.heap.size,4,none⟩=some (.string E.f)∧W.cell? ⟨w.heap.size,5,none⟩=some (.int .i64 E.e)∧W.cell? ⟨w.heap.size,6,none⟩=some (.slice ra E.ds.length rc)∧W.cell? ⟨w.heap.size,7,none⟩=some (.int .i64 E.c)∧W.cell? ⟨w.heap.size,8,none⟩=some (.int .i64 E.u)∧W.cell? ⟨w.heap.size,9,none⟩=some (.slice sa E.sk.length sc)∧W.cell? ⟨w.heap.size,10,none⟩=some (.slice ma E.mv.length mc)) ((first|exact KS.out _ _ hB6 hE6|exact KS.out _ _ hB5 hE5|exact KS.out _ _ HB0.out.1 KE.out))
  (first
   |(go_at_call 63;refine Calls.mono (CP.out _ ?_) ?_;(with_reducible exact zI _);rintro r w5 ⟨sl2,sk2,mv2,rfl,ho1,ho2,ho3,hb5⟩;obtain ⟨r2,rc2,rfl⟩:=zw ho1;obtain ⟨s2,sc2,rfl⟩:=zw ho2;obtain ⟨m2,mc2,rfl⟩:=zo (zr ho3 m8).2;have hB5:w5.heap[bb]? =some (.cells #[.map (some mb)] 77 (0,0)):=(hb5.block _ hl1).trans HB0.out.1;have hE5:w5.heap[w.heap.size]? =some (.cells (eW E.id E.ti E.st E.lg E.f E.e ra E.ds.length rc E.c E.u sa E.sk.length sc ma E.mv.length mc) 48 (0,0)):=(hb5.block _ hbe).trans KE.out;obtain ⟨w6,hrun,hown6,hturn6⟩:=World.ownsMap.store (HB0.out.2.2.kept (zO (zB (zI _) hb5) none) (Option.some_ne_none mb)) law Tryz.underlying75 hnm HKY.out (rfl:hld (.agg (eW E.id E.ti E.st E.lg E.f E.e r2 E.ds.length rc2 E.c E.u s2 E.sk.length sc2 m2 E.mv.length mc2))=some (.held (.agg (eW E.id E.ti E.st E.lg E.f E.e r2 E.ds.length rc2 E.c E.u s2 E.sk.length sc2 m2 E.mv.length mc2)),[]));have hB6:=(hturn6.grown.block bb (Array.getElem?_eq_some_iff.1 hB5).1 (fun q=>HNE.out (Option.some.inj q).symm)).trans hB5;have hE6:=(hturn6.grown.block w.heap.size (Array.getElem?_eq_some_iff.1 hE5).1 (fun q=>hne2 (Option.some.inj q))).trans hE5))
 have BW5:Below w0.heap.size w0 w5:=zB (zI _) hb5
 have HO6:=hid hown6
 have HT6:=hid hturn6
 have HB6:Hid (_):=hB6
 have OF6:Hid (Off (fun k=>k<w.heap.size∨k=mb) w6 E (.slice r2 E.ds.length rc2) (.slice s2 E.sk.length sc2) (.slice m2 E.mv.length mc2)):=⟨(zaC ho1 (fun k h=>by rcases h with h|h;(exact hlk k h);(rw [h];exact hl2)) (by have:=HD20.out;omega)).grown (B:=mb) (.inr rfl) hturn6.grown,(zaC ho2 (fun k h=>by rcases h with h|h;(exact hlk k h);(rw [h];exact hl2)) (by omega)).grown (B:=mb) (.inr rfl) hturn6.grown,(zch ho3 (fun k h=>by rcases h with h|h;(exact hlk k h);(rw [h];exact hl2)) (by omega)).grown (B:=mb) (.inr rfl) hturn6.grown⟩
 have KP:Hid (Kept w w6 bb (some mb)):=⟨hturn6.grown.os.trans (BW5.os.trans HA.out.os),hturn6.grown.tape.trans (BW5.tape.trans HA.out.tape),hturn6.grown.output.trans (BW5.output.trans HA.out.output),Nat.le_trans HA.out.size (Nat.le_trans BW5.size hturn6.grown.size),fun k hk h1 h2=>(hturn6.grown.block k (Nat.lt_of_lt_of_le hk (Nat.le_trans HA.out.size BW5.size)) h2).trans ((BW5.block k (Nat.lt_of_lt_of_le hk HA.out.size)).trans (HA.out.block k hk))⟩
 clear hown6 hturn6 hB6 hrun ho1 ho2 ho3 hb5 hB5 hE5 hE6 BW5
 go_wp2
 refine bodyPost_end (v:= .tuple #[]) (results_none rfl _ _ _) rfl ⟨⟨_,rfl⟩,_,_,_,⟨HB6.out,HNE.out,HO6.out⟩,OF6.out,KP.out⟩
theorem zde{W:World}{v:Value}{xs:List Int}{bb:Nat}{mo:Option Nat}(h:Ints W v xs)(h30:xs.length≤60)(hb:W.heap[bb]? =some (.cells #[.map mo] 77 (0,0))):OffI (· =bb) W v xs:=by
 obtain ⟨a,c,h1,h2,h3,h4⟩:=h
 refine ⟨a,c,h1,h30,h3,fun j hj=> ?_⟩
 obtain ⟨b,e,hl,hc⟩:=h4 j hj
 refine ⟨b,e,fun q=> ?_,hl,hc⟩
 obtain ⟨b',e',_,hc'⟩:=h4 0 (by omega)
 have eb:b'=b:=by rw [e] at e';cases e';rfl
 have q':b=bb:=q
 rw [eb,q'] at hc'
 simp [World.cell?,hb] at hc'
theorem zgQ{W:World}{v:Value}{xs:List (Int×Int)}{bb:Nat}{mo:Option Nat}(h:Movs W v xs)(h30:xs.length≤60)(hb:W.heap[bb]? =some (.cells #[.map mo] 77 (0,0))):OffM (· =bb) W v xs:=by
 obtain ⟨a,c,h1,h2,h3,h4⟩:=h
 refine ⟨a,c,h1,h30,h3,fun j hj=> ?_⟩
 obtain ⟨b,e,hl,hc⟩:=h4 j hj
 refine ⟨b,e,fun q=> ?_,hl,hc⟩
 obtain ⟨b',e',_,hc',_⟩:=h4 0 (by omega)
 have eb:b'=b:=by rw [e] at e';cases e';rfl
 have q':b=bb:=q
 rw [eb,q'] at hc'
 simp [World.cell?,hb] at hc'
set_option maxHeartbeats 2000000 in
set_option maxRecDepth 100000 in
theorem zgR(bb:Nat)(E:EV)(sl skv mvv:Value)(n0:Nat)(w:World)(h:Bok w bb none n0 (.map []))(hi:E.id.size≤1000)(hL:Ls w E sl skv mvv)(k20:E.sk.length≤20)(m20:E.mv.length≤20):
  Calls Tryz.prog 33 #[.pointer (some ⟨bb,0,none⟩),ev E sl skv mvv] w fun r w'=>(∃ v,r= .returned v)∧ ∃ mb,w.heap.size<mb∧ ∃ sl' skv' mvv',Bok w' bb (some mb) 1 (DataW.put (.map []) (key E.id) (.held (ev E sl' skv' mvv')))∧Off (fun k=>k<w.heap.size∨k=mb) w' E sl' skv' mvv'∧Kept w w' bb none:=by
 have HD20:Hid (E.ds.length≤20):=by obtain ⟨_,_,_,q,_⟩:=hL.d;exact q
 have hA:=zC w (.cells #[.string E.id,.string E.ti,.int .i64 E.st,.int .i64 E.lg,.string E.f,.int .i64 E.e,sl,.int .i64 E.c,.int .i64 E.u,skv,mvv] 48)
 have kE:=EB.new w E sl skv mvv
 have OFL:Off (· =bb) w E sl skv mvv:=⟨zde (zgL hL.d) (by have:=HD20.out;omega) h.1,zde hL.s (by omega) h.1,zgQ hL.m (by omega) h.1⟩
 have h0:=h.step hA
 obtain ⟨hd,hs,hm⟩:=hL
 obtain ⟨ra,rc,rfl,_⟩:=hd
 obtain ⟨sa,sc,rfl,_⟩:=hs
 obtain ⟨ma,mc,rfl,_⟩:=hm
 have hbb:bb<w.heap.size:=(Array.getElem?_eq_some_iff.1 h.1).1
 have HKY:=hid (zaD hi)
 have m8:E.mv.length≤80000:=by omega
 have hnm:0<maxLen:=by unfold maxLen;omega
 unfold ev
 generalize hw0:w.alloc (.cells (eW E.id E.ti E.st E.lg E.f E.e ra E.ds.length rc E.c E.u sa E.sk.length sc ma E.mv.length mc) 48)=w0 at hA kE h0
 have hbe:w0.heap.size=w.heap.size+1:=by rw [←hw0,World.size_alloc]
 obtain ⟨mb,hmbe⟩: ∃ m,m=w0.heap.size:=⟨_,rfl⟩
 have hbb0:(w0.alloc (.map #[] 0)).heap[bb]? =some (.cells #[.map none] 77 (0,0)):=zH _ h0.1
 have g2:(w0.alloc (.map #[] 0)).grownBy ((w0.alloc (.map #[] 0)).setCell ⟨bb,0,none⟩ (.map (some mb))) (some bb):=zG _ ⟨bb,0,none⟩ _
 have hs2:((w0.alloc (.map #[] 0)).setCell ⟨bb,0,none⟩ (.map (some mb))).heap.size=w.heap.size+2:=by rw [vt,World.size_alloc,hbe]
 have HB2:Hid (Bok ((w0.alloc (.map #[] 0)).setCell ⟨bb,0,none⟩ (.map (some mb))) bb (some mb) 0 (.map [])):=⟨zM (i:=0) _ hbb0,by omega,by rw [hmbe];exact World.ownsMap.setCell (World.ownsMap_made w0 Tryz.prog 9 hld) (by show w0.heap.size≠bb;omega) _⟩
 have KE2:Hid (EB ((w0.alloc (.map #[] 0)).setCell ⟨bb,0,none⟩ (.map (some mb))) w.heap.size E (.slice ra E.ds.length rc) (.slice sa E.sk.length sc) (.slice ma E.mv.length mc)):=(Below.heap_setCell _ _ _ _ (fun q=>by have q':w.heap.size=bb:=q;omega)).trans (zH _ kE)
 have KW:Hid (Kept w ((w0.alloc (.map #[] 0)).setCell ⟨bb,0,none⟩ (.map (some mb))) bb none):=by
  have hB:=zB hA (zC w0 (.map #[] 0))
  exact ⟨g2.os.trans hB.os,g2.tape.trans hB.tape,g2.output.trans hB.output,by omega,fun k hk h1 _=>(g2.block k (Nat.lt_of_lt_of_le hk hB.size) (fun q=>h1 (Option.some.inj q))).trans (hB.block k hk)⟩
 have OF2:Off (· =bb) ((w0.alloc (.map #[] 0)).setCell ⟨bb,0,none⟩ (.map (some mb))) E (.slice ra E.ds.length rc) (.slice sa E.sk.length sc) (.slice ma E.mv.length mc):=(OFL.grown rfl (zO (zB hA (zC w0 (.map #[] 0))) _)).grown rfl g2
 have hL2:Ls ((w0.alloc (.map #[] 0)).setCell ⟨bb,0,none⟩ (.map (some mb))) E (.slice ra E.ds.length rc) (.slice sa E.sk.length sc) (.slice ma E.mv.length mc):=⟨xk OF2.d.ints HD20.out,OF2.s.ints,OF2.m.movs⟩
 have cB:=h0.cell
 have cB':(w0.alloc (.map #[] 0)).cell? ⟨bb,0,none⟩=some (.map none):=by simp [World.cell?,hbb0]
 have fB':(w0.alloc (.map #[] 0)).frozen? ⟨bb,0,none⟩=false:=zF hbb0 0
 have hmm:= @run_makeMap Tryz.prog
 have qn: ∀ (W:World),(binOp .eql 75 (.map none) (.map none)).run Tryz.prog W= .ok (.bool true) W:=fun W=>by kernel_rfl
 clear hA h0 h kE OFL OF2 g2 hbb0
 have KS:Hid (∀ (W:World) (be:Nat),W.heap[bb]? =some (.cells #[.map (some mb)] 77 (0,0))→W.heap[be]? =some (.cells (eW E.id E.ti E.st E.lg E.f E.e ra E.ds.length rc E.c E.u sa E.sk.length sc ma E.mv.length mc) 48 (0,0))→W.cell? ⟨bb,0,none⟩=some (.map (some mb))∧W.cell? ⟨be,0,none⟩=some (.string E.id)∧W.cell? ⟨be,1,none⟩=some (.string E.ti)∧W.cell? ⟨be,2,none⟩=some (.int .i64 E.st)∧W.cell? ⟨be,3,none⟩=some (.int .i64 E.lg)∧W.cell? ⟨be,4,none⟩=some (.string E.f)∧W.cell? ⟨be,5,none⟩=some (.int .i64 E.e)∧W.cell? ⟨be,6,none⟩=some (.slice ra E.ds.length rc)∧W.cell? ⟨be,7,none⟩=some (.int .i64 E.c)∧W.cell? ⟨be,8,none⟩=some (.int .i64 E.u)∧W.cell? ⟨be,9,none⟩=some (.slice sa E.sk.length sc)∧W.cell? ⟨be,10,none⟩=some (.slice ma E.mv.length mc)):=fun W be h1 h2=>by
  obtain ⟨x0,x1,x2,x3,x4,x5,x6,x7,x8,x9,x10⟩:=zK h2
  exact ⟨by simp [World.cell?,h1],x0,x1,x2,x3,x4,x5,x6,x7,x8,x9,x10⟩
 have hmb':w.heap.size<mb:=by omega
 have HMB:=hid hmbe
 have HS2:Hid (_):=hs2
 clear hmbe hbe hs2
 go_enter Tryz.func33,Tryz.ntmps33
 go_upto_region 3 with (fail)
 rw [←HMB.out]
 generalize hw2:(w0.alloc (.map #[] 0)).setCell ⟨bb,0,none⟩ (.map (some mb))=w2 at HB2 KE2 KW hL2 HS2 ⊢
 have hs2:=HS2.out
 have CP:Hid (∀ W,Below w2.heap.size w2 W→Calls Tryz.prog 63 #[ev E (.slice ra E.ds.length rc) (.slice sa E.sk.length sc) (.slice ma E.mv.length mc)] W fun r w'=> ∃ sl' skv' mvv',r= .returned (ev E sl' skv' mvv')∧Ow W.heap.size w' sl' E.ds∧Ow W.heap.size w' skv' E.sk∧OwM W.heap.size w' mvv' E.mv∧Below W.heap.size W w'):=fun W hW=>je E _ _ _ W (hL2.step hW) k20 m20
 unfold ev at CP
 have HNE:=hid HB2.out.2.1
 have hl1':bb<w2.heap.size:=by omega
 have hl2':mb<w2.heap.size:=HB2.out.2.2.lt
 have hbe':w.heap.size<w2.heap.size:=by omega
 have cB2:=HB2.out.cell
 obtain ⟨x0,x1,x2,x3,x4,x5,x6,x7,x8,x9,x10⟩:=zK (show w2.heap[w.heap.size]? =_ from KE2.out)
 clear cB cB' fB' hw2 hL2 hs2 HS2 hw0 HMB
 have hl1:bb<w2.heap.size:=hl1'
 have hlk: ∀ k,k<w.heap.size→k<w2.heap.size:=fun k h=>Nat.lt_of_lt_of_le h KW.out.size
 have hl2:mb<w2.heap.size:=hl2'
 have hne2:w.heap.size≠mb:=Nat.ne_of_lt hmb'
 go_region_held3 (fun W=>W.cell? ⟨bb,0,none⟩=some (.map (some mb))∧W.cell? ⟨w.heap.size,0,none⟩=some (.string E.id)∧W.cell? ⟨w.heap.size,1,none⟩=some (.string E.ti)∧W.cell? ⟨w.heap.size,2,none⟩=some (.int .i64 E.st)∧W.cell? ⟨w.heap.size,3,none⟩=some (.int .i64 E.lg)∧W.cell? ⟨w.heap.size,4,none⟩=some (.string E.f)∧W.cell? ⟨w.heap.size,5,none⟩=some (.int .i64 E.e)∧W.cell? ⟨w.heap.size,6,none⟩=some (.slice ra E.ds.length rc)∧W.cell? ⟨w.heap.size,7,none⟩=some (.int .i64 E.c)∧W.cell? ⟨w.heap.size,8,none⟩=some (.int .i64 E.u)∧W.cell? ⟨w.heap.size,9,none⟩=some (.slice sa E.sk.length sc)∧W.cell? ⟨w.heap.size,10,none⟩=some (.slice ma E.mv.length mc)) ((first|exact KS.out _ _ hB6 hE6|exact KS.out _ _ hB5 hE5|exact KS.out _ _ HB2.out.1 KE2.out))
  (first
   |(go_at_call 63;refine Calls.mono (CP.out _ ?_) ?_;(with_reducible exact zI _);rintro r w5 ⟨sl2,sk2,mv2,rfl,ho1,ho2,ho3,hb5⟩;obtain ⟨r2,rc2,rfl⟩:=zw ho1;obtain ⟨s2,sc2,rfl⟩:=zw ho2;obtain ⟨m2,mc2,rfl⟩:=zo (zr ho3 m8).2;have hB5:w5.heap[bb]? =some (.cells #[.map (some mb)] 77 (0,0)):=(hb5.block _ hl1).trans HB2.out.1;have hE5:w5.heap[w.heap.size]? =some (.cells (eW E.id E.ti E.st E.lg E.f E.e ra E.ds.length rc E.c E.u sa E.sk.length sc ma E.mv.length mc) 48 (0,0)):=(hb5.block _ hbe').trans KE2.out;obtain ⟨w6,hrun,hown6,hturn6⟩:=World.ownsMap.store (HB2.out.2.2.kept (zO (zB (zI _) hb5) none) (Option.some_ne_none mb)) law Tryz.underlying75 hnm HKY.out (rfl:hld (.agg (eW E.id E.ti E.st E.lg E.f E.e r2 E.ds.length rc2 E.c E.u s2 E.sk.length sc2 m2 E.mv.length mc2))=some (.held (.agg (eW E.id E.ti E.st E.lg E.f E.e r2 E.ds.length rc2 E.c E.u s2 E.sk.length sc2 m2 E.mv.length mc2)),[]));have hB6:=(hturn6.grown.block bb (Array.getElem?_eq_some_iff.1 hB5).1 (fun q=>HNE.out (Option.some.inj q).symm)).trans hB5;have hE6:=(hturn6.grown.block w.heap.size (Array.getElem?_eq_some_iff.1 hE5).1 (fun q=>hne2 (Option.some.inj q))).trans hE5))
 have BW5:Below w2.heap.size w2 w5:=zB (zI _) hb5
 have HO6:=hid hown6
 have HT6:=hid hturn6
 have HB6:Hid (_):=hB6
 have OF6:Hid (Off (fun k=>k<w.heap.size∨k=mb) w6 E (.slice r2 E.ds.length rc2) (.slice s2 E.sk.length sc2) (.slice m2 E.mv.length mc2)):=⟨(zaC ho1 (fun k h=>by rcases h with h|h;(exact hlk k h);(rw [h];exact hl2)) (by have:=HD20.out;omega)).grown (B:=mb) (.inr rfl) hturn6.grown,(zaC ho2 (fun k h=>by rcases h with h|h;(exact hlk k h);(rw [h];exact hl2)) (by omega)).grown (B:=mb) (.inr rfl) hturn6.grown,(zch ho3 (fun k h=>by rcases h with h|h;(exact hlk k h);(rw [h];exact hl2)) (by omega)).grown (B:=mb) (.inr rfl) hturn6.grown⟩
 have KP:Hid (Kept w w6 bb none):=⟨hturn6.grown.os.trans (BW5.os.trans KW.out.os),hturn6.grown.tape.trans (BW5.tape.trans KW.out.tape),hturn6.grown.output.trans (BW5.output.trans KW.out.output),Nat.le_trans KW.out.size (Nat.le_trans BW5.size hturn6.grown.size),fun k hk h1 h2=>(hturn6.grown.block k (Nat.lt_of_lt_of_le hk (Nat.le_trans KW.out.size BW5.size)) (fun q=>by have:=Option.some.inj q;omega)).trans ((BW5.block k (Nat.lt_of_lt_of_le hk KW.out.size)).trans (KW.out.block k hk h1 h2))⟩
 clear hown6 hturn6 hB6 hrun ho1 ho2 ho3 hb5 hB5 hE5 hE6 BW5
 go_wp2
 refine bodyPost_end (v:= .tuple #[]) (results_none rfl _ _ _) rfl ⟨⟨_,rfl⟩,mb,hmb',_,_,_,⟨HB6.out,HNE.out,HO6.out⟩,OF6.out,KP.out⟩
theorem zgS{bb n:Nat}{mo:Option Nat}{D:DataW Value}{W:World}(h:Bok W bb mo n D){id:ByteArray}(hid:id.size≤1000){u:Value}(hat:D.atKey (key id) (.held zV)= .held u):
  (Instr.lookup 75 (.map mo) (.string id) true).run Tryz.prog W= .ok (.tuple #[u,.bool (Maps.has D (key id))]) W:=by
 cases mo with
 |none=>
  have hD:D= .map []:=h.2
  subst hD
  have hu:zV=u:=by
   have:(DataW.held zV:DataW Value)= .held u:=hat
   cases this;rfl
  rw [←hu]
  exact Maps.look_nil true law Tryz.underlying75 (zfM W) (zaD hid)
 |some mb=>
  obtain ⟨v,ps,hrun,hv⟩:=h.2.2.look_ok law Tryz.underlying75 (zfM W) (zd:= .held zV) (zp:=[]) rfl (zaD hid)
  have h1:=zcj hv
  rw [hat] at h1
  cases h1
  exact hrun
theorem zlA{bb n:Nat}{mo:Option Nat}{D:DataW Value}{W:World}(h:Bok W bb mo n D)(ty:TypeId):(Builtin.len_ #[75] ty #[.map mo]).run Tryz.prog W= .ok (.int .i64 (Maps.size D)) W:=by
 cases mo with
 |none=>
  have hD:D= .map []:=h.2
  subst hD
  exact Maps.len_nil Tryz.underlying75 ty
 |some mb=>exact h.2.2.len Tryz.underlying75 ty
set_option maxHeartbeats 2000000 in
set_option maxRecDepth 100000 in
theorem zlB(bb n:Nat)(mo:Option Nat)(D:DataW Value)(E U:EV)(sl skv mvv:Value)(ua:Option Addr)(un uc:Nat)(va:Option Addr)(vn vc:Nat)(wa:Option Addr)(wn wd:Nat)(k:Int)(s:Nat→Addr)(w:World)(g:GlobK s w)(h:Bok w bb mo n D)(hn:n≤100000)(hi:E.id.size≤60)(ht:E.ti.size≤60)(hL:Ls w E sl skv mvv)(hk:EvK E k)
  (hat:D.atKey (key E.id) (.held zV)= .held (ev U (.slice ua un uc) (.slice va vn vc) (.slice wa wn wd))) (R:World→Prop)
  (hkeep:k=0→ ∀ W,Below w.heap.size w W→Calls Tryz.prog 33 #[.pointer (some ⟨bb,0,none⟩),ev E sl skv mvv] W fun r w'=>(∃ v,r= .returned v)∧R w'):
  Calls Tryz.prog 12 #[.pointer (some ⟨bb,0,none⟩),ev E sl skv mvv] w fun r w'=>
   (k≠0∧r= .returned (jY s k)∧Below w.heap.size w w')∨(k=0∧(Maps.has D (key E.id)=false∧60≤Maps.size D)∧r= .returned (.iface 269 (.pointer (some (s 6))))∧Below w.heap.size w w')∨(k=0∧ ¬ (Maps.has D (key E.id)=false∧60≤Maps.size D)∧r= .returned .nilIface∧R w'):=by
 have hA:=zC w (.cells #[.string E.id,.string E.ti,.int .i64 E.st,.int .i64 E.lg,.string E.f,.int .i64 E.e,sl,.int .i64 E.c,.int .i64 E.u,skv,mvv] 48)
 have kE:=EB.new w E sl skv mvv
 have CK:=vW E sl skv mvv k s _ (g.step hA) (hL.step hA).d (hL.step hA).s (hL.step hA).m hi ht hk
 have h0:=h.step hA
 have g0:=g.step hA
 have HKP:=hid hkeep
 obtain ⟨ra,rc,rfl,_⟩:=hL.d
 obtain ⟨sa,sc,rfl,_⟩:=hL.s
 obtain ⟨ma,mc,rfl,_⟩:=hL.m
 unfold ev at CK HKP hat
 have HAT:=hid hat
 have HCK:=hid CK
 have HA:Hid (_):=hA
 have HB0:=hid h0
 have HG0:=hid g0
 have KE:=hid kE
 have hi2:E.id.size≤1000:=by omega
 have hsz:Maps.size D≤100000:=by
  cases mo with
  |none=>have hD:D= .map []:=h.2;subst hD;simp [Maps.size]
  |some mb=>have:=h.2.2.size_le;omega
 clear CK hA h0 g0 kE hat hkeep hL g h
 unfold ev
 generalize hw0:w.alloc (.cells (eW E.id E.ti E.st E.lg E.f E.e ra E.ds.length rc E.c E.u sa E.sk.length sc ma E.mv.length mc) 48)=w0 at HCK HA HB0 HG0 KE
 obtain ⟨x0,x1,x2,x3,x4,x5,x6,x7,x8,x9,x10⟩:=zK (show w0.heap[w.heap.size]? =_ from KE.out)
 by_cases hk0:k=0
 case neg=>
  obtain ⟨p,hp⟩:=zbb (s:=s) hk0
  rw [hp] at HCK
  have HP:=hid hp
  have HK0:=hid hk0
  clear hp hk0
  go_enter Tryz.func12,Tryz.ntmps12
  go_wp2_with (go_at_call 32;refine Calls.mono HCK.out ?_;rintro r w1 ⟨rfl,hb1⟩)
  go_ret
  exact .inl ⟨HK0.out,by rw [HP.out];rfl,zB HA.out hb1⟩
 case pos=>
  rw [hk0,zdt] at HCK
  have HK0:=hid hk0
  clear hk0 hk
  go_enter Tryz.func12,Tryz.ntmps12
  go_upto_region 6 with (go_at_call 32;refine Calls.mono HCK.out ?_;rintro r w1 ⟨rfl,hb1⟩)
  have BW1:=hid (zB HA.out hb1)
  have HB1:=hid (HB0.out.step hb1)
  have HG1:=hid (HG0.out.step hb1)
  have KE1:=hid (KE.out.step hb1)
  clear hb1 HB0 HG0 KE HA HCK x0 x1 x2 x3 x4 x5 x6 x7 x8 x9 x10 hw0
  obtain ⟨x0,x1,x2,x3,x4,x5,x6,x7,x8,x9,x10⟩:=zK (show w1.heap[w.heap.size]? =_ from KE1.out)
  have cB:=HB1.out.cell
  have KS:Hid (∀ W,Below w1.heap.size w1 W→Below w1.heap.size w1 W∧W.cell? ⟨bb,0,none⟩=some (.map mo)∧W.cell? ⟨w.heap.size,0,none⟩=some (.string E.id)∧(Instr.lookup 75 (.map mo) (.string E.id) true).run Tryz.prog W= .ok (.tuple #[.agg (eW U.id U.ti U.st U.lg U.f U.e ua un uc U.c U.u va vn vc wa wn wd),.bool (Maps.has D (key E.id))]) W):=fun W hW=>⟨hW,zD cB hW,zD x0 hW,zgS (HB1.out.step hW) hi2 HAT.out⟩
  generalize hbh:Maps.has D (key E.id)=bh at KS
  have HBH:=hid hbh
  clear hbh
  go_cut [6,7] (fun v6 v7 wx=>v7= .bool bh∧(∃ b:Nat,v6= .pointer (some ⟨b,0,none⟩))∧Hid (Below w1.heap.size w1 wx))
  case first=>
   go_region_held3 (fun W=>Below w1.heap.size w1 W∧W.cell? ⟨bb,0,none⟩=some (.map mo)∧W.cell? ⟨w.heap.size,0,none⟩=some (.string E.id)∧(Instr.lookup 75 (.map mo) (.string E.id) true).run Tryz.prog W= .ok (.tuple #[.agg (eW U.id U.ti U.st U.lg U.f U.e ua un uc U.c U.u va vn vc wa wn wd),.bool bh]) W) ((refine KS.out _ ?_;(first|with_reducible assumption|with_reducible exact zI _|with_reducible exact zB (zC _ _) (zI _)|with_reducible exact zB (zI _) (zC _ _)))) (fail)
   all_goals
    go_wp2_with fail
    go_meet
    case rel=>first|exact ⟨rfl,⟨_,rfl⟩,zB (zC _ _) (zI _)⟩|exact ⟨rfl,⟨_,rfl⟩,zB (zI _) (zC _ _)⟩
  case rest=>
   obtain ⟨rfl,⟨b6,rfl⟩,HBc⟩:=hcut
   have LN: ∀ ty,(Builtin.len_ #[75] ty #[.map mo]).run Tryz.prog wc= .ok (.int .i64 (Maps.size D)) wc:=fun ty=>zlA (HB1.out.step HBc.out) ty
   have BWc:=hid (zB BW1.out HBc.out)
   have cF:=(HG1.out.step HBc.out).c6
   have KEc:=KE1.out.step HBc.out
   have cBc:=(HB1.out.step HBc.out).cell
   have HKc:=hid (HKP.out HK0.out wc BWc.out)
   clear KS cB x0 x1 x2 x3 x4 x5 x6 x7 x8 x9 x10 HB1 HG1 KE1 BW1 HBc HAT HKP
   obtain ⟨x0,x1,x2,x3,x4,x5,x6,x7,x8,x9,x10⟩:=zK (show wc.heap[w.heap.size]? =_ from KEc)
   clear KEc
   cases bh with
   |true=>
    have HNF:Hid (¬ (Maps.has D (key E.id)=false∧60≤Maps.size D)):=by
     intro q
     have:=HBH.out.symm.trans q.1
     cases this
    go_wp2_with (go_at_call 33;refine Calls.mono HKc.out ?_;rintro r w5 ⟨⟨v,rfl⟩,hr⟩)
    go_ret
    exact .inr (.inr ⟨HK0.out,HNF.out,rfl,hr⟩)
   |false=>
    by_cases h60:60≤Maps.size D
    ·have h60':(60:Int)≤(Maps.size D:Int):=by omega
     have H60:=hid h60
     clear h60 HKc
     generalize hgs:Maps.size D=sz at LN h60'
     clear hgs
     go_wp2
     go_ret
     exact .inr (.inl ⟨HK0.out,⟨HBH.out,H60.out⟩,rfl,BWc.out⟩)
    ·have h60':(Maps.size D:Int)<60:=by omega
     have HNF:Hid (¬ (Maps.has D (key E.id)=false∧60≤Maps.size D)):=by
      intro q
      exact h60 q.2
     clear h60
     generalize hgs:Maps.size D=sz at LN h60'
     clear hgs
     go_wp2_with (go_at_call 33;refine Calls.mono HKc.out ?_;rintro r w5 ⟨⟨v,rfl⟩,hr⟩)
     go_ret
     exact .inr (.inr ⟨HK0.out,HNF.out,rfl,hr⟩)
structure RowS(W:World)(B cap:Nat)(l:List ByteArray):Prop where
 ex: ∃ cur,W.heap[B]? =some (.cells cur 9 (0,0))∧cur.size=cap∧ ∀ (j:Nat) (h:j<l.length),cur[j]? =some (.string l[j])
 le:l.length≤cap
theorem RowS.lt{W:World}{B cap:Nat}{l:List ByteArray}(h:RowS W B cap l):B<W.heap.size:=by
 obtain ⟨cur,h1,_⟩:=h.ex
 exact (Array.getElem?_eq_some_iff.1 h1).1
theorem RowS.cell{W:World}{B cap:Nat}{l:List ByteArray}(h:RowS W B cap l)(j:Nat)(hj:j<l.length):W.cell? ⟨B,j,none⟩=some (.string l[j]):=by
 obtain ⟨cur,h1,_,h3⟩:=h.ex
 simp [World.cell?,h1,h3 j hj]
theorem RowS.cold{W:World}{B cap:Nat}{l:List ByteArray}(h:RowS W B cap l)(j:Nat):W.frozen? ⟨B,j,none⟩=false:=by
 obtain ⟨cur,h1,_⟩:=h.ex
 exact zF h1 j
theorem RowS.step{W W':World}{B cap:Nat}{l:List ByteArray}(h:RowS W B cap l)(hb:Below W.heap.size W W'):RowS W' B cap l:=by
 have hlt:=h.lt
 obtain ⟨⟨cur,h1,h2,h3⟩,h4⟩:=h
 exact ⟨⟨cur,(hb.block _ hlt).trans h1,h2,h3⟩,h4⟩
theorem RowS.set{W:World}{B cap:Nat}{l:List ByteArray}(h:RowS W B cap l)(i:Nat)(x:ByteArray):RowS (W.setCell ⟨B,i,none⟩ (.string x)) B cap (l.set i x):=by
 obtain ⟨⟨cur,h1,h2,h3⟩,h4⟩:=h
 refine ⟨⟨_,zM (i:=i) _ h1,by simp [h2],fun j hj=> ?_⟩,by simpa using h4⟩
 have hj':j<l.length:=by simpa using hj
 rw [Array.getElem?_setIfInBounds,List.getElem_set]
 by_cases e:i=j
 ·subst e
  have:i<cur.size:=by omega
  simp [this]
 ·simp [e,h3 j hj']
theorem RowS.far{W:World}{B cap:Nat}{l:List ByteArray}(h:RowS W B cap l)(i:Nat)(hi:l.length≤i)(v:Value):RowS (W.setCell ⟨B,i,none⟩ v) B cap l:=by
 obtain ⟨⟨cur,h1,h2,h3⟩,h4⟩:=h
 refine ⟨⟨_,zM (i:=i) _ h1,by simp [h2],fun j hj=> ?_⟩,h4⟩
 rw [Array.getElem?_setIfInBounds]
 have:i≠j:=by omega
 simp [this,h3 j hj]
theorem RowS.fars{B cap:Nat}{l:List ByteArray}: ∀ (vs:List Value) (i:Nat) {W:World},RowS W B cap l→l.length≤i→RowS (W.setCells B i vs) B cap l
 |[],_,_,h,_=>h
 |v::r,i,_,h,hi=>RowS.fars r (i+1) (h.far i hi v) (by omega)
theorem zbQ(B:Nat): ∀ (vs:List Value) (i:Nat) (W:World),W.grownBy (W.setCells B i vs) (some B)
 |[],_,W=>zO (Below.refl _ W) _
 |v::r,i,W=>zL (zG W ⟨B,i,none⟩ v) (zbQ B r (i+1) _)
theorem RowS.take{W:World}{B cap:Nat}{l:List ByteArray}(h:RowS W B cap l)(i:Nat):RowS W B cap (l.take i):=by
 obtain ⟨⟨cur,h1,h2,h3⟩,h4⟩:=h
 refine ⟨⟨cur,h1,h2,fun j hj=> ?_⟩,by rw [List.length_take];omega⟩
 have hj':j<l.length:=by rw [List.length_take] at hj;omega
 rw [h3 j hj',List.getElem_take]
structure Inv(l:List ByteArray)(p:ByteArray→Bool)(a b:Nat)(L:List ByteArray):Prop where
 len:L.length=l.length
 ahead:L.take a=(l.take b).filter fun x=> !p x
 rest:L.drop b=l.drop b
 fst:a<b
theorem Inv.get{l:List ByteArray}{p:ByteArray→Bool}{a b:Nat}{L:List ByteArray}(h:Inv l p a b L)(hb:b<l.length):L[b]'(by rw [h.len];exact hb)=l[b]:=by
 have e:=congrArg (fun z:List ByteArray=>z[0]?) h.rest
 simp only [List.getElem?_drop,Nat.add_zero] at e
 rw [List.getElem?_eq_getElem hb,List.getElem?_eq_getElem (by rw [h.len];exact hb)] at e
 exact Option.some.inj e
theorem zdf{L l:List ByteArray}{b:Nat}(h:L.drop b=l.drop b):L.drop (b+1)=l.drop (b+1):=by
 rw [←List.drop_drop,←List.drop_drop,h]
theorem Inv.skip{l:List ByteArray}{p:ByteArray→Bool}{a b:Nat}{L:List ByteArray}(h:Inv l p a b L)(hb:b<l.length)(q:p l[b]=true):Inv l p a (b+1) L:=
 ⟨h.len,by rw [h.ahead,List.take_succ_eq_append_getElem hb,List.filter_append];simp [q],zdf h.rest,by have:=h.fst;omega⟩
theorem Inv.keep{l:List ByteArray}{p:ByteArray→Bool}{a b:Nat}{L:List ByteArray}(h:Inv l p a b L)(hb:b<l.length)(q:p l[b]=false):Inv l p (a+1) (b+1) (L.set a l[b]):=by
 have hf:=h.fst
 have hl:=h.len
 refine ⟨by simpa using hl,?_,?_,by omega⟩
 ·rw [List.take_succ_eq_append_getElem (by rw [List.length_set];omega),List.take_set_of_le (Nat.le_refl _),List.getElem_set_self,h.ahead,List.take_succ_eq_append_getElem hb,List.filter_append]
  simp [q]
 ·rw [List.drop_set_of_lt (by omega)]
  exact zdf h.rest
theorem Inv.start{l:List ByteArray}{p:ByteArray→Bool}{k:Nat}(hk:k<l.length)(q:p l[k]=true)(h: ∀ (j:Nat) (hj:j<l.length),j<k→p l[j]=false):Inv l p k (k+1) l:=by
 refine ⟨rfl,?_,rfl,Nat.lt_succ_self _⟩
 rw [List.take_succ_eq_append_getElem hk,List.filter_append]
 have:(l.take k).filter (fun x=> !p x)=l.take k:=by
  rw [List.filter_eq_self]
  intro x hx
  obtain ⟨j,hj,rfl⟩:=List.mem_iff_getElem.1 hx
  rw [List.length_take] at hj
  rw [List.getElem_take,h j (by omega) (by omega)];rfl
 rw [this]
 simp [q]
theorem Inv.done{l:List ByteArray}{p:ByteArray→Bool}{a b:Nat}{L:List ByteArray}(h:Inv l p a b L)(hb:l.length≤b):L.take a=l.filter fun x=> !p x:=by
 rw [h.ahead,List.take_of_length_le hb]
end Go.Proofs.YtpeafgddbbojaaaGreatDoor
namespace Go.Proofs
open Go.Shelf
def Tryz.keys35_ren:Go.Shelf.Ren:=⟨fun|7=>35|10=>65|n=>n,fun|23=>75|26=>9|3=>48|28=>82|0=>0|27=>81|33=>108|4=>4|n=>n,fun|n=>n⟩
theorem Tryz.keys35:Go.Proofs.SlLaysZ.n7 Tryz.prog Tryz.keys35_ren:={
 mixed:=by kernel_rfl
 f7:=⟨Tryz.f35.name,by decide,Tryz.func35.trans (congrArg some (by kernel_rfl))⟩
 f10:=⟨Tryz.f65.name,by decide,Tryz.func65.trans (congrArg some (by kernel_rfl))⟩
 t0:=Tryz.underlying0
 a0:=Tryz.isAgg0
 z0:=Tryz.sizeOf0
 v0:=Tryz.zeroValue0
 t4:=Tryz.underlying4
 a4:=Tryz.isAgg4
 z4:=Tryz.sizeOf4
 v4:=Tryz.zeroValue4
 t23:=Tryz.underlying75
 a23:=Tryz.isAgg75
 z23:=Tryz.sizeOf75
 v23:=Tryz.zeroValue75
 t26:=Tryz.underlying9
 a26:=Tryz.isAgg9
 z26:=Tryz.sizeOf9
 v26:=Tryz.zeroValue9
 t27:=Tryz.underlying81
 a27:=Tryz.isAgg81
 z27:=Tryz.sizeOf81
 v27:=Tryz.zeroValue81
 t28:=Tryz.underlying82
 a28:=Tryz.isAgg82
 z28:=Tryz.sizeOf82
 v28:=Tryz.zeroValue82
 t33:=Tryz.underlying108
 a33:=Tryz.isAgg108
 z33:=Tryz.sizeOf108
 v33:=Tryz.zeroValue108 }
def Tryz.sorted34_ren:Go.Shelf.Ren:=⟨fun|6=>34|8=>64|9=>41|11=>105|13=>74|12=>73|23=>116|24=>117|14=>107|15=>108|16=>109|17=>110|18=>111|19=>112|20=>113|21=>114|22=>115|25=>145|26=>146|27=>147|28=>148|29=>149|30=>150|31=>177|n=>n,fun|26=>9|28=>82|24=>51|0=>0|3=>3|37=>120|48=>155|50=>157|4=>4|40=>148|39=>147|45=>152|5=>5|9=>9|51=>181|55=>185|57=>212|58=>127|33=>108|n=>n,fun|n=>n⟩
theorem Tryz.sorted34:Go.Proofs.SlLaysZ.n6 Tryz.prog Tryz.sorted34_ren:={
 mixed:=by kernel_rfl
 f6:=⟨Tryz.f34.name,by decide,Tryz.func34.trans (congrArg some (by kernel_rfl))⟩
 f8:=⟨Tryz.f64.name,by decide,Tryz.func64.trans (congrArg some (by kernel_rfl))⟩
 f11:=⟨Tryz.f105.name,by decide,Tryz.func105.trans (congrArg some (by kernel_rfl))⟩
 t0:=Tryz.underlying0
 a0:=Tryz.isAgg0
 z0:=Tryz.sizeOf0
 v0:=Tryz.zeroValue0
 t24:=Tryz.underlying51
 a24:=Tryz.isAgg51
 z24:=Tryz.sizeOf51
 v24:=Tryz.zeroValue51
 t26:=Tryz.underlying9
 a26:=Tryz.isAgg9
 z26:=Tryz.sizeOf9
 v26:=Tryz.zeroValue9
 t28:=Tryz.underlying82
 a28:=Tryz.isAgg82
 z28:=Tryz.sizeOf82
 v28:=Tryz.zeroValue82
 i26:=by kernel_rfl }
def Tryz.sort41_ren:Go.Shelf.Ren:=⟨fun|6=>41|8=>74|9=>73|19=>116|20=>117|21=>107|22=>108|23=>109|24=>110|25=>111|26=>112|27=>113|28=>114|29=>115|36=>145|31=>146|32=>147|37=>148|38=>149|39=>150|41=>177|n=>n,fun|27=>51|29=>9|3=>3|32=>120|26=>51|0=>0|44=>155|46=>157|4=>4|36=>148|35=>147|41=>152|5=>5|9=>9|53=>181|57=>185|63=>212|64=>127|n=>n,fun|n=>n⟩
theorem Tryz.sort41:Go.Proofs.SlLaysM.n6 Tryz.prog Tryz.sort41_ren:={
 mixed:=by kernel_rfl
 f6:=⟨Tryz.f41.name,by decide,Tryz.func41.trans (congrArg some (by kernel_rfl))⟩
 f8:=Tryz.func74.trans (congrArg some (by kernel_rfl))
 f9:=⟨Tryz.f73.name,by decide,Tryz.func73.trans (congrArg some (by kernel_rfl))⟩
 f19:=Tryz.func116.trans (congrArg some (by kernel_rfl))
 f20:=Tryz.func117.trans (congrArg some (by kernel_rfl))
 f21:=⟨Tryz.f107.name,by decide,Tryz.func107.trans (congrArg some (by kernel_rfl))⟩
 f22:=⟨Tryz.f108.name,by decide,Tryz.func108.trans (congrArg some (by kernel_rfl))⟩
 f23:=⟨Tryz.f109.name,by decide,Tryz.func109.trans (congrArg some (by kernel_rfl))⟩
 f24:=⟨Tryz.f110.name,by decide,Tryz.func110.trans (congrArg some (by kernel_rfl))⟩
 f25:=⟨Tryz.f111.name,by decide,Tryz.func111.trans (congrArg some (by kernel_rfl))⟩
 f26:=⟨Tryz.f112.name,by decide,Tryz.func112.trans (congrArg some (by kernel_rfl))⟩
 f27:=⟨Tryz.f113.name,by decide,Tryz.func113.trans (congrArg some (by kernel_rfl))⟩
 f28:=⟨Tryz.f114.name,by decide,Tryz.func114.trans (congrArg some (by kernel_rfl))⟩
 f29:=⟨Tryz.f115.name,by decide,Tryz.func115.trans (congrArg some (by kernel_rfl))⟩
 f31:=Tryz.func146.trans (congrArg some (by kernel_rfl))
 f32:=Tryz.func147.trans (congrArg some (by kernel_rfl))
 f36:=⟨Tryz.f145.name,by decide,Tryz.func145.trans (congrArg some (by kernel_rfl))⟩
 f37:=⟨Tryz.f148.name,by decide,Tryz.func148.trans (congrArg some (by kernel_rfl))⟩
 f38:=⟨Tryz.f149.name,by decide,Tryz.func149.trans (congrArg some (by kernel_rfl))⟩
 f39:=⟨Tryz.f150.name,by decide,Tryz.func150.trans (congrArg some (by kernel_rfl))⟩
 f41:=⟨Tryz.f177.name,by decide,Tryz.func177.trans (congrArg some (by kernel_rfl))⟩
 t0:=Tryz.underlying0
 a0:=Tryz.isAgg0
 z0:=Tryz.sizeOf0
 v0:=Tryz.zeroValue0
 t3:=Tryz.underlying3
 a3:=Tryz.isAgg3
 z3:=Tryz.sizeOf3
 v3:=Tryz.zeroValue3
 t4:=Tryz.underlying4
 a4:=Tryz.isAgg4
 z4:=Tryz.sizeOf4
 v4:=Tryz.zeroValue4
 t5:=Tryz.underlying5
 a5:=Tryz.isAgg5
 z5:=Tryz.sizeOf5
 v5:=Tryz.zeroValue5
 t9:=Tryz.underlying9
 a9:=Tryz.isAgg9
 z9:=Tryz.sizeOf9
 v9:=Tryz.zeroValue9
 t26:=Tryz.underlying51
 a26:=Tryz.isAgg51
 z26:=Tryz.sizeOf51
 v26:=Tryz.zeroValue51
 t27:=Tryz.underlying51
 a27:=Tryz.isAgg51
 z27:=Tryz.sizeOf51
 v27:=Tryz.zeroValue51
 t29:=Tryz.underlying9
 a29:=Tryz.isAgg9
 z29:=Tryz.sizeOf9
 v29:=Tryz.zeroValue9
 t32:=Tryz.underlying120
 a32:=Tryz.isAgg120
 z32:=Tryz.sizeOf120
 v32:=Tryz.zeroValue120
 t35:=Tryz.underlying147
 a35:=Tryz.isAgg147
 z35:=Tryz.sizeOf147
 v35:=Tryz.zeroValue147
 t36:=Tryz.underlying148
 a36:=Tryz.isAgg148
 z36:=Tryz.sizeOf148
 v36:=Tryz.zeroValue148
 t41:=Tryz.underlying152
 a41:=Tryz.isAgg152
 z41:=Tryz.sizeOf152
 v41:=Tryz.zeroValue152
 t44:=Tryz.underlying155
 a44:=Tryz.isAgg155
 z44:=Tryz.sizeOf155
 v44:=Tryz.zeroValue155
 t46:=Tryz.underlying157
 a46:=Tryz.isAgg157
 z46:=Tryz.sizeOf157
 v46:=Tryz.zeroValue157
 t53:=Tryz.underlying181
 a53:=Tryz.isAgg181
 z53:=Tryz.sizeOf181
 v53:=Tryz.zeroValue181
 t57:=Tryz.underlying185
 a57:=Tryz.isAgg185
 z57:=Tryz.sizeOf185
 v57:=Tryz.zeroValue185
 t63:=Tryz.underlying212
 a63:=Tryz.isAgg212
 z63:=Tryz.sizeOf212
 v63:=Tryz.zeroValue212
 t64:=Tryz.underlying127
 a64:=Tryz.isAgg127
 z64:=Tryz.sizeOf127
 v64:=Tryz.zeroValue127 }
open Go.RowKit Go.Maps Go.Sort
theorem Tryz.sorts34(m:Nat):AnyZ.SortsIn Tryz.prog Tryz.sorted34_ren Fence.wide m:=
 ⟨fun blk off cap ss W hH hblk hsz=>callsIn_wide.2 (AnyM.slices_Sort_string Tryz.sort41 blk off cap ss W hH hblk hsz),
 fun p cap W=>callsIn_wide.2 (AnyM.slices_Sort_string_none Tryz.sort41 p cap W)⟩
theorem Tryz.maps_Keys_35(mb:Option Nat)(W:World):CallsIn Fence.wide 5 Tryz.prog 35 #[.map mb] W fun e w'=>e= .returned (.func (.func 65) #[] #[.pointer (some ⟨W.heap.size,0,none⟩)])∧w'=W.alloc (.cells #[.map mb] 75):=
 AnyZ.keys_in Tryz.keys35 Fence.wide 5 trivial rfl mb W
set_option maxHeartbeats 1000000 in
theorem Tryz.slices_Sorted_keys_34_35{H:Type}(b nn:Nat)(D0:DataW H)(R:Value→Option (DataW H×List MemPlace))(w:World)(hown:w.ownsMap Tryz.prog 9 R b nn D0)(hmax:Maps.size D0≤maxLen)(hbytes:Maps.size D0*16≤140737488355328):
  CallsIn Fence.wide 5 Tryz.prog 34 #[.func (.func 65) #[] #[.pointer (some ⟨w.heap.size,0,none⟩)]] (w.alloc (.cells #[.map (some b)] 75)) fun e w'=> ∃ (v:Value) (ss:List (List UInt8)),e= .returned v∧ss.Perm (strKeys D0)∧
   w'.ownsRow (w.alloc (.cells #[.map (some b)] 75)).heap.size 9 1 v ss.length ((ss.mergeSort (fun x y=>decide (x≤y))).map encStr)∧(v= .slice none 0 0↔ss=[])∧Below (w.alloc (.cells #[.map (some b)] 75)).heap.size (w.alloc (.cells #[.map (some b)] 75)) w':=by
 have hbl:=hown.lt
 have hseq:SeqGives Fence.wide 2 Tryz.prog 65 #[.pointer (some ⟨w.heap.size,0,none⟩)] encStr (fun ss=>ss.Perm (strKeys D0)) (Maps.size D0) (w.alloc (.cells #[.map (some b)] 75)):=
  AnyZ.keys_gives (ρ:=Tryz.keys35_ren) { Tryz.keys35 with } Fence.wide _ trivial rfl (by omega) w.heap.size b nn D0 _ (by simp) (by simp) (by
   obtain ⟨es,clock,hb,Ft,hs,hD⟩:=hown
   exact ⟨es,clock,(Below.heap_alloc _ _ b hbl).trans hb,Ft,hs,hD⟩)
 exact AnyZ.sorted_in Tryz.sorted34 Fence.wide 5 trivial trivial trivial trivial rfl (by omega) (Tryz.sorts34 _) (enters_of Tryz.func41 (by kernel_rfl) rfl) 65 #[.pointer (some ⟨w.heap.size,0,none⟩)] trivial (enters_of Tryz.func65 (by kernel_rfl) rfl) _ _ hmax hbytes _ hseq
set_option maxHeartbeats 1000000 in
theorem Tryz.slices_Sorted_keys_nil_34_35(w:World):
  CallsIn Fence.wide 5 Tryz.prog 34 #[.func (.func 65) #[] #[.pointer (some ⟨w.heap.size,0,none⟩)]] (w.alloc (.cells #[.map none] 75)) fun e w'=> ∃ (v:Value) (ss:List (List UInt8)),e= .returned v∧ss=[]∧
   w'.ownsRow (w.alloc (.cells #[.map none] 75)).heap.size 9 1 v ss.length ((ss.mergeSort (fun x y=>decide (x≤y))).map encStr)∧(v= .slice none 0 0↔ss=[])∧Below (w.alloc (.cells #[.map none] 75)).heap.size (w.alloc (.cells #[.map none] 75)) w':=by
 have hseq:SeqGives Fence.wide 2 Tryz.prog 65 #[.pointer (some ⟨w.heap.size,0,none⟩)] encStr (fun ss:List (List UInt8)=>ss=[]) 0 (w.alloc (.cells #[.map none] 75)):=
  AnyZ.keys_gives_nil (ρ:=Tryz.keys35_ren) { Tryz.keys35 with } Fence.wide _ trivial rfl w.heap.size _ (by simp) (by simp)
 exact AnyZ.sorted_in Tryz.sorted34 Fence.wide 5 trivial trivial trivial trivial rfl (by omega) (Tryz.sorts34 _) (enters_of Tryz.func41 (by kernel_rfl) rfl) 65 #[.pointer (some ⟨w.heap.size,0,none⟩)] trivial (enters_of Tryz.func65 (by kernel_rfl) rfl) _ 0 (Nat.zero_le _) (by omega) _ hseq
end Go.Proofs
namespace Go.Proofs.YtpeafgddbbojaaaGreatDoor
open Go Go.RowKit Go.Maps Go.Sort Cal
attribute [local go_sem] Oper.semAt_some
set_option maxHeartbeats 1000000 in
theorem zkd(bb:Nat)(mo:Option Nat)(n:Nat)(D:DataW Value)(w:World)(h:Bok w bb mo n D)(hn:n≤100000):
  Calls Tryz.prog 15 #[.pointer (some ⟨bb,0,none⟩)] w fun r w'=> ∃ (v:Value) (ss:List (List UInt8)),r= .returned v∧ss.Perm (strKeys D)∧w'.ownsRow w.heap.size 9 1 v ss.length ((ss.mergeSort (fun x y=>decide (x≤y))).map encStr)∧Below w.heap.size w w':=by
 have AL:=hid (zck bb mo n D w h)
 obtain ⟨h1,h2⟩:=h
 clear h1
 cases mo with
 |none=>
  subst h2
  have SK:=Tryz.slices_Sorted_keys_nil_34_35 w
  have HK:=hid SK
  clear SK
  refine (callsIn_wide (n:=6)).1 ?_
  have hfK:Fence.wide.fn 35:=trivial
  have hfS:Fence.wide.fn 34:=trivial
  have hfA:Fence.wide.fn 36:=trivial
  refine callsIn_of_wp Tryz.func15 rfl trivial ?_ rfl
  simp only [Tryz.ntmps15,List.size_toArray,List.length_cons,List.length_nil,Nat.reduceAdd,Nat.reduceSub,Array.replicate_succ,Array.replicate_zero,List.push_toArray,List.append_toArray,List.nil_append,List.cons_append]
  gi_wp2_with (first
   |(gi_at_call 36;refine (callsIn_wide.2 AL.out).mono ?_;rintro r w' ⟨rfl,rfl⟩)
   |(gi_at_call 35;refine (Tryz.maps_Keys_35 _ _).mono ?_;rintro e w' ⟨rfl,rfl⟩)
   |(gi_at_call 34;refine CallsIn.mono HK.out ?_;rintro e w' ⟨v,ss,rfl,hS,hrow,hnil,hb⟩))
  go_ret
  exact ⟨v,ss,rfl,by rw [hS];rfl,zW hrow (by rw [World.size_alloc];omega),zB (zC _ _) hb⟩
 |some mb=>
  obtain ⟨_,hown⟩:=h2
  have hsz:=hown.size_le
  have SK:=Tryz.slices_Sorted_keys_34_35 mb n D hld w hown (by unfold maxLen;omega) (by omega)
  have HK:=hid SK
  clear SK
  refine (callsIn_wide (n:=6)).1 ?_
  have hfK:Fence.wide.fn 35:=trivial
  have hfS:Fence.wide.fn 34:=trivial
  have hfA:Fence.wide.fn 36:=trivial
  refine callsIn_of_wp Tryz.func15 rfl trivial ?_ rfl
  simp only [Tryz.ntmps15,List.size_toArray,List.length_cons,List.length_nil,Nat.reduceAdd,Nat.reduceSub,Array.replicate_succ,Array.replicate_zero,List.push_toArray,List.append_toArray,List.nil_append,List.cons_append]
  gi_wp2_with (first
   |(gi_at_call 36;refine (callsIn_wide.2 AL.out).mono ?_;rintro r w' ⟨rfl,rfl⟩)
   |(gi_at_call 35;refine (Tryz.maps_Keys_35 _ _).mono ?_;rintro e w' ⟨rfl,rfl⟩)
   |(gi_at_call 34;refine CallsIn.mono HK.out ?_;rintro e w' ⟨v,ss,rfl,hS,hrow,hnil,hb⟩))
  go_ret
  exact ⟨v,ss,rfl,hS,zW hrow (by rw [World.size_alloc];omega),zB (zC _ _) hb⟩
end Go.Proofs.YtpeafgddbbojaaaGreatDoor
namespace Go.Proofs.YtpeafgddbbojaaaGreatDoor
open Go Go.RowKit Cal
attribute [local go_sem] Oper.semAt_some
end Go.Proofs.YtpeafgddbbojaaaGreatDoor
namespace Go.Proofs.YtpeafgddbbojaaaGreatDoor
open Go Go.RowKit Go.Shelf Cal
attribute [local go_sem] Oper.semAt_some
end Go.Proofs.YtpeafgddbbojaaaGreatDoor
namespace Go.Proofs
open Go.Shelf
def Tryz.lays189_ren:Go.Shelf.Ren:=⟨fun|189=>184|125=>74|257=>204|128=>116|129=>117|294=>223|295=>224|296=>225|297=>226|298=>227|299=>228|216=>229|300=>230|301=>231|328=>242|329=>146|330=>147|331=>243|332=>244|215=>245|343=>248|n=>n,fun|28=>43|3=>3|46=>120|0=>0|51=>155|53=>157|4=>4|183=>148|182=>147|131=>152|5=>5|9=>9|218=>181|222=>185|228=>212|229=>127|n=>n,fun|n=>n⟩
theorem Tryz.lays189:Go.Proofs.Lays.n189 Tryz.prog Tryz.lays189_ren:={
 mixed:=by kernel_rfl
 f125:=Tryz.func74.trans (congrArg some (by kernel_rfl))
 f128:=Tryz.func116.trans (congrArg some (by kernel_rfl))
 f129:=Tryz.func117.trans (congrArg some (by kernel_rfl))
 f189:=Tryz.func184.trans (congrArg some (by kernel_rfl))
 f215:=Tryz.func245.trans (congrArg some (by kernel_rfl))
 f216:=Tryz.func229.trans (congrArg some (by kernel_rfl))
 f257:=Tryz.func204.trans (congrArg some (by kernel_rfl))
 f294:=Tryz.func223.trans (congrArg some (by kernel_rfl))
 f295:=Tryz.func224.trans (congrArg some (by kernel_rfl))
 f296:=Tryz.func225.trans (congrArg some (by kernel_rfl))
 f297:=Tryz.func226.trans (congrArg some (by kernel_rfl))
 f298:=Tryz.func227.trans (congrArg some (by kernel_rfl))
 f299:=Tryz.func228.trans (congrArg some (by kernel_rfl))
 f300:=Tryz.func230.trans (congrArg some (by kernel_rfl))
 f301:=Tryz.func231.trans (congrArg some (by kernel_rfl))
 f328:=Tryz.func242.trans (congrArg some (by kernel_rfl))
 f329:=Tryz.func146.trans (congrArg some (by kernel_rfl))
 f330:=Tryz.func147.trans (congrArg some (by kernel_rfl))
 f331:=Tryz.func243.trans (congrArg some (by kernel_rfl))
 f332:=Tryz.func244.trans (congrArg some (by kernel_rfl))
 f343:=Tryz.func248.trans (congrArg some (by kernel_rfl))
 t0:=Tryz.underlying0
 a0:=Tryz.isAgg0
 z0:=Tryz.sizeOf0
 v0:=Tryz.zeroValue0
 t3:=Tryz.underlying3
 a3:=Tryz.isAgg3
 z3:=Tryz.sizeOf3
 v3:=Tryz.zeroValue3
 t4:=Tryz.underlying4
 a4:=Tryz.isAgg4
 z4:=Tryz.sizeOf4
 v4:=Tryz.zeroValue4
 t5:=Tryz.underlying5
 a5:=Tryz.isAgg5
 z5:=Tryz.sizeOf5
 v5:=Tryz.zeroValue5
 t9:=Tryz.underlying9
 a9:=Tryz.isAgg9
 z9:=Tryz.sizeOf9
 v9:=Tryz.zeroValue9
 t28:=Tryz.underlying43
 a28:=Tryz.isAgg43
 z28:=Tryz.sizeOf43
 v28:=Tryz.zeroValue43
 t46:=Tryz.underlying120
 a46:=Tryz.isAgg120
 z46:=Tryz.sizeOf120
 v46:=Tryz.zeroValue120
 t51:=Tryz.underlying155
 a51:=Tryz.isAgg155
 z51:=Tryz.sizeOf155
 v51:=Tryz.zeroValue155
 t53:=Tryz.underlying157
 a53:=Tryz.isAgg157
 z53:=Tryz.sizeOf157
 v53:=Tryz.zeroValue157
 t131:=Tryz.underlying152
 a131:=Tryz.isAgg152
 z131:=Tryz.sizeOf152
 v131:=Tryz.zeroValue152
 t182:=Tryz.underlying147
 a182:=Tryz.isAgg147
 z182:=Tryz.sizeOf147
 v182:=Tryz.zeroValue147
 t183:=Tryz.underlying148
 a183:=Tryz.isAgg148
 z183:=Tryz.sizeOf148
 v183:=Tryz.zeroValue148
 t218:=Tryz.underlying181
 a218:=Tryz.isAgg181
 z218:=Tryz.sizeOf181
 v218:=Tryz.zeroValue181
 t222:=Tryz.underlying185
 a222:=Tryz.isAgg185
 z222:=Tryz.sizeOf185
 v222:=Tryz.zeroValue185
 t228:=Tryz.underlying212
 a228:=Tryz.isAgg212
 z228:=Tryz.sizeOf212
 v228:=Tryz.zeroValue212
 t229:=Tryz.underlying127
 a229:=Tryz.isAgg127
 z229:=Tryz.sizeOf127
 v229:=Tryz.zeroValue127 }
open Go.Sort Go.RowKit in
theorem Tryz.slices_Sort_int(blk off cap:Nat)(zs:List Int)(w:World)(hH:Holds (Value.int .i64) w blk off zs.toArray)(hblk:blk<w.heap.size)(hsz:zs.length<4611686018427387904):
  Calls Tryz.prog 184 #[.slice (some ⟨blk,off,none⟩) zs.length cap] w fun e w'=>
   e= .returned (.tuple #[])∧ ∃ n os,w'=grow (putRow (Value.int .i64) (Sort.ahead w n) blk off (zs.mergeSort fun x y=>decide (x≤y)).toArray) os:=Any.slices_Sort_int Tryz.lays189 blk off cap zs w hH hblk hsz
open Go.RowKit Go.Sort in
theorem Tryz.slices_Sort_int_none(p:Option Addr)(cap:Nat)(w:World):
  Calls Tryz.prog 184 #[.slice p 0 cap] w fun e w'=>e= .returned (.tuple #[])∧w'=w:=Any.slices_Sort_int_none Tryz.lays189 p cap w
def Tryz.laysNm220_ren:Go.Shelf.Ren:=⟨fun|20=>185|n=>n,fun|22=>43|3=>3|4=>4|0=>0|n=>n,fun|n=>n⟩
theorem Tryz.laysNm220:Go.Proofs.Lays2.n20 Tryz.prog Tryz.laysNm220_ren:={
 mixed:=by kernel_rfl
 f20:=Tryz.func185.trans (congrArg some (by kernel_rfl))
 t0:=Tryz.underlying0
 a0:=Tryz.isAgg0
 z0:=Tryz.sizeOf0
 v0:=Tryz.zeroValue0
 t3:=Tryz.underlying3
 a3:=Tryz.isAgg3
 z3:=Tryz.sizeOf3
 v3:=Tryz.zeroValue3
 t4:=Tryz.underlying4
 a4:=Tryz.isAgg4
 z4:=Tryz.sizeOf4
 v4:=Tryz.zeroValue4
 t22:=Tryz.underlying43
 a22:=Tryz.isAgg43
 z22:=Tryz.sizeOf43
 v22:=Tryz.zeroValue43
 i3:=by kernel_rfl }
open Go.RowKit Go.Lib Go.Sort in
theorem Tryz.slices_Compact_int(blk off cap:Nat)(zs:List Int)(w:World)(hH:Holds (Value.int .i64) w blk off zs.toArray)(hsz:zs.length≤9223372036854775807)(hcap:zs.length≤cap):
  Calls Tryz.prog 185 #[.slice (some ⟨blk,off,none⟩) zs.length cap] w fun e w'=>e= .returned (.slice (some ⟨blk,off,none⟩) (Lib.compact zs).length cap)∧ ∃ q,w'=putRow (Value.int .i64) (Sort.ahead w q) blk off (Lib.compact zs++List.replicate (zs.length - (Lib.compact zs).length) 0).toArray:=Any.slices_Compact_int Tryz.laysNm220 blk off cap zs w hH hsz hcap
open Go.RowKit Go.Lib Go.Sort in
theorem Tryz.slices_Compact_int_empty(a:Option Addr)(cap:Nat)(w:World):
  Calls Tryz.prog 185 #[.slice a 0 cap] w fun e w'=>e= .returned (.slice a 0 cap)∧w'=w:=Any.slices_Compact_int_empty Tryz.laysNm220 a cap w
end Go.Proofs
namespace Go.Proofs.YtpeafgddbbojaaaGreatDoor
open Go Go.RowKit Go.Sort Cal
theorem zkt(base:Nat)(v:Value)(zs:List Int)(w:World)(h:Ow base w v zs)(hl:zs.length≤80000):
  Calls Tryz.prog 184 #[v] w fun r w'=>r= .returned (.tuple #[])∧Ow base w' v (zs.mergeSort fun x y=>decide (x≤y))∧w.grownBy w' v.ownBlock:=by
 rcases h.2 with ⟨rfl,h0⟩|⟨g,cap,cur,rfl,hb,hg,hcap,hmax,hsz,htake⟩
 ·have hz:zs=[]:=List.length_eq_zero_iff.1 h0
  subst hz
  refine (Tryz.slices_Sort_int_none none 0 w).mono ?_
  rintro r w' ⟨rfl,rfl⟩
  exact ⟨rfl,(by rw [show ([]:List Int).mergeSort (fun x y=>decide (x≤y))=[] from List.mergeSort_nil];exact Ow.nil _ _),zO (Below.refl _ _) _⟩
 ·have hH:Holds (Value.int .i64) w g 0 zs.toArray:=holds_of_blockI hg (by simpa using htake)
  refine (Tryz.slices_Sort_int g 0 cap zs w hH (Array.getElem?_eq_some_iff.1 hg).1 (by omega)).mono ?_
  rintro r w' ⟨rfl,n,os,rfl⟩
  refine ⟨rfl,?_,grownBy_sortedI _⟩
  show World.ownsRow _ _ _ _ _ _ _
  rw [List.length_mergeSort]
  exact ownsRow_sortedI (List.length_mergeSort _) hb hg hcap hmax hsz
theorem jN(zs:List Int):(Lib.compact zs).length≤zs.length:=by
 unfold Lib.compact Lib.compactUpTo
 rw [List.length_map]
 exact Nat.le_trans (List.length_filter_le _ _) (by simp)
theorem zfW(base:Nat)(v:Value)(zs:List Int)(w:World)(h:Ow base w v zs)(hl:zs.length≤80000):
  Calls Tryz.prog 185 #[v] w fun r w'=> ∃ v',r= .returned v'∧Ow base w' v' (Lib.compact zs)∧w.grownBy w' v.ownBlock:=by
 rcases h.2 with ⟨rfl,h0⟩|⟨g,cap,cur,rfl,hb,hg,hcap,hmax,hsz,htake⟩
 ·have hz:zs=[]:=List.length_eq_zero_iff.1 h0
  subst hz
  refine (Tryz.slices_Compact_int_empty none 0 w).mono ?_
  rintro r w' ⟨rfl,rfl⟩
  exact ⟨_,rfl,Ow.nil _ _,zO (Below.refl _ _) _⟩
 ·have hH:Holds (Value.int .i64) w g 0 zs.toArray:=holds_of_blockI hg (by simpa using htake)
  refine (Tryz.slices_Compact_int g 0 cap zs w hH (by omega) hcap).mono ?_
  rintro r w' ⟨rfl,q,rfl⟩
  have hle:=jN zs
  have e0:putRow (Value.int .i64) (Sort.ahead w q) g 0 (Lib.compact zs++List.replicate (zs.length - (Lib.compact zs).length) 0).toArray=grow (putRow (Value.int .i64) (Sort.ahead w q) g 0 (Lib.compact zs++List.replicate (zs.length - (Lib.compact zs).length) 0).toArray) #[]:=(grow_empty _).symm
  rw [e0]
  refine ⟨_,rfl,?_,grownBy_sortedI _⟩
  have hlen:(Lib.compact zs++List.replicate (zs.length - (Lib.compact zs).length) (0:Int)).length=zs.length:=by simp;omega
  refine ⟨by simp,.inr ⟨g,cap,_,rfl,hb,heap_sortedI _ hg,by omega,hmax,by simp [putCells,hsz],?_⟩⟩
  have ht:=take_putCellsI cur (Lib.compact zs++List.replicate (zs.length - (Lib.compact zs).length) 0) (by rw [hlen];omega)
  rw [hlen] at ht
  have h2:=congrArg (List.take (Lib.compact zs).length) ht
  rw [List.take_take,Nat.min_eq_left hle,List.map_append,List.take_append_of_le_length (by simp),List.take_of_length_le (l:=List.map (Value.int .i64) (Lib.compact zs)) (by simp)] at h2
  rw [Nat.mul_one]
  exact h2
end Go.Proofs.YtpeafgddbbojaaaGreatDoor
namespace Go.Proofs.YtpeafgddbbojaaaGreatDoor
open Go Go.RowKit Go.Shelf Cal
attribute [local go_sem] Oper.semAt_some
end Go.Proofs.YtpeafgddbbojaaaGreatDoor
namespace Go.Proofs.YtpeafgddbbojaaaGreatDoor
open Go Go.RowKit Cal
attribute [local go_sem] Oper.semAt_some
end Go.Proofs.YtpeafgddbbojaaaGreatDoor
namespace Go.Proofs.YtpeafgddbbojaaaGreatDoor
open Go Go.RowKit Go.Maps Cal
attribute [local go_sem] Oper.semAt_some
theorem ziQ{bb n:Nat}{mo:Option Nat}{D:DataW Value}{W:World}(h:Bok W bb mo n D){id:ByteArray}(hid:id.size≤1000){u:Value}(hat:D.atKey (key id) (.held zV)= .held u):
  (Instr.lookup 75 (.map mo) (.string id) false).run Tryz.prog W= .ok u W:=by
 cases mo with
 |none=>
  have hD:D= .map []:=h.2
  subst hD
  have hu:zV=u:=by
   have:(DataW.held zV:DataW Value)= .held u:=hat
   cases this;rfl
  rw [←hu]
  exact Maps.look_nil false law Tryz.underlying75 (zfM W) (zaD hid)
 |some mb=>
  obtain ⟨es,clock,hb,F,_,rfl⟩:=h.2.2
  rcases Maps.fit_look false law Tryz.underlying75 (zfM W) hb F (zaD hid) with ⟨hrun,_,hq⟩|⟨e0,y,_,_,hrun,hRv,hq,_⟩
  ·rw [hq] at hat
   have hu:zV=u:=by cases hat;rfl
   rw [←hu]
   exact hrun
  ·rw [hq] at hat
   have h1:=zcj hRv
   rw [hat] at h1
   have hu:e0.val=u:=by cases h1;rfl
   rw [←hu]
   exact hrun
def RowV(base:Nat)(W:World)(v:Value)(l:List ByteArray):Prop:=
 (v= .slice none 0 0∧l=[])∨ ∃ B cap,v= .slice (some ⟨B,0,none⟩) l.length cap∧base≤B∧RowS W B cap l
theorem zcl{base:Nat}{W:World}{v:Value}{n:Nat}{xs:List (List UInt8)}(h:W.ownsRow base 9 1 v n (xs.map encStr)):RowV base W v (xs.map bs):=by
 have hn:xs.length=n:=by have:=h.1;simpa using this
 rcases h.2 with ⟨rfl,h0⟩|⟨B,cap,cur,rfl,hb,hg,hcap,hmax,hsz,htake⟩
 ·refine .inl ⟨rfl,?_⟩
  rw [List.length_eq_zero_iff.1 (hn.trans h0)];rfl
 ·refine .inr ⟨B,cap,by rw [List.length_map,hn],hb,⟨cur,hg,by omega,fun j hj=> ?_⟩,by rw [List.length_map];omega⟩
  rw [List.length_map] at hj
  have e:=congrArg (fun z:List Value=>z[j]?) htake
  simp only [List.getElem?_take,List.getElem?_map,Array.getElem?_toList] at e
  rw [if_pos (by omega),List.getElem?_eq_getElem hj] at e
  rw [e,List.getElem_map];rfl
end Go.Proofs.YtpeafgddbbojaaaGreatDoor
namespace Go.Proofs.YtpeafgddbbojaaaGreatDoor
open Go Go.RowKit Go.Maps Go.Sort Cal
attribute [local go_sem] Oper.semAt_some
theorem zy{w A C:World}{B:Nat}(h:Below w.heap.size w A)(k:A.grownBy C (some B))(hB:w.heap.size≤B):Below w.heap.size w C:=
 ⟨k.os.trans h.os,k.tape.trans h.tape,k.output.trans h.output,Nat.le_trans h.size k.size,fun i hi=>(k.block i (Nat.lt_of_lt_of_le hi h.size) (fun q=>by have:=Option.some.inj q;omega)).trans (h.block i hi)⟩
theorem zR{W:World}{n:Nat}{v:Value}{t:TypeId}(h:W.heap[n]? =some (.cells #[v] t (0,0))):W.cell? ⟨n,0,none⟩=some v:=by simp [World.cell?,h]
theorem RowV.base{a b:Nat}{W:World}{v:Value}{l:List ByteArray}(h:RowV b W v l)(hab:a≤b):RowV a W v l:=by
 rcases h with h|⟨B,cap,h1,h2,h3⟩
 ·exact .inl h
 ·exact .inr ⟨B,cap,h1,Nat.le_trans hab h2,h3⟩
end Go.Proofs.YtpeafgddbbojaaaGreatDoor
