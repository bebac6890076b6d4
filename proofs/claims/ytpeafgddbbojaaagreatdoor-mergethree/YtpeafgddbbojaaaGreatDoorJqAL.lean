import Derived.Test.YtpeafgddbbojaaaGreatDoorJqAK
import Derived.Test.YtpeafgddbbojaaaGreatDoorJqAC
import Derived.Test.YtpeafgddbbojaaaGreatDoorJqAA
namespace Go.Proofs.YtpeafgddbbojaaaGreatDoor
open Go Go.RowKit Go.Maps Go.Sort Cal
attribute [local go_sem] Oper.semAt_some
structure TwoR(base nf:Nat)(W:World)(pv cv:Value)(ps cs:List ByteArray):Prop where
 p:W.ownsRow base 9 1 pv ps.length (ps.map Value.string)
 c:W.ownsRow base 9 1 cv cs.length (cs.map Value.string)
 ne: ∀ b,pv.ownBlock=some b→cv.ownBlock≠some b
 f1:pv.ownBlock≠some nf
 f2:cv.ownBlock≠some nf
 lt:nf<W.heap.size
 fs: ∀ i,i<6→W.cell? ⟨nf,i,none⟩=some (.string (zt i))
theorem TwoR.step{base nf:Nat}{W W':World}{pv cv:Value}{ps cs:List ByteArray}(h:TwoR base nf W pv cv ps cs)(hb:Below W.heap.size W W'):TwoR base nf W' pv cv ps cs:=
 ⟨zU h.p hb,zU h.c hb,h.ne,h.f1,h.f2,Nat.lt_of_lt_of_le h.lt hb.size,fun i hi=>zD (h.fs i hi) hb⟩
theorem TwoR.addC{base nf:Nat}{W W':World}{pv cv v':Value}{ps cs:List ByteArray}{x:ByteArray}(h:TwoR base nf W pv cv ps cs)(ho:W'.ownsRow base 9 1 v' (cs.length+1) (cs.map Value.string++[.string x]))(hg:W.grownBy W' cv.ownBlock)(hat:v'.ownBlock=cv.ownBlock∨v'.ownBlock=some W.heap.size):TwoR base nf W' pv v' ps (cs++[x]):=by
 refine ⟨h.p.kept hg ?_,by rw [List.length_append,List.map_append];exact ho,fun b hb q=> ?_,h.f1,fun q=> ?_,Nat.lt_of_lt_of_le h.lt hg.size,fun i hi=>(World.cell?_of_block (a:=⟨nf,i,none⟩) (hg.block nf h.lt (fun q=>h.f2 q.symm))).trans (h.fs i hi)⟩
 ·cases hp:pv.ownBlock with
  |none=>exact .inl rfl
  |some b=>exact .inr (fun q=>h.ne b hp q.symm)
 ·rcases hat with e|e
  ·exact h.ne b hb (e▸q)
  ·rw [e] at q
   have:=(World.ownsRow.lt h.p b hb).2
   have:=Option.some.inj q
   omega
 ·rcases hat with e|e
  ·exact h.f2 (e▸q)
  ·rw [e] at q
   have:=h.lt
   have:=Option.some.inj q
   omega
theorem TwoR.swap{base nf:Nat}{W:World}{pv cv:Value}{ps cs:List ByteArray}(h:TwoR base nf W pv cv ps cs):TwoR base nf W cv pv cs ps:=
 ⟨h.c,h.p,fun b hb q=>h.ne b q hb,h.f2,h.f1,h.lt,h.fs⟩
theorem TwoR.addP{base nf:Nat}{W W':World}{pv cv v':Value}{ps cs:List ByteArray}{x:ByteArray}(h:TwoR base nf W pv cv ps cs)(ho:W'.ownsRow base 9 1 v' (ps.length+1) (ps.map Value.string++[.string x]))(hg:W.grownBy W' pv.ownBlock)(hat:v'.ownBlock=pv.ownBlock∨v'.ownBlock=some W.heap.size):TwoR base nf W' v' cv (ps++[x]) cs:=
 (h.swap.addC ho hg hat).swap
theorem jx{base n:Nat}{W:World}{e:TypeId}{size:Nat}{v:Value}{xs:List Value}(h:W.ownsRow base e size v n xs): ∃ a c,v= .slice a n c:=by
 rcases h.2 with ⟨rfl,h0⟩|⟨g,cap,cur,rfl,_⟩
 ·exact ⟨none,0,by rw [h0]⟩
 ·exact ⟨_,_,rfl⟩
noncomputable def jTs(E1 E2 E3:EV)(m:Nat):List ByteArray:=E1.id::(List.range m).map fun k=>(jF E1 E2 E3 k).1
noncomputable def jCs(E1 E2 E3:EV)(m:Nat):List ByteArray:=((List.range m).filter fun k=> !(jF E1 E2 E3 k).2).map zt
theorem zja(E1 E2 E3:EV)(m:Nat):jTs E1 E2 E3 (m+1)=jTs E1 E2 E3 m++[(jF E1 E2 E3 m).1]:=by
 unfold jTs
 rw [List.range_succ,List.map_append]
 rfl
theorem zep(E1 E2 E3:EV)(m:Nat):(jTs E1 E2 E3 m).length=m+1:=by simp [jTs]
theorem zbr(E1 E2 E3:EV)(m:Nat):(jCs E1 E2 E3 m).length≤m:=by
 unfold jCs
 rw [List.length_map]
 exact Nat.le_trans (List.length_filter_le _ _) (by simp)
theorem zkL{E1 E2 E3:EV}{m:Nat}(h:(jF E1 E2 E3 m).2=true):jCs E1 E2 E3 (m+1)=jCs E1 E2 E3 m:=by
 unfold jCs
 rw [List.range_succ,List.filter_append]
 simp [h]
theorem zmd{E1 E2 E3:EV}{m:Nat}(h:(jF E1 E2 E3 m).2=false):jCs E1 E2 E3 (m+1)=jCs E1 E2 E3 m++[zt m]:=by
 unfold jCs
 rw [List.range_succ,List.filter_append]
 simp [h]
set_option maxHeartbeats 4000000 in
set_option maxRecDepth 100000 in
theorem zbI(E1 E2 E3:EV)(x1 y1 z1:Value)(x2 y2 z2:Value)(x3 y3 z3:Value)(w:World)(g:GlobR w)(L1:Ls w E1 x1 y1 z1)(L2:Ls w E2 x2 y2 z2)(L3:Ls w E3 x3 y3 z3)(W1:EW E1)(W2:EW E2)(W3:EW E3)(G2:Got w y2 E2.sk)(G3:Got w y3 E3.sk)(hlen:(Lib.join ((jTs E1 E2 E3 6).map fun b=>b.data.toList) [124]).length≤100000):
  Calls Tryz.prog 46 #[ev E1 x1 y1 z1,ev E2 x2 y2 z2,ev E3 x3 y3 z3] w fun r w'=>Below w.heap.size w w'∧((jCs E1 E2 E3 6=[]∧r= .returned (.tuple #[.string (bs (Lib.join ((jTs E1 E2 E3 6).map fun b=>b.data.toList) [124])),.slice none 0 0]))∨(jCs E1 E2 E3 6≠[]∧ ∃ v,r= .returned (.tuple #[.string ⟨#[]⟩,v])∧w'.ownsRow w.heap.size 9 1 v (jCs E1 E2 E3 6).length ((jCs E1 E2 E3 6).map Value.string))):=by
 have JF:Hid (∀ k,k<6→ ∀ W,Below w.heap.size w W→Calls Tryz.prog 78 #[.string (zt k),ev E1 x1 y1 z1,ev E2 x2 y2 z2,ev E3 x3 y3 z3] W fun r w'=>r= .returned (.tuple #[.string (jF E1 E2 E3 k).1,.bool (jF E1 E2 E3 k).2])∧Below W.heap.size W w'):=fun k hk W hW=>zcC k hk E1 E2 E3 x1 y1 z1 x2 y2 z2 x3 y3 z3 W (g.step hW) (L1.step hW) (L2.step hW) (L3.step hW) W1 W2 W3 (G2.step hW) (G3.step hW)
 have HLEN:Hid (_):=hlen
 clear hlen
 obtain ⟨p1,q1,n1⟩:=L1
 obtain ⟨r1,rc1,rfl,p1⟩:=p1
 obtain ⟨s1,sc1,rfl,q1⟩:=q1
 obtain ⟨m1,mc1,rfl,n1⟩:=n1
 clear p1 q1 n1 W1
 obtain ⟨p2,q2,n2⟩:=L2
 obtain ⟨r2,rc2,rfl,p2⟩:=p2
 obtain ⟨s2,sc2,rfl,q2⟩:=q2
 obtain ⟨m2,mc2,rfl,n2⟩:=n2
 clear p2 q2 n2 W2
 obtain ⟨p3,q3,n3⟩:=L3
 obtain ⟨r3,rc3,rfl,p3⟩:=p3
 obtain ⟨s3,sc3,rfl,q3⟩:=q3
 obtain ⟨m3,mc3,rfl,n3⟩:=n3
 clear p3 q3 n3 W3
 clear g G2 G3
 have JF':Hid (∀ k,k<6→ ∀ W,Below w.heap.size w W→Calls Tryz.prog 78 #[.string (zt k),.agg #[.string E1.id,.string E1.ti,.int .i64 E1.st,.int .i64 E1.lg,.string E1.f,.int .i64 E1.e,.slice r1 E1.ds.length rc1,.int .i64 E1.c,.int .i64 E1.u,.slice s1 E1.sk.length sc1,.slice m1 E1.mv.length mc1],.agg #[.string E2.id,.string E2.ti,.int .i64 E2.st,.int .i64 E2.lg,.string E2.f,.int .i64 E2.e,.slice r2 E2.ds.length rc2,.int .i64 E2.c,.int .i64 E2.u,.slice s2 E2.sk.length sc2,.slice m2 E2.mv.length mc2],.agg #[.string E3.id,.string E3.ti,.int .i64 E3.st,.int .i64 E3.lg,.string E3.f,.int .i64 E3.e,.slice r3 E3.ds.length rc3,.int .i64 E3.c,.int .i64 E3.u,.slice s3 E3.sk.length sc3,.slice m3 E3.mv.length mc3]] W fun r w'=>r= .returned (.tuple #[.string (jF E1 E2 E3 k).1,.bool (jF E1 E2 E3 k).2])∧Below W.heap.size W w'):=JF.out
 change Calls Tryz.prog 46 #[.agg #[.string E1.id,.string E1.ti,.int .i64 E1.st,.int .i64 E1.lg,.string E1.f,.int .i64 E1.e,.slice r1 E1.ds.length rc1,.int .i64 E1.c,.int .i64 E1.u,.slice s1 E1.sk.length sc1,.slice m1 E1.mv.length mc1],.agg #[.string E2.id,.string E2.ti,.int .i64 E2.st,.int .i64 E2.lg,.string E2.f,.int .i64 E2.e,.slice r2 E2.ds.length rc2,.int .i64 E2.c,.int .i64 E2.u,.slice s2 E2.sk.length sc2,.slice m2 E2.mv.length mc2],.agg #[.string E3.id,.string E3.ti,.int .i64 E3.st,.int .i64 E3.lg,.string E3.f,.int .i64 E3.e,.slice r3 E3.ds.length rc3,.int .i64 E3.c,.int .i64 E3.u,.slice s3 E3.sk.length sc3,.slice m3 E3.mv.length mc3]] w _
 have hB:Below w.heap.size w (((w.alloc (.cells #[.string E1.id,.string E1.ti,.int .i64 E1.st,.int .i64 E1.lg,.string E1.f,.int .i64 E1.e,.slice r1 E1.ds.length rc1,.int .i64 E1.c,.int .i64 E1.u,.slice s1 E1.sk.length sc1,.slice m1 E1.mv.length mc1] 48)).alloc (.cells #[.string E2.id,.string E2.ti,.int .i64 E2.st,.int .i64 E2.lg,.string E2.f,.int .i64 E2.e,.slice r2 E2.ds.length rc2,.int .i64 E2.c,.int .i64 E2.u,.slice s2 E2.sk.length sc2,.slice m2 E2.mv.length mc2] 48)).alloc (.cells #[.string E3.id,.string E3.ti,.int .i64 E3.st,.int .i64 E3.lg,.string E3.f,.int .i64 E3.e,.slice r3 E3.ds.length rc3,.int .i64 E3.c,.int .i64 E3.u,.slice s3 E3.sk.length sc3,.slice m3 E3.mv.length mc3] 48)):=zB (zB (zC _ _) (zC _ _)) (zC _ _)
 have K1:(((w.alloc (.cells #[.string E1.id,.string E1.ti,.int .i64 E1.st,.int .i64 E1.lg,.string E1.f,.int .i64 E1.e,.slice r1 E1.ds.length rc1,.int .i64 E1.c,.int .i64 E1.u,.slice s1 E1.sk.length sc1,.slice m1 E1.mv.length mc1] 48)).alloc (.cells #[.string E2.id,.string E2.ti,.int .i64 E2.st,.int .i64 E2.lg,.string E2.f,.int .i64 E2.e,.slice r2 E2.ds.length rc2,.int .i64 E2.c,.int .i64 E2.u,.slice s2 E2.sk.length sc2,.slice m2 E2.mv.length mc2] 48)).alloc (.cells #[.string E3.id,.string E3.ti,.int .i64 E3.st,.int .i64 E3.lg,.string E3.f,.int .i64 E3.e,.slice r3 E3.ds.length rc3,.int .i64 E3.c,.int .i64 E3.u,.slice s3 E3.sk.length sc3,.slice m3 E3.mv.length mc3] 48)).heap[w.heap.size]? =some (.cells #[.string E1.id,.string E1.ti,.int .i64 E1.st,.int .i64 E1.lg,.string E1.f,.int .i64 E1.e,.slice r1 E1.ds.length rc1,.int .i64 E1.c,.int .i64 E1.u,.slice s1 E1.sk.length sc1,.slice m1 E1.mv.length mc1] 48 (0,0)):=zH _ (zH _ (zJ _ rfl))
 have K2:(((w.alloc (.cells #[.string E1.id,.string E1.ti,.int .i64 E1.st,.int .i64 E1.lg,.string E1.f,.int .i64 E1.e,.slice r1 E1.ds.length rc1,.int .i64 E1.c,.int .i64 E1.u,.slice s1 E1.sk.length sc1,.slice m1 E1.mv.length mc1] 48)).alloc (.cells #[.string E2.id,.string E2.ti,.int .i64 E2.st,.int .i64 E2.lg,.string E2.f,.int .i64 E2.e,.slice r2 E2.ds.length rc2,.int .i64 E2.c,.int .i64 E2.u,.slice s2 E2.sk.length sc2,.slice m2 E2.mv.length mc2] 48)).alloc (.cells #[.string E3.id,.string E3.ti,.int .i64 E3.st,.int .i64 E3.lg,.string E3.f,.int .i64 E3.e,.slice r3 E3.ds.length rc3,.int .i64 E3.c,.int .i64 E3.u,.slice s3 E3.sk.length sc3,.slice m3 E3.mv.length mc3] 48)).heap[w.heap.size+1]? =some (.cells #[.string E2.id,.string E2.ti,.int .i64 E2.st,.int .i64 E2.lg,.string E2.f,.int .i64 E2.e,.slice r2 E2.ds.length rc2,.int .i64 E2.c,.int .i64 E2.u,.slice s2 E2.sk.length sc2,.slice m2 E2.mv.length mc2] 48 (0,0)):=zH _ (zJ _ (World.size_alloc _ _))
 have K3:(((w.alloc (.cells #[.string E1.id,.string E1.ti,.int .i64 E1.st,.int .i64 E1.lg,.string E1.f,.int .i64 E1.e,.slice r1 E1.ds.length rc1,.int .i64 E1.c,.int .i64 E1.u,.slice s1 E1.sk.length sc1,.slice m1 E1.mv.length mc1] 48)).alloc (.cells #[.string E2.id,.string E2.ti,.int .i64 E2.st,.int .i64 E2.lg,.string E2.f,.int .i64 E2.e,.slice r2 E2.ds.length rc2,.int .i64 E2.c,.int .i64 E2.u,.slice s2 E2.sk.length sc2,.slice m2 E2.mv.length mc2] 48)).alloc (.cells #[.string E3.id,.string E3.ti,.int .i64 E3.st,.int .i64 E3.lg,.string E3.f,.int .i64 E3.e,.slice r3 E3.ds.length rc3,.int .i64 E3.c,.int .i64 E3.u,.slice s3 E3.sk.length sc3,.slice m3 E3.mv.length mc3] 48)).heap[w.heap.size+1+1]? =some (.cells #[.string E3.id,.string E3.ti,.int .i64 E3.st,.int .i64 E3.lg,.string E3.f,.int .i64 E3.e,.slice r3 E3.ds.length rc3,.int .i64 E3.c,.int .i64 E3.u,.slice s3 E3.sk.length sc3,.slice m3 E3.mv.length mc3] 48 (0,0)):=zJ _ (by rw [World.size_alloc,World.size_alloc])
 obtain ⟨i0,hi,hz0,hz1,hz2⟩:=info_parts ye
 have HB:Hid (Below w.heap.size w (((w.alloc (.cells #[.string E1.id,.string E1.ti,.int .i64 E1.st,.int .i64 E1.lg,.string E1.f,.int .i64 E1.e,.slice r1 E1.ds.length rc1,.int .i64 E1.c,.int .i64 E1.u,.slice s1 E1.sk.length sc1,.slice m1 E1.mv.length mc1] 48)).alloc (.cells #[.string E2.id,.string E2.ti,.int .i64 E2.st,.int .i64 E2.lg,.string E2.f,.int .i64 E2.e,.slice r2 E2.ds.length rc2,.int .i64 E2.c,.int .i64 E2.u,.slice s2 E2.sk.length sc2,.slice m2 E2.mv.length mc2] 48)).alloc (.cells #[.string E3.id,.string E3.ti,.int .i64 E3.st,.int .i64 E3.lg,.string E3.f,.int .i64 E3.e,.slice r3 E3.ds.length rc3,.int .i64 E3.c,.int .i64 E3.u,.slice s3 E3.sk.length sc3,.slice m3 E3.mv.length mc3] 48))):=hB
 have HK1:Hid (_):=K1
 have HK2:Hid (_):=K2
 have HK3:Hid (_):=K3
 clear hB K1 K2 K3 JF
 go_enter Tryz.func46,Tryz.ntmps46
 go_upto_region 1 with (fail)
 generalize ((w.alloc (.cells #[.string E1.id,.string E1.ti,.int .i64 E1.st,.int .i64 E1.lg,.string E1.f,.int .i64 E1.e,.slice r1 E1.ds.length rc1,.int .i64 E1.c,.int .i64 E1.u,.slice s1 E1.sk.length sc1,.slice m1 E1.mv.length mc1] 48)).alloc (.cells #[.string E2.id,.string E2.ti,.int .i64 E2.st,.int .i64 E2.lg,.string E2.f,.int .i64 E2.e,.slice r2 E2.ds.length rc2,.int .i64 E2.c,.int .i64 E2.u,.slice s2 E2.sk.length sc2,.slice m2 E2.mv.length mc2] 48)).alloc (.cells #[.string E3.id,.string E3.ti,.int .i64 E3.st,.int .i64 E3.lg,.string E3.f,.int .i64 E3.e,.slice r3 E3.ds.length rc3,.int .i64 E3.c,.int .i64 E3.u,.slice s3 E3.sk.length sc3,.slice m3 E3.mv.length mc3] 48)=w0 at HB HK1 HK2 HK3 ⊢
 generalize w.heap.size+1+1=B3 at HK3 ⊢
 generalize w.heap.size+1=B2 at HK2 ⊢
 have BX1:Hid (∀ W,Below w0.heap.size w0 W→_):=fun W h=>zK ((h.block _ (Array.getElem?_eq_some_iff.1 HK1.out).1).trans HK1.out)
 have BX2:Hid (∀ W,Below w0.heap.size w0 W→_):=fun W h=>zK ((h.block _ (Array.getElem?_eq_some_iff.1 HK2.out).1).trans HK2.out)
 have BX3:Hid (∀ W,Below w0.heap.size w0 W→_):=fun W h=>zK ((h.block _ (Array.getElem?_eq_some_iff.1 HK3.out).1).trans HK3.out)
 have x0:=(BX1.out w0 (Below.refl _ _)).1
 clear HK1 HK2 HK3
 go_upto_region 3 with (fail)
 clear x0
 have T1:Hid (TwoR w0.heap.size (w0.heap.size+1) ((w0.alloc (.cells #[.string E1.id] 9)).alloc vD) (.slice (some ⟨w0.heap.size,0,none⟩) 1 1) (.slice none 0 0) (jTs E1 E2 E3 0) (jCs E1 E2 E3 0)):=by
  have hb1:((w0.alloc (.cells #[.string E1.id] 9)).alloc vD).heap[w0.heap.size]? =some (.cells #[.string E1.id] 9 (0,0)):=zH _ (zJ _ rfl)
  refine ⟨⟨rfl,.inr ⟨w0.heap.size,1,_,rfl,Nat.le_refl _,hb1,Nat.le_refl _,by decide,rfl,rfl⟩⟩,World.ownsRow_nil _ _ _ _,(fun b _ q=>by cases q),(fun q=> ?_),(fun q=>by cases q),by rw [World.size_alloc,World.size_alloc];omega,fun i hi=> ?_⟩
  ·simp [Value.ownBlock] at q
  ·have:=vE (w0.alloc (.cells #[.string E1.id] 9)) i hi
   rwa [World.size_alloc] at this
 have HB1:Hid (Below w0.heap.size w0 ((w0.alloc (.cells #[.string E1.id] 9)).alloc vD)):=zB (zC _ _) (zC _ _)
 have hs1:(w0.alloc (.cells #[.string E1.id] 9)).heap.size=w0.heap.size+1:=World.size_alloc _ _
 go_wp2_with (go_at_call 75;refine (vr _).mono ?_;rintro r w' ⟨rfl,rfl⟩)
 generalize (w0.alloc (.cells #[.string E1.id] 9)).alloc vD=w1 at T1 HB1 ⊢
 generalize w0.heap.size+1=nf at T1 ⊢
 clear hs1
 go_loopw [8,9,11,12,13,19] (fun pv cv _ _ _ i wr=> ∃ m:Nat,m≤6∧i= .int .i64 m∧Hid (Below w0.heap.size w0 wr)∧Hid (TwoR w0.heap.size nf wr pv cv (jTs E1 E2 E3 m) (jCs E1 E2 E3 m))) (fun _ _ _ _ _ i _=>6 - (intOf i).toNat)
 case atStart=>exact ⟨0,Nat.zero_le _,rfl,HB1.out,T1.out⟩
 case round=>
  obtain ⟨m,hm,rfl,HB2,HT⟩:=hrel
  by_cases hlt:m<6
  ·have hc1:=HT.out.fs m hlt
   have hcall:=JF'.out m hlt wr (zB HB.out HB2.out)
   obtain ⟨a0,a1,a2,a3,a4,a5,a6,a7,a8,a9,a10⟩:=BX1.out wr HB2.out
   obtain ⟨b0,b1,b2,b3,b4,b5,b6,b7,b8,b9,b10⟩:=BX2.out wr HB2.out
   obtain ⟨d0,d1,d2,d3,d4,d5,d6,d7,d8,d9,d10⟩:=BX3.out wr HB2.out
   have hpl:(jTs E1 E2 E3 m).length=m+1:=zep _ _ _ _
   have hcl:(jCs E1 E2 E3 m).length≤m:=zbr _ _ _ _
   have HTS:Hid (jTs E1 E2 E3 (m+1)=jTs E1 E2 E3 m++[(jF E1 E2 E3 m).1]):=zja _ _ _ _
   have HCY:Hid ((jF E1 E2 E3 m).2=true→jCs E1 E2 E3 (m+1)=jCs E1 E2 E3 m):=zkL
   have HCN:Hid ((jF E1 E2 E3 m).2=false→jCs E1 E2 E3 (m+1)=jCs E1 E2 E3 m++[zt m]):=zmd
   have HCL:Hid (Calls _ _ _ _ _):=hcall
   have hzw:w0.heap.size≤wr.heap.size:=HB2.out.size
   clear hcall JF'
   generalize jTs E1 E2 E3 m=ps at HT hpl HTS
   generalize jCs E1 E2 E3 m=cs at HT hcl HCY HCN
   generalize jF E1 E2 E3 m=jf at HCL HTS HCY HCN
   obtain ⟨jt,jk⟩:=jf
   dsimp only at HCL HTS HCY HCN
   generalize zt m=fb at hc1 HCL HCN
   obtain ⟨pa,pc,rfl⟩:=jx HT.out.p
   obtain ⟨ca,cc,rfl⟩:=jx HT.out.c
   have HPL:Hid (ps.length=m+1):=hpl
   clear hpl
   go_upto_region 7 with (go_at_call 78;refine Calls.mono HCL.out ?_;rintro r w2 ⟨rfl,hb2⟩)
   have HT2:Hid (TwoR w0.heap.size nf w2 (.slice pa ps.length pc) (.slice ca cs.length cc) ps cs):=HT.out.step hb2
   have HB3:Hid (Below w0.heap.size w0 w2):=zB HB2.out hb2
   have hz2w:w0.heap.size≤w2.heap.size:=HB3.out.size
   clear a0 a1 a2 a3 a4 a5 a6 a7 a8 a9 a10 b0 b1 b2 b3 b4 b5 b6 b7 b8 b9 b10 d0 d1 d2 d3 d4 d5 d6 d7 d8 d9 d10 HCL HT HB2 hb2 hc1
   cases jk with
   |true=>
    have HC':Hid (jCs E1 E2 E3 (m+1)=cs):=HCY.out rfl
    have NC:Hid (_):=xQ w2 jt
    have HT3:Hid (TwoR w0.heap.size nf (w2.alloc (.cells #[.string jt] 9)) (.slice pa ps.length pc) (.slice ca cs.length cc) ps cs):=HT2.out.step (zC _ _)
    clear HCY HCN HT2
    go_upto_region 10 with (first
     |(at_builtin;refine wpList_append_own_at _ rfl _ _ 51 rfl w0.heap.size 9 i0 (.string ⟨#[]⟩) 1 16 Tryz.underlying51 hi hz0 hz1 hz2 rfl (by decide) _ _ _ rfl HT3.out.p ⟨w2.heap.size,0,none⟩ 1 1 [.string jt] rfl rfl NC.out (fun v hv=>by rw [List.mem_singleton.1 hv];rfl) (by have:=HPL.out;unfold maxLen;omega) (by have:=HPL.out;omega) (by rw [World.size_alloc];omega) ?_;intro v' w3 hown' hgrow _ hat;have HT4:Hid (TwoR w0.heap.size nf w3 v' (.slice ca cs.length cc) (ps++[jt]) cs):=HT3.out.addP hown' hgrow hat;have HB4:Hid (Below w0.heap.size w0 w3):=(zB HB3.out (zC w2 (.cells #[.string jt] 9))).grown hgrow (by rw [World.size_alloc];omega) (fun k q=>(World.ownsRow.lt HT3.out.p k q).1);obtain ⟨g',cap',rfl⟩:=ownsRow_succ hown';clear hown' hgrow hat)
     |go_in)
    clear HT3 NC HB3
    go_wp2
    go_roundw
    case rel=>exact ⟨m+1,by omega,by go_num,HB4.out,by rw [HTS.out,HC'.out];exact HT4.out⟩
    case measure=>simp [intOf];omega
   |false=>
    have HC':Hid (jCs E1 E2 E3 (m+1)=cs++[fb]):=HCN.out rfl
    have NC:Hid (_):=xQ w2 fb
    have HT3:Hid (TwoR w0.heap.size nf (w2.alloc (.cells #[.string fb] 9)) (.slice pa ps.length pc) (.slice ca cs.length cc) ps cs):=HT2.out.step (zC _ _)
    clear HCY HCN HT2
    go_upto_region 9 with (first
     |(at_builtin;refine wpList_append_own_at _ rfl _ _ 51 rfl w0.heap.size 9 i0 (.string ⟨#[]⟩) 1 16 Tryz.underlying51 hi hz0 hz1 hz2 rfl (by decide) _ _ _ rfl HT3.out.c ⟨w2.heap.size,0,none⟩ 1 1 [.string fb] rfl rfl NC.out (fun v hv=>by rw [List.mem_singleton.1 hv];rfl) (by unfold maxLen;omega) (by omega) (by rw [World.size_alloc];omega) ?_;intro v' w3 hown' hgrow _ hat;have HT4:Hid (TwoR w0.heap.size nf w3 (.slice pa ps.length pc) v' ps (cs++[fb])):=HT3.out.addC hown' hgrow hat;have HB4:Hid (Below w0.heap.size w0 w3):=(zB HB3.out (zC w2 (.cells #[.string fb] 9))).grown hgrow (by rw [World.size_alloc];omega) (fun k q=>(World.ownsRow.lt HT3.out.c k q).1);obtain ⟨g',cap',rfl⟩:=ownsRow_succ hown';clear hown' hgrow hat)
     |go_in)
    have NC':Hid (_):=xQ w3 jt
    have HT5:Hid (TwoR w0.heap.size nf (w3.alloc (.cells #[.string jt] 9)) (.slice pa ps.length pc) (.slice (some ⟨g',0,none⟩) (cs.length+1) cap') ps (cs++[fb])):=HT4.out.step (zC _ _)
    have hz3w:w0.heap.size≤w3.heap.size:=HB4.out.size
    clear HT3 NC HB3 HT4
    go_upto_region 10 with (first
     |(at_builtin;refine wpList_append_own_at _ rfl _ _ 51 rfl w0.heap.size 9 i0 (.string ⟨#[]⟩) 1 16 Tryz.underlying51 hi hz0 hz1 hz2 rfl (by decide) _ _ _ rfl HT5.out.p ⟨w3.heap.size,0,none⟩ 1 1 [.string jt] rfl rfl NC'.out (fun v hv=>by rw [List.mem_singleton.1 hv];rfl) (by have:=HPL.out;unfold maxLen;omega) (by have:=HPL.out;omega) (by rw [World.size_alloc];omega) ?_;intro v' w4 hown' hgrow _ hat;have HT6:Hid (TwoR w0.heap.size nf w4 v' (.slice (some ⟨g',0,none⟩) (cs.length+1) cap') (ps++[jt]) (cs++[fb])):=HT5.out.addP hown' hgrow hat;have HB5:Hid (Below w0.heap.size w0 w4):=(zB HB4.out (zC w3 (.cells #[.string jt] 9))).grown hgrow (by rw [World.size_alloc];omega) (fun k q=>(World.ownsRow.lt HT5.out.p k q).1);obtain ⟨g2,cap2,rfl⟩:=ownsRow_succ hown';clear hown' hgrow hat)
     |go_in)
    clear HT5 NC' HB4
    go_wp2
    go_roundw
    case rel=>exact ⟨m+1,by omega,by go_num,HB5.out,by rw [HTS.out,HC'.out];exact HT6.out⟩
    case measure=>simp [intOf];omega
  ·have h6:m=6:=by omega
   subst h6
   have hpl:(jTs E1 E2 E3 6).length=7:=zep _ _ _ _
   have hcl:(jCs E1 E2 E3 6).length≤6:=zbr _ _ _ _
   have HPL:Hid (_):=hpl
   clear JF' BX1 BX2 BX3 hpl T1 HB1
   obtain ⟨ps,hps⟩: ∃ ps,jTs E1 E2 E3 6=ps:=⟨_,rfl⟩
   obtain ⟨cs,hcs⟩: ∃ cs,jCs E1 E2 E3 6=cs:=⟨_,rfl⟩
   rw [hps] at HT HPL HLEN
   rw [hcs] at HT hcl
   have HPS:Hid (jTs E1 E2 E3 6=ps):=hps
   have HCS:Hid (jCs E1 E2 E3 6=cs):=hcs
   clear hps hcs
   obtain ⟨pa,pc,rfl⟩:=jx HT.out.p
   have JN:Hid (Calls Tryz.prog 77 #[.slice pa ps.length pc,.string ⟨#[124]⟩] wr fun r w'=>r= .returned (.string (bs (Lib.join (ps.map fun b=>b.data.toList) [124])))∧Below wr.heap.size wr w'):=by
    have ho:wr.ownsRow w0.heap.size 9 1 (.slice pa ps.length pc) (ps.map fun b=>b.data.toList).length ((ps.map fun b=>b.data.toList).map sv):=by
     rw [List.length_map,List.map_map]
     exact HT.out.p
    exact zaY (.slice pa ps.length pc) w0.heap.size (ps.map fun b=>b.data.toList) [124] wr (fun q=>by have:=HPL.out;rw [List.map_eq_nil_iff] at q;rw [q] at this;cases this) ho (by rw [List.length_map,HPL.out];decide) HLEN.out
   obtain ⟨ca,cc,rfl⟩:=jx HT.out.c
   by_cases hc0:cs=[]
   ·subst hc0
    clear HT
    dsimp only [List.length_nil]
    go_wp2_with (go_at_call 77;refine Calls.mono JN.out ?_;rintro r w5 ⟨rfl,hb5⟩)
    go_ret2
    exact ⟨zB HB.out (zB HB2.out hb5),.inl ⟨HCS.out,by rw [HPS.out];rfl⟩⟩
   ·have hcp:0<cs.length:=List.length_pos_iff.2 hc0
    have HC0:Hid (cs≠[]):=hc0
    clear hc0 JN
    go_wp2
    go_ret2
    exact ⟨zB HB.out HB2.out,.inr ⟨by rw [HCS.out];exact HC0.out,_,rfl,by rw [HCS.out];exact zW HT.out.c HB.out.size⟩⟩
end Go.Proofs.YtpeafgddbbojaaaGreatDoor
namespace Go.Proofs.YtpeafgddbbojaaaGreatDoor
open Go Go.RowKit Go.Maps Go.Sort Cal
theorem zcD(l1 l2 l3:List (Int×Int)):((jMv l1 l2 l3).getD []).length≤l2.length+l3.length:=by
 cases hq:jMv l1 l2 l3 with
 |none=>simp
 |some q=>
  obtain ⟨_,a2⟩:=zdC l1 l2 l3 (fun _=>True) (fun _ _=>trivial) (fun _ _=>trivial) _ [] q (fun m hm=>trivial) hq
  refine Nat.le_trans a2 ?_
  have:=jS (l2.map Prod.fst) (l3.map Prod.fst)
  simp only [List.length_map] at this
  simpa using this
theorem zeq(l1 l2 l3:List Int):(jSk l1 l2 l3).length≤l2.length+l3.length:=Nat.le_trans (List.length_filter_le _ _) (jS _ _)
theorem zfl(l:List UInt8):(bs l).data.toList.length=l.length:=rfl
theorem zme{E1 E2 E3:EV}(h2:EW E2)(h3:EW E3)(d2:E2.ds.length≤20)(d3:E3.ds.length≤20)(k:Nat):(jF E1 E2 E3 k).1.data.toList.length≤1000:=by
 obtain ⟨k2,m2,_⟩:=yX h2.ls
 obtain ⟨k3,m3,_⟩:=yX h3.ls
 unfold jF
 cases hz:yD (bs (fT E1 k)) (bs (fT E2 k)) (bs (fT E3 k)) with
 |some t=>
  dsimp only
  rcases zhD hz with rfl|rfl
  ·rw [zfl];exact za9 h2 d2 k
  ·rw [zfl];exact za9 h3 d3 k
 |none=>
  dsimp only
  split
  ·rw [zfl]
   have:=yT ((jSk E1.sk E2.sk E3.sk).map dtx) [44] 10 (fun y hy=>by obtain ⟨x,_,rfl⟩:=List.mem_map.1 hy;exact yP x)
   rw [List.length_map] at this
   have h31:(jSk E1.sk E2.sk E3.sk).length*(10+[(44:UInt8)].length)≤40*11:=Nat.mul_le_mul (Nat.le_trans (zeq _ _ _) (by omega)) (by simp)
   omega
  ·split
   ·rw [zfl]
    have:=yT (((jMv E1.mv E2.mv E3.mv).getD []).map mtx) [44] 21 (fun y hy=>by obtain ⟨x,_,rfl⟩:=List.mem_map.1 hy;exact jJ x)
    rw [List.length_map] at this
    have h31:((jMv E1.mv E2.mv E3.mv).getD []).length*(21+[(44:UInt8)].length)≤40*22:=Nat.mul_le_mul (Nat.le_trans (zcD _ _ _) (by omega)) (by simp)
    omega
   ·exact Nat.zero_le _
theorem zhE{E1 E2 E3:EV}(h1:EW E1)(h2:EW E2)(h3:EW E3)(d2:E2.ds.length≤20)(d3:E3.ds.length≤20):(Lib.join ((jTs E1 E2 E3 6).map fun b=>b.data.toList) [124]).length≤10000:=by
 have:=yT ((jTs E1 E2 E3 6).map fun b=>b.data.toList) [124] 1000 (fun y hy=>by
  obtain ⟨b,hb,rfl⟩:=List.mem_map.1 hy
  unfold jTs at hb
  rcases List.mem_cons.1 hb with rfl|hb
  ·have:=h1.id.2.2;rw [Array.length_toList];have e:E1.id.data.size=E1.id.size:=rfl;omega
  ·obtain ⟨k,_,rfl⟩:=List.mem_map.1 hb
   exact zme h2 h3 d2 d3 k)
 rw [List.length_map,zep] at this
 exact Nat.le_trans this (by simp)
end Go.Proofs.YtpeafgddbbojaaaGreatDoor
namespace Go.Proofs.YtpeafgddbbojaaaGreatDoor
open Go Go.RowKit Go.Maps Go.Sort Cal
attribute [local go_sem] Oper.semAt_some
set_option maxHeartbeats 4000000 in
set_option maxRecDepth 100000 in
theorem zkl(bb n:Nat)(mo:Option Nat)(D:DataW Value)(id:ByteArray)(E:EV)(sl skv mvv:Value)(w:World)(h:Bok w bb mo n D)(hid:id.size≤1000)(hat:D.atKey (key id) (.held zV)= .held (ev E sl skv mvv))(hL:Ls w E sl skv mvv)(k20:E.sk.length≤20)(m20:E.mv.length≤20):
  Calls Tryz.prog 43 #[.pointer (some ⟨bb,0,none⟩),.string id] w fun r w'=> ∃ sl' skv' mvv',r= .returned (.tuple #[ev E sl' skv' mvv',.bool (Maps.has D (key id))])∧Ls w' E sl' skv' mvv'∧Below w.heap.size w w':=by
 have HD20:Hid (E.ds.length≤20):=by obtain ⟨_,_,_,q,_⟩:=hL.d;exact q
 have HL:Hid (Ls w E sl skv mvv):=hL
 obtain ⟨hd,hs,hm⟩:=hL
 obtain ⟨ra,rc,rfl,_⟩:=hd
 obtain ⟨sa,sc,rfl,_⟩:=hs
 obtain ⟨ma,mc,rfl,_⟩:=hm
 unfold ev at hat
 have hA:=zC w (.cells #[.string ⟨#[]⟩,.string ⟨#[]⟩,.int .i64 0,.int .i64 0,.string ⟨#[]⟩,.int .i64 0,.slice none 0 0,.int .i64 0,.int .i64 0,.slice none 0 0,.slice none 0 0] 48)
 have kR:(w.alloc (.cells #[.string ⟨#[]⟩,.string ⟨#[]⟩,.int .i64 0,.int .i64 0,.string ⟨#[]⟩,.int .i64 0,.slice none 0 0,.int .i64 0,.int .i64 0,.slice none 0 0,.slice none 0 0] 48)).heap[w.heap.size]? =some (.cells #[.string ⟨#[]⟩,.string ⟨#[]⟩,.int .i64 0,.int .i64 0,.string ⟨#[]⟩,.int .i64 0,.slice none 0 0,.int .i64 0,.int .i64 0,.slice none 0 0,.slice none 0 0] 48 (0,0)):=zJ _ rfl
 have hz:(w.alloc (.cells #[.string ⟨#[]⟩,.string ⟨#[]⟩,.int .i64 0,.int .i64 0,.string ⟨#[]⟩,.int .i64 0,.slice none 0 0,.int .i64 0,.int .i64 0,.slice none 0 0,.slice none 0 0] 48)).heap.size=w.heap.size+1:=World.size_alloc _ _
 have AL:Hid (Calls _ _ _ _ _):=zck bb mo n D _ (h.step hA)
 have LK:=zgS (h.step hA) hid hat
 have HA:Hid (_):=hA
 have KR:Hid (_):=kR
 have HZ:Hid (_):=hz
 clear hA kR hz hat h
 unfold ev
 go_enter Tryz.func43,Tryz.ntmps43
 generalize hw0:w.alloc (.cells #[.string ⟨#[]⟩,.string ⟨#[]⟩,.int .i64 0,.int .i64 0,.string ⟨#[]⟩,.int .i64 0,.slice none 0 0,.int .i64 0,.int .i64 0,.slice none 0 0,.slice none 0 0] 48)=w0 at AL LK HA KR HZ
 go_upto_region 2 with (first
  |(go_at_call 36;refine Calls.mono AL.out ?_;rintro r w' ⟨rfl,hq⟩;have hq:=hq.symm;subst hq)
  |go_in)
 have KE:Hid (EB (w0.alloc (.cells #[.string E.id,.string E.ti,.int .i64 E.st,.int .i64 E.lg,.string E.f,.int .i64 E.e,.slice ra E.ds.length rc,.int .i64 E.c,.int .i64 E.u,.slice sa E.sk.length sc,.slice ma E.mv.length mc] 48)) w0.heap.size E (.slice ra E.ds.length rc) (.slice sa E.sk.length sc) (.slice ma E.mv.length mc)):=EB.new w0 E _ _ _
 have LE:Hid (Ls (w0.alloc (.cells #[.string E.id,.string E.ti,.int .i64 E.st,.int .i64 E.lg,.string E.f,.int .i64 E.e,.slice ra E.ds.length rc,.int .i64 E.c,.int .i64 E.u,.slice sa E.sk.length sc,.slice ma E.mv.length mc] 48)) E (.slice ra E.ds.length rc) (.slice sa E.sk.length sc) (.slice ma E.mv.length mc)):=HL.out.step (zB HA.out (zC _ _))
 have KR1:Hid ((w0.alloc (.cells #[.string E.id,.string E.ti,.int .i64 E.st,.int .i64 E.lg,.string E.f,.int .i64 E.e,.slice ra E.ds.length rc,.int .i64 E.c,.int .i64 E.u,.slice sa E.sk.length sc,.slice ma E.mv.length mc] 48)).heap[w.heap.size]? =some (.cells #[.string ⟨#[]⟩,.string ⟨#[]⟩,.int .i64 0,.int .i64 0,.string ⟨#[]⟩,.int .i64 0,.slice none 0 0,.int .i64 0,.int .i64 0,.slice none 0 0,.slice none 0 0] 48 (0,0))):=zH _ KR.out
 have B1:Hid (Below w.heap.size w (w0.alloc (.cells #[.string E.id,.string E.ti,.int .i64 E.st,.int .i64 E.lg,.string E.f,.int .i64 E.e,.slice ra E.ds.length rc,.int .i64 E.c,.int .i64 E.u,.slice sa E.sk.length sc,.slice ma E.mv.length mc] 48))):=zB HA.out (zC _ _)
 have hs1:w.heap.size+1≤(w0.alloc (.cells #[.string E.id,.string E.ti,.int .i64 E.st,.int .i64 E.lg,.string E.f,.int .i64 E.e,.slice ra E.ds.length rc,.int .i64 E.c,.int .i64 E.u,.slice sa E.sk.length sc,.slice ma E.mv.length mc] 48)).heap.size:=by rw [World.size_alloc,HZ.out];omega
 clear AL LK HA KR HZ HL
 generalize w0.alloc (.cells #[.string E.id,.string E.ti,.int .i64 E.st,.int .i64 E.lg,.string E.f,.int .i64 E.e,.slice ra E.ds.length rc,.int .i64 E.c,.int .i64 E.u,.slice sa E.sk.length sc,.slice ma E.mv.length mc] 48)=w1 at KE LE KR1 B1 hs1 ⊢
 generalize w0.heap.size=be at KE ⊢
 have CP:=je E _ _ _ w1 LE.out k20 m20
 unfold ev at CP
 have HCP:Hid (Calls _ _ _ _ _):=CP
 clear CP LE
 obtain ⟨x0,x1,x2,x3,x4,x5,x6,x7,x8,x9,x10⟩:=zK (show w1.heap[be]? =_ from KE.out)
 have m8:E.mv.length≤80000:=by omega
 go_wp2_with (go_at_call 63;refine Calls.mono HCP.out ?_;rintro r w5 ⟨sl2,sk2,mv2,rfl,ho1,ho2,ho3,hb5⟩;obtain ⟨r2,rc2,rfl⟩:=zw ho1;obtain ⟨s2,sc2,rfl⟩:=zw ho2;obtain ⟨m2,mc2,rfl⟩:=zo (zr ho3 m8).2;have KR5:Hid (w5.heap[w.heap.size]? =some (.cells #[.string ⟨#[]⟩,.string ⟨#[]⟩,.int .i64 0,.int .i64 0,.string ⟨#[]⟩,.int .i64 0,.slice none 0 0,.int .i64 0,.int .i64 0,.slice none 0 0,.slice none 0 0] 48 (0,0))):=(hb5.block _ (Nat.lt_of_succ_le hs1)).trans KR1.out;obtain ⟨t0,t1,t2,t3,t4,t5,t6,t7,t8,t9,t10⟩:=zK KR5.out;obtain ⟨f0,f1,f2,f3,f4,f5,f6,f7,f8,f9,f10⟩:=frz KR5.out)
 rw [zX]
 have n10:=zk (.string E.id) (.string E.ti) (.int .i64 E.st) (.int .i64 E.lg) (.string E.f) (.int .i64 E.e) (.slice r2 E.ds.length rc2) (.int .i64 E.c) (.int .i64 E.u) (.slice s2 E.sk.length sc2) (.slice m2 E.mv.length mc2) KR5.out
 have g7:=zT w5 w.heap.size (.string E.id) (.string E.ti) (.int .i64 E.st) (.int .i64 E.lg) (.string E.f) (.int .i64 E.e) (.slice r2 E.ds.length rc2) (.int .i64 E.c) (.int .i64 E.u) (.slice s2 E.sk.length sc2) (.slice m2 E.mv.length mc2)
 clear x0 x1 x2 x3 x4 x5 x6 x7 x8 x9 x10 t0 t1 t2 t3 t4 t5 t6 t7 t8 t9 t10 f0 f1 f2 f3 f4 f5 f6 f7 f8 f9 f10
 have o1:=Ow.grown ho1 g7 (by omega)
 have o2:=Ow.grown ho2 g7 (by omega)
 have o3:=OwM.grown ho3 g7 (by omega)
 generalize yI w5 w.heap.size (.string E.id) (.string E.ti) (.int .i64 E.st) (.int .i64 E.lg) (.string E.f) (.int .i64 E.e) (.slice r2 E.ds.length rc2) (.int .i64 E.c) (.int .i64 E.u) (.slice s2 E.sk.length sc2) (.slice m2 E.mv.length mc2)=w7 at n10 g7 o1 o2 o3 ⊢
 obtain ⟨c0,c1,c2,c3,c4,c5,c6,c7,c8,c9,c10⟩:=zK n10
 refine bodyPost_ret (v:= .tuple #[.agg #[.string E.id,.string E.ti,.int .i64 E.st,.int .i64 E.lg,.string E.f,.int .i64 E.e,.slice r2 E.ds.length rc2,.int .i64 E.c,.int .i64 E.u,.slice s2 E.sk.length sc2,.slice m2 E.mv.length mc2],.bool (Maps.has D (key id))]) (by simp [results,Tryz.f43,go_sem,c0,c1,c2,c3,c4,c5,c6,c7,c8,c9,c10]) rfl ⟨_,_,_,rfl,⟨xP o1 HD20.out,xh o2 (by omega),(zr o3 m8).1⟩,(zB B1.out hb5).grown g7 (zB B1.out hb5).size (fun k q=>by cases q;exact Nat.le_refl _)⟩
def zE:EV:=⟨⟨#[]⟩,⟨#[]⟩,0,0,⟨#[]⟩,0,[],0,0,[],[]⟩
theorem zlH(lo bb n:Nat)(mo:Option Nat)(C:List EV)(id:ByteArray)(hid:id.size≤1000)(hn: ¬ ∃ E∈C,E.id=id)(w:World)(h:BookAt lo w bb mo n C):
  Calls Tryz.prog 43 #[.pointer (some ⟨bb,0,none⟩),.string id] w fun r w'=> ∃ sl' skv' mvv',r= .returned (.tuple #[ev zE sl' skv' mvv',.bool false])∧Ls w' zE sl' skv' mvv'∧Below w.heap.size w w':=by
 obtain ⟨D,h1,h2,h3,h4⟩:=h
 have hh:Maps.has D (key id)=false:=by
  cases hq:Maps.has D (key id) with
  |false=>rfl
  |true=>exact absurd ((h4.hasE id).1 hq) hn
 have:=zkl bb n mo D id zE (.slice none 0 0) (.slice none 0 0) (.slice none 0 0) w h1 hid (Maps.atKey_of_not_has hh (.held zV)) ⟨Days.nil _ _,Ints.nil _ _,Movs.nil _ _⟩ (by decide) (by decide)
 rwa [hh] at this
theorem zng:EvK zE 4:= .inl ⟨fun h=>by have:=h.2.1;exact absurd this (by decide),rfl⟩
theorem ziV(sl skv mvv:Value)(s:Nat→Addr)(w:World)(gk:GlobK s w)(hL:Ls w zE sl skv mvv):
  Calls Tryz.prog 45 #[ev zE sl skv mvv] w fun r w'=>r= .returned (.string (bs []))∧Below w.heap.size w w':=by
 obtain ⟨hd,hs,hm⟩:=hL
 have CK:Hid (∀ W,Below w.heap.size w W→Calls _ _ _ W _):=fun W hW=>vW zE sl skv mvv 4 s W (gk.step hW) (hd.step hW) (hs.step hW) (hm.step hW) (by decide) (by decide) zng
 obtain ⟨p,hp⟩:=zbb (s:=s) (k:=4) (by decide)
 rw [hp] at CK
 clear hp
 obtain ⟨ra,rc,rfl,_⟩:=hd
 obtain ⟨sa,sc,rfl,_⟩:=hs
 obtain ⟨ma,mc,rfl,_⟩:=hm
 unfold ev zE at CK ⊢
 dsimp only at CK ⊢
 go_enter Tryz.func45,Tryz.ntmps45
 go_wp2_with (go_at_call 32;refine Calls.mono (CK.out _ (zC _ _)) ?_;rintro r w1 ⟨rfl,hb1⟩)
 go_ret
 exact ⟨rfl,zB (zC _ _) hb1⟩
end Go.Proofs.YtpeafgddbbojaaaGreatDoor
namespace Go.Proofs.YtpeafgddbbojaaaGreatDoor
open Go Go.RowKit Go.Maps Cal
attribute [local go_sem] Oper.semAt_some
set_option maxHeartbeats 4000000 in
set_option maxRecDepth 100000 in
theorem zhF(bb mb n:Nat)(D:DataW Value)(id:ByteArray)(E:EV)(sl skv mvv:Value)(w:World)(h:Bok w bb (some mb) n D)(hid:id.size≤1000)(hat:D.atKey (key id) (.held zV)= .held (ev E sl skv mvv))(hL:Ls w E sl skv mvv)(k20:E.sk.length≤20)(m20:E.mv.length≤20):
  Calls Tryz.prog 43 #[.pointer (some ⟨bb,0,none⟩),.string id] w fun r w'=> ∃ sl' skv' mvv',r= .returned (.tuple #[ev E sl' skv' mvv',.bool (Maps.has D (key id))])∧Ls w' E sl' skv' mvv'∧Got w' skv' E.sk∧Below w.heap.size w w':=by
 have HD20:Hid (E.ds.length≤20):=by obtain ⟨_,_,_,q,_⟩:=hL.d;exact q
 have HL:Hid (Ls w E sl skv mvv):=hL
 obtain ⟨hd,hs,hm⟩:=hL
 obtain ⟨ra,rc,rfl,_⟩:=hd
 obtain ⟨sa,sc,rfl,_⟩:=hs
 obtain ⟨ma,mc,rfl,_⟩:=hm
 unfold ev at hat
 have hA:=zC w (.cells #[.string ⟨#[]⟩,.string ⟨#[]⟩,.int .i64 0,.int .i64 0,.string ⟨#[]⟩,.int .i64 0,.slice none 0 0,.int .i64 0,.int .i64 0,.slice none 0 0,.slice none 0 0] 48)
 have kR:(w.alloc (.cells #[.string ⟨#[]⟩,.string ⟨#[]⟩,.int .i64 0,.int .i64 0,.string ⟨#[]⟩,.int .i64 0,.slice none 0 0,.int .i64 0,.int .i64 0,.slice none 0 0,.slice none 0 0] 48)).heap[w.heap.size]? =some (.cells #[.string ⟨#[]⟩,.string ⟨#[]⟩,.int .i64 0,.int .i64 0,.string ⟨#[]⟩,.int .i64 0,.slice none 0 0,.int .i64 0,.int .i64 0,.slice none 0 0,.slice none 0 0] 48 (0,0)):=zJ _ rfl
 have hz:(w.alloc (.cells #[.string ⟨#[]⟩,.string ⟨#[]⟩,.int .i64 0,.int .i64 0,.string ⟨#[]⟩,.int .i64 0,.slice none 0 0,.int .i64 0,.int .i64 0,.slice none 0 0,.slice none 0 0] 48)).heap.size=w.heap.size+1:=World.size_alloc _ _
 have AL:Hid (Calls _ _ _ _ _):=zck bb (some mb) n D _ (h.step hA)
 have HO:Hid (World.ownsMap _ _ _ _ _ _ _):=(h.step hA).2.2
 have HAT:Hid (D.atKey (key id) (.held zV)= .held (.agg #[.string E.id,.string E.ti,.int .i64 E.st,.int .i64 E.lg,.string E.f,.int .i64 E.e,.slice ra E.ds.length rc,.int .i64 E.c,.int .i64 E.u,.slice sa E.sk.length sc,.slice ma E.mv.length mc])):=hat
 have HKY:Hid (keyOf Tryz.prog 9 (.string id)=some (key id)):=zaD hid
 have HA:Hid (_):=hA
 have KR:Hid (_):=kR
 have HZ:Hid (_):=hz
 clear hA kR hz hat h
 unfold ev
 go_enter Tryz.func43,Tryz.ntmps43
 generalize hw0:w.alloc (.cells #[.string ⟨#[]⟩,.string ⟨#[]⟩,.int .i64 0,.int .i64 0,.string ⟨#[]⟩,.int .i64 0,.slice none 0 0,.int .i64 0,.int .i64 0,.slice none 0 0,.slice none 0 0] 48)=w0 at AL HO HA KR HZ
 go_upto_region 2 with (first
  |(go_at_call 36;refine Calls.mono AL.out ?_;rintro r w' ⟨rfl,hq⟩;have hq:=hq.symm;subst hq)
  |(at_lookup;refine jh _ rfl _ _ rfl mb n D rfl HO.out _ (key id) rfl HKY.out _ HAT.out ?_)
  |go_in)
 have KE:Hid (EB (w0.alloc (.cells #[.string E.id,.string E.ti,.int .i64 E.st,.int .i64 E.lg,.string E.f,.int .i64 E.e,.slice ra E.ds.length rc,.int .i64 E.c,.int .i64 E.u,.slice sa E.sk.length sc,.slice ma E.mv.length mc] 48)) w0.heap.size E (.slice ra E.ds.length rc) (.slice sa E.sk.length sc) (.slice ma E.mv.length mc)):=EB.new w0 E _ _ _
 have LE:Hid (Ls (w0.alloc (.cells #[.string E.id,.string E.ti,.int .i64 E.st,.int .i64 E.lg,.string E.f,.int .i64 E.e,.slice ra E.ds.length rc,.int .i64 E.c,.int .i64 E.u,.slice sa E.sk.length sc,.slice ma E.mv.length mc] 48)) E (.slice ra E.ds.length rc) (.slice sa E.sk.length sc) (.slice ma E.mv.length mc)):=HL.out.step (zB HA.out (zC _ _))
 have KR1:Hid ((w0.alloc (.cells #[.string E.id,.string E.ti,.int .i64 E.st,.int .i64 E.lg,.string E.f,.int .i64 E.e,.slice ra E.ds.length rc,.int .i64 E.c,.int .i64 E.u,.slice sa E.sk.length sc,.slice ma E.mv.length mc] 48)).heap[w.heap.size]? =some (.cells #[.string ⟨#[]⟩,.string ⟨#[]⟩,.int .i64 0,.int .i64 0,.string ⟨#[]⟩,.int .i64 0,.slice none 0 0,.int .i64 0,.int .i64 0,.slice none 0 0,.slice none 0 0] 48 (0,0))):=zH _ KR.out
 have B1:Hid (Below w.heap.size w (w0.alloc (.cells #[.string E.id,.string E.ti,.int .i64 E.st,.int .i64 E.lg,.string E.f,.int .i64 E.e,.slice ra E.ds.length rc,.int .i64 E.c,.int .i64 E.u,.slice sa E.sk.length sc,.slice ma E.mv.length mc] 48))):=zB HA.out (zC _ _)
 have hs1:w.heap.size+1≤(w0.alloc (.cells #[.string E.id,.string E.ti,.int .i64 E.st,.int .i64 E.lg,.string E.f,.int .i64 E.e,.slice ra E.ds.length rc,.int .i64 E.c,.int .i64 E.u,.slice sa E.sk.length sc,.slice ma E.mv.length mc] 48)).heap.size:=by rw [World.size_alloc,HZ.out];omega
 clear AL HO HAT HKY HA KR HZ HL
 generalize w0.alloc (.cells #[.string E.id,.string E.ti,.int .i64 E.st,.int .i64 E.lg,.string E.f,.int .i64 E.e,.slice ra E.ds.length rc,.int .i64 E.c,.int .i64 E.u,.slice sa E.sk.length sc,.slice ma E.mv.length mc] 48)=w1 at KE LE KR1 B1 hs1 ⊢
 generalize w0.heap.size=be at KE ⊢
 have CP:=je E _ _ _ w1 LE.out k20 m20
 unfold ev at CP
 have HCP:Hid (Calls _ _ _ _ _):=CP
 clear CP LE
 obtain ⟨x0,x1,x2,x3,x4,x5,x6,x7,x8,x9,x10⟩:=zK (show w1.heap[be]? =_ from KE.out)
 have m8:E.mv.length≤80000:=by omega
 go_wp2_with (go_at_call 63;refine Calls.mono HCP.out ?_;rintro r w5 ⟨sl2,sk2,mv2,rfl,ho1,ho2,ho3,hb5⟩;obtain ⟨r2,rc2,rfl⟩:=zw ho1;obtain ⟨s2,sc2,rfl⟩:=zw ho2;obtain ⟨m2,mc2,rfl⟩:=zo (zr ho3 m8).2;have KR5:Hid (w5.heap[w.heap.size]? =some (.cells #[.string ⟨#[]⟩,.string ⟨#[]⟩,.int .i64 0,.int .i64 0,.string ⟨#[]⟩,.int .i64 0,.slice none 0 0,.int .i64 0,.int .i64 0,.slice none 0 0,.slice none 0 0] 48 (0,0))):=(hb5.block _ (Nat.lt_of_succ_le hs1)).trans KR1.out;obtain ⟨t0,t1,t2,t3,t4,t5,t6,t7,t8,t9,t10⟩:=zK KR5.out;obtain ⟨f0,f1,f2,f3,f4,f5,f6,f7,f8,f9,f10⟩:=frz KR5.out)
 rw [zX]
 have n10:=zk (.string E.id) (.string E.ti) (.int .i64 E.st) (.int .i64 E.lg) (.string E.f) (.int .i64 E.e) (.slice r2 E.ds.length rc2) (.int .i64 E.c) (.int .i64 E.u) (.slice s2 E.sk.length sc2) (.slice m2 E.mv.length mc2) KR5.out
 have g7:=zT w5 w.heap.size (.string E.id) (.string E.ti) (.int .i64 E.st) (.int .i64 E.lg) (.string E.f) (.int .i64 E.e) (.slice r2 E.ds.length rc2) (.int .i64 E.c) (.int .i64 E.u) (.slice s2 E.sk.length sc2) (.slice m2 E.mv.length mc2)
 clear x0 x1 x2 x3 x4 x5 x6 x7 x8 x9 x10 t0 t1 t2 t3 t4 t5 t6 t7 t8 t9 t10 f0 f1 f2 f3 f4 f5 f6 f7 f8 f9 f10
 have o1:=Ow.grown ho1 g7 (by omega)
 have o2:=Ow.grown ho2 g7 (by omega)
 have o3:=OwM.grown ho3 g7 (by omega)
 generalize yI w5 w.heap.size (.string E.id) (.string E.ti) (.int .i64 E.st) (.int .i64 E.lg) (.string E.f) (.int .i64 E.e) (.slice r2 E.ds.length rc2) (.int .i64 E.c) (.int .i64 E.u) (.slice s2 E.sk.length sc2) (.slice m2 E.mv.length mc2)=w7 at n10 g7 o1 o2 o3 ⊢
 obtain ⟨c0,c1,c2,c3,c4,c5,c6,c7,c8,c9,c10⟩:=zK n10
 refine bodyPost_ret (v:= .tuple #[.agg #[.string E.id,.string E.ti,.int .i64 E.st,.int .i64 E.lg,.string E.f,.int .i64 E.e,.slice r2 E.ds.length rc2,.int .i64 E.c,.int .i64 E.u,.slice s2 E.sk.length sc2,.slice m2 E.mv.length mc2],.bool (Maps.has D (key id))]) (by simp [results,Tryz.f43,go_sem,c0,c1,c2,c3,c4,c5,c6,c7,c8,c9,c10]) rfl ⟨_,_,_,rfl,⟨xP o1 HD20.out,xh o2 (by omega),(zr o3 m8).1⟩,yq o2,(zB B1.out hb5).grown g7 (zB B1.out hb5).size (fun k q=>by cases q;exact Nat.le_refl _)⟩
theorem zmf(lo bb n:Nat)(mo:Option Nat)(C:List EV)(E:EV)(hE:E∈C)(w:World)(h:BookAt lo w bb mo n C):
  Calls Tryz.prog 43 #[.pointer (some ⟨bb,0,none⟩),.string E.id] w fun r w'=> ∃ sl' skv' mvv',r= .returned (.tuple #[ev E sl' skv' mvv',.bool true])∧Ls w' E sl' skv' mvv'∧Got w' skv' E.sk∧Below w.heap.size w w':=by
 obtain ⟨D,h1,h2,h3,h4⟩:=h
 obtain ⟨⟨hw,h20⟩,sl,skv,mvv,q1,q2⟩:=h4.at_ E hE
 obtain ⟨i12,t40,k20,m20⟩:=zkf hw
 have hh:=(h4.hasE E.id).2 ⟨E,hE,rfl⟩
 cases mo with
 |none=>
  have hD:D= .map []:=h1.2
  rw [hD] at hh
  cases hh
 |some mb=>
  have:=zhF bb mb n D E.id E sl skv mvv w h1 (by omega) q1 (q2.ls h20) k20 m20
  rwa [hh] at this
end Go.Proofs.YtpeafgddbbojaaaGreatDoor
namespace Go.Proofs.YtpeafgddbbojaaaGreatDoor
open Go Go.RowKit Go.Maps Go.Sort Cal
attribute [local go_sem] Oper.semAt_some
def lkC(C:List EV)(id:ByteArray):Option EV:=C.find? fun E=>decide (E.id=id)
noncomputable def eOp(o:Option EV):ByteArray:=match o with
 |some E=>bs (eT E)
 |none=>⟨#[]⟩
theorem yM{C:List EV}{id:ByteArray}{E:EV}(h:lkC C id=some E):E∈C∧E.id=id:=by
 unfold lkC at h
 exact ⟨List.mem_of_find?_eq_some h,by simpa using List.find?_some h⟩
theorem zcE{C:List EV}{id:ByteArray}(h:lkC C id=none): ¬ ∃ E∈C,E.id=id:=by
 unfold lkC at h
 rintro ⟨E,hE,q⟩
 have:=List.find?_eq_none.1 h E hE
 simp [q] at this
theorem zhG(lo bb n:Nat)(mo:Option Nat)(C:List EV)(id:ByteArray)(hid:id.size≤1000)(w:World)(h:BookAt lo w bb mo n C):
  Calls Tryz.prog 43 #[.pointer (some ⟨bb,0,none⟩),.string id] w fun r w'=> ∃ sl skv mvv,r= .returned (.tuple #[ev ((lkC C id).getD zE) sl skv mvv,.bool (lkC C id).isSome])∧Ls w' ((lkC C id).getD zE) sl skv mvv∧((lkC C id).isSome=true→Got w' skv ((lkC C id).getD zE).sk)∧Below w.heap.size w w':=by
 cases hq:lkC C id with
 |none=>
  refine (zlH lo bb n mo C id hid (zcE hq) w h).mono ?_
  rintro r w' ⟨sl,skv,mvv,rfl,hL,hb⟩
  exact ⟨sl,skv,mvv,rfl,hL,(fun q=>by cases q),hb⟩
 |some E=>
  obtain ⟨hE,rfl⟩:=yM hq
  refine (zmf lo bb n mo C E hE w h).mono ?_
  rintro r w' ⟨sl,skv,mvv,rfl,hL,hg,hb⟩
  exact ⟨sl,skv,mvv,rfl,hL,(fun _=>hg),hb⟩
theorem zer(o:Option EV)(sl skv mvv:Value)(s:Nat→Addr)(w:World)(gk:GlobK s w)(g:GlobR w)(hL:Ls w (o.getD zE) sl skv mvv)(hw: ∀ E,o=some E→EW E):
  Calls Tryz.prog 45 #[ev (o.getD zE) sl skv mvv] w fun r w'=>r= .returned (.string (eOp o))∧Below w.heap.size w w':=by
 cases o with
 |none=>exact ziV sl skv mvv s w gk hL
 |some E=>exact zdd E sl skv mvv s w gk g hL.d hL.s hL.m (hw E rfl)
end Go.Proofs.YtpeafgddbbojaaaGreatDoor
