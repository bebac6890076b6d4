import Derived.Test.YtpeafgddbbojaaaGreatDoorJqAI
import Derived.Test.YtpeafgddbbojaaaGreatDoorJqAA
import Derived.Test.YtpeafgddbbojaaaGreatDoorJqAH
import Derived.Test.YtpeafgddbbojaaaGreatDoorJqAD
import Derived.Test.YtpeafgddbbojaaaGreatDoorJqAG
import Derived.Test.YtpeafgddbbojaaaGreatDoorJqAE
import Derived.Sort.Walk0
namespace Go.Proofs.YtpeafgddbbojaaaGreatDoor
open Go.RowKit Cal
theorem zdN(f:ByteArray):bs f.toList=f:=zaO (by rw [zh,ByteArray.toList_eq])
def St(base:Nat)(W:World)(B:Nat)(f:ByteArray)(e:Int)(ds:List Int)(c u:Int)(t:List UInt8)(l:List (List UInt8)):Prop:=
 (Rd W B ⟨#[]⟩ 0 (.slice none 0 0) 0 (-1) 0∧l=yh (rd f e ds c u) t)∨
 (Rd W B f 0 (.slice none 0 0) 0 (-1) 1∧l=Lib.itoa e::(yJ (rd f e ds c u)++(zu (rd f e ds c u)++zv (rd f e ds c u) t)))∨
 (Rd W B f e (.slice none 0 0) 0 (-1) 2∧l=yJ (rd f e ds c u)++(zu (rd f e ds c u)++zv (rd f e ds c u) t))∨
 (∃ sl p,(p=2∨p=3)∧Rd W B f e sl 0 (-1) p∧Ow base W sl ds∧l=zu (rd f e ds c u)++zv (rd f e ds c u) t)∨
 (∃ sl,Rd W B f e sl 0 (-1) 4∧Ow base W sl ds∧c≠0∧l=Lib.itoa c::zv (rd f e ds c u) t)∨
 (∃ sl p,(p=2∨p=3∨p=5)∧Rd W B f e sl c (-1) p∧Ow base W sl ds∧l=zv (rd f e ds c u) t)∨
 (∃ sl,Rd W B f e sl c (-1) 6∧Ow base W sl ds∧u≠ -1∧l=[t])∨
 (∃ sl,Rd W B f e sl c u 7∧Ow base W sl ds∧l=[])
section
variable {base : Nat} {w0 W : World} {B : Nat} {f : ByteArray} {e : Int} {ds : List Int} {c u : Int} {t : List UInt8}
theorem St.s1(h:Rd W B f 0 (.slice none 0 0) 0 (-1) 1):St base W B f e ds c u t (Lib.itoa e::(yJ (rd f e ds c u)++(zu (rd f e ds c u)++zv (rd f e ds c u) t))):= .inr (.inl ⟨h,rfl⟩)
theorem St.s2(h:Rd W B f e (.slice none 0 0) 0 (-1) 2):St base W B f e ds c u t (yJ (rd f e ds c u)++(zu (rd f e ds c u)++zv (rd f e ds c u) t)):= .inr (.inr (.inl ⟨h,rfl⟩))
theorem St.s3(sl:Value)(p:Int)(hp:p=2∨p=3)(h:Rd W B f e sl 0 (-1) p)(ho:Ow base W sl ds):St base W B f e ds c u t (zu (rd f e ds c u)++zv (rd f e ds c u) t):= .inr (.inr (.inr (.inl ⟨sl,p,hp,h,ho,rfl⟩)))
theorem St.s4(sl:Value)(h:Rd W B f e sl 0 (-1) 4)(ho:Ow base W sl ds)(hc:c≠0):St base W B f e ds c u t (Lib.itoa c::zv (rd f e ds c u) t):= .inr (.inr (.inr (.inr (.inl ⟨sl,h,ho,hc,rfl⟩))))
theorem St.s5(sl:Value)(p:Int)(hp:p=2∨p=3∨p=5)(h:Rd W B f e sl c (-1) p)(ho:Ow base W sl ds):St base W B f e ds c u t (zv (rd f e ds c u) t):= .inr (.inr (.inr (.inr (.inr (.inl ⟨sl,p,hp,h,ho,rfl⟩)))))
theorem St.s6(sl:Value)(h:Rd W B f e sl c (-1) 6)(ho:Ow base W sl ds)(hu:u≠ -1):St base W B f e ds c u t [t]:= .inr (.inr (.inr (.inr (.inr (.inr (.inl ⟨sl,h,ho,hu,rfl⟩))))))
theorem St.s7(sl:Value)(h:Rd W B f e sl c u 7)(ho:Ow base W sl ds):St base W B f e ds c u t []:= .inr (.inr (.inr (.inr (.inr (.inr (.inr ⟨sl,h,ho,rfl⟩))))))
theorem zir(h:c=0):zu (rd f e ds c u)=[]:=by unfold zu;rw [if_pos (show (rd f e ds c u).count=0 from h)]
theorem zcb(h:c≠0):zu (rd f e ds c u)=[xf,Lib.itoa c]:=by unfold zu;rw [if_neg (show ¬ (rd f e ds c u).count=0 from h)];rfl
theorem zis(h:u= -1):zv (rd f e ds c u) t=[]:=by unfold zv;rw [if_pos (show (rd f e ds c u).til= -1 from h)]
theorem zcc(h:u≠ -1):zv (rd f e ds c u) t=[vh,t]:=by unfold zv;rw [if_neg (show ¬ (rd f e ds c u).til= -1 from h)]
theorem zjF(h:ds=[]):yJ (rd f e ds c u)=[]:=by unfold yJ;rw [if_pos (show (rd f e ds c u).days=[] from h)]
theorem zdO(h:ds≠[]):yJ (rd f e ds c u)=[Lib.join (ds.map nm) [44]]:=by unfold yJ;rw [if_neg (show ¬ (rd f e ds c u).days=[] from h)];rfl
theorem zmC{x:List UInt8}{rest:List (List UInt8)}(hB:B<base){sl:Value}{p:Int}(hp:p=2∨p=3∨p=5)(hr:Rd W B f e sl c (-1) p)(ho:Ow base W sl ds)(hx:zv (rd f e ds c u) t=x::rest):
  Calls Tryz.prog 172 #[.pointer (some ⟨B,0,none⟩),.string (bs x)] W fun r w'=>r= .returned (.bool true)∧(W.grownBy w' (some B)∧St base w' B f e ds c u t rest):=by
 by_cases hu:u= -1
 ·rw [zis hu] at hx;cases hx
 ·rw [zcc hu] at hx
  injection hx with h1 h2
  subst h1 h2
  refine zby B _ W f e sl c (-1) p _ hp hr ?_
  refine (zgu B W f e sl c (-1) p (by omega) hr).mono ?_
  rintro r w' ⟨rfl,hg,h⟩
  exact ⟨rfl,hg,St.s6 sl h (ho.grown hg hB) hu⟩
theorem zmD{x:List UInt8}{rest:List (List UInt8)}(hB:B<base){sl:Value}{p:Int}(hp:p=2∨p=3)(hr:Rd W B f e sl 0 (-1) p)(ho:Ow base W sl ds)(hx:zu (rd f e ds c u)++zv (rd f e ds c u) t=x::rest):
  Calls Tryz.prog 172 #[.pointer (some ⟨B,0,none⟩),.string (bs x)] W fun r w'=>r= .returned (.bool true)∧(W.grownBy w' (some B)∧St base w' B f e ds c u t rest):=by
 by_cases hc:c=0
 ·rw [zir hc,List.nil_append] at hx
  refine zmC hB (p:=p) (by omega) (by rw [hc];exact hr) ho hx
 ·rw [zcb hc] at hx
  injection hx with h1 h2
  subst h1
  have h2':Lib.itoa c::zv (rd f e ds c u) t=rest:=h2
  subst h2'
  refine zby B _ W f e sl 0 (-1) p _ (by omega) hr ?_
  refine (zgt B W f e sl 0 (-1) p (by omega) hr).mono ?_
  rintro r w' ⟨rfl,hg,h⟩
  exact ⟨rfl,hg,St.s4 sl h (ho.grown hg hB) hc⟩
theorem zit{x:List UInt8}{rest l:List (List UInt8)}(hw:Well (rd f e ds c u))(ht:UT (rd f e ds c u) t)(h20:ds.length≤20)(g:GlobR w0)(hb0:Below w0.heap.size w0 W)(hB0:w0.heap.size≤B)(hB:B<base)(hbs:base≤W.heap.size)
  (h:St base W B f e ds c u t l) (hl:l=x::rest):
  Calls Tryz.prog 172 #[.pointer (some ⟨B,0,none⟩),.string (bs x)] W fun r w'=>r= .returned (.bool true)∧(W.grownBy w' (some B)∧St base w' B f e ds c u t rest):=by
 have gW:=g.step hb0
 rcases h with ⟨hr,el⟩|⟨hr,el⟩|⟨hr,el⟩|⟨sl,p,hp,hr,ho,el⟩|⟨sl,hr,ho,hc,el⟩|⟨sl,p,hp,hr,ho,el⟩|⟨sl,hr,ho,hu,el⟩|⟨sl,hr,ho,el⟩
 all_goals rw [el] at hl
 ·have hF:=(jO hw).1
  unfold yh at hl
  by_cases ho:(rd f e ds c u).freq=xO
  ·rw [if_pos ho] at hl
   injection hl with h1 h2
   subst h1 h2
   have hon:=hw.on ho
   have hdn:=hw.wk (by rw [ho];decide)
   have hf:bs xO=f:=by rw [←ho];exact zdN f
   rw [hf]
   refine (zdM B f _ W hF hr).mono ?_
   rintro r w' ⟨rfl,hg,h7,_⟩
   have hd:ds=[]:=hdn
   have h1:e=1:=hon.1
   have h2:c=0:=hon.2.1
   have h3:u= -1:=hon.2.2
   subst hd h1 h2 h3
   exact ⟨rfl,hg,St.s7 _ (h7 (by rw [beq_iff_eq];exact ho)) (Ow.nil _ _)⟩
  ·rw [if_neg ho] at hl
   injection hl with h1 h2
   subst h1 h2
   have hf:bs (rd f e ds c u).freq=f:=zdN f
   rw [hf]
   refine (zdM B f _ W hF hr).mono ?_
   rintro r w' ⟨rfl,hg,_,h1⟩
   exact ⟨rfl,hg,St.s1 (h1 (by rw [beq_eq_false_iff_ne];exact ho))⟩
 ·injection hl with h1 h2
  subst h1 h2
  have he:1≤e∧e≤100:=hw.ev
  refine (zgv B e W f 0 _ 0 (-1) (by omega) (by omega) gW.tab hr).mono ?_
  rintro r w' ⟨rfl,hg,h⟩
  exact ⟨rfl,hg,St.s2 h⟩
 ·by_cases hd:ds=[]
  ·rw [zjF hd,List.nil_append] at hl
   refine zmD hB (p:=2) (Or.inl rfl) hr (by rw [hd];exact Ow.nil _ _) hl
  ·rw [zdO hd,List.singleton_append] at hl
   injection hl with h1 h2
   subst h1 h2
   refine zby B _ W f e _ 0 (-1) 2 _ (Or.inl rfl) hr ?_
   refine (ziq B ds w0 W f e 0 (-1) g hb0 hB0 hd hw.ds h20 hr).mono ?_
   rintro r w' ⟨rfl,hg,sl,h1,h2⟩
   exact ⟨rfl,hg,St.s3 sl 3 (Or.inr rfl) h1 (zW h2 hbs)⟩
 ·exact zmD hB hp hr ho hl
 ·injection hl with h1 h2
  subst h1 h2
  have hcc:0≤c∧c≤1000:=hw.co
  refine (zgw B c W f e sl 0 (-1) (by omega) (by omega) gW.tab hr).mono ?_
  rintro r w' ⟨rfl,hg,h⟩
  exact ⟨rfl,hg,St.s5 sl 5 (by omega) h (ho.grown hg hB)⟩
 ·exact zmC hB hp hr ho hl
 ·injection hl with h1 h2
  subst h1 h2
  rcases ht with ⟨e1,_⟩|⟨_,y,m,d,hv,hn,rfl⟩
  ·exact absurd e1 hu
  ·refine (zgx B u y m d W f e sl c (-1) hv hn gW hr).mono ?_
   rintro r w' ⟨rfl,hg,h⟩
   exact ⟨rfl,hg,St.s7 sl h (ho.grown hg hB)⟩
 ·cases hl
theorem zmE{l:List (List UInt8)}(h:St base W B f e ds c u t l)(hl:l=[]): ∃ sl p,(p=2∨p=3∨p=5∨p=7)∧Rd W B f e sl c u p∧Ow base W sl ds:=by
 have until_e:zv (rd f e ds c u) t=[]→u= -1:=fun h=>by
  by_cases hu:u= -1
  ·exact hu
  ·rw [zcc hu] at h;cases h
 have count_e:zu (rd f e ds c u)=[]→c=0:=fun h=>by
  by_cases hu:c=0
  ·exact hu
  ·rw [zcb hu] at h;cases h
 have days_e:yJ (rd f e ds c u)=[]→ds=[]:=fun h=>by
  by_cases hu:ds=[]
  ·exact hu
  ·rw [zdO hu] at h;cases h
 rcases h with ⟨hr,el⟩|⟨hr,el⟩|⟨hr,el⟩|⟨sl,p,hp,hr,ho,el⟩|⟨sl,hr,ho,hc,el⟩|⟨sl,p,hp,hr,ho,el⟩|⟨sl,hr,ho,hu,el⟩|⟨sl,hr,ho,el⟩
 all_goals rw [el] at hl
 ·exact absurd hl (zcS _ _)
 ·cases hl
 ·obtain ⟨h1,h2⟩:=List.append_eq_nil_iff.1 hl
  obtain ⟨h2,h3⟩:=List.append_eq_nil_iff.1 h2
  have e1:=days_e h1
  have e2:=count_e h2
  have e3:=until_e h3
  subst e1 e2 e3
  exact ⟨_,2,Or.inl rfl,hr,Ow.nil _ _⟩
 ·obtain ⟨h2,h3⟩:=List.append_eq_nil_iff.1 hl
  have e2:=count_e h2
  have e3:=until_e h3
  subst e2 e3
  exact ⟨sl,p,by omega,hr,ho⟩
 ·cases hl
 ·have e3:=until_e hl
  subst e3
  exact ⟨sl,p,by omega,hr,ho⟩
 ·cases hl
 ·exact ⟨sl,7,by omega,hr,ho⟩
end
end Go.Proofs.YtpeafgddbbojaaaGreatDoor
namespace Go.Proofs.YtpeafgddbbojaaaGreatDoor
open Go Go.RowKit Go.Shelf Cal
attribute [local go_sem] Oper.semAt_some
theorem vk{W W':World}{x B:Nat}{f:ByteArray}{e:Int}{sl:Value}{c u p:Int}(h:Rd W B f e sl c u p)(hg:W.grownBy W' (some x))(hx:B≠x):Rd W' B f e sl c u p:=
 (hg.block B (zlp h) (fun e=>hx (by cases e;rfl))).trans h
theorem St.kept{base x:Nat}{W W':World}{B:Nat}{f:ByteArray}{e:Int}{ds:List Int}{c u:Int}{t:List UInt8}{l:List (List UInt8)}(h:St base W B f e ds c u t l)(hg:W.grownBy W' (some x))(hx:B≠x)(hb:x<base):St base W' B f e ds c u t l:=by
 rcases h with ⟨hr,rfl⟩|⟨hr,rfl⟩|⟨hr,rfl⟩|⟨sl,p,hp,hr,ho,rfl⟩|⟨sl,hr,ho,hc,rfl⟩|⟨sl,p,hp,hr,ho,rfl⟩|⟨sl,hr,ho,hu,rfl⟩|⟨sl,hr,ho,rfl⟩
 ·exact .inl ⟨vk hr hg hx,rfl⟩
 ·exact St.s1 (vk hr hg hx)
 ·exact St.s2 (vk hr hg hx)
 ·exact St.s3 sl p hp (vk hr hg hx) (ho.grown hg hb)
 ·exact St.s4 sl (vk hr hg hx) (ho.grown hg hb) hc
 ·exact St.s5 sl p hp (vk hr hg hx) (ho.grown hg hb)
 ·exact St.s6 sl (vk hr hg hx) (ho.grown hg hb) hu
 ·exact St.s7 sl (vk hr hg hx) (ho.grown hg hb)
def RW(w:World)(sb:ByteArray):World:=
 ((((((w.alloc (.cells #[.string ⟨#[]⟩,.int .i64 0,.slice none 0 0,.int .i64 0,.int .i64 0] 45)).alloc (.cells #[.nilIface] 41)).alloc
  (.cells #[.string ⟨#[]⟩,.int .i64 0,.slice none 0 0,.int .i64 0,.int .i64 (-1),.int .i64 0] 206)).alloc (.cells #[.string sb] 9)).alloc (.cells #[.string ⟨#[32]⟩] 9)).alloc (.cells #[.int .i64 0] 3))
theorem zlt(w:World)(sb:ByteArray):(RW w sb).heap.size=w.heap.size+6:=by
 unfold RW
 simp
theorem zjJ(w:World)(sb:ByteArray):Below w.heap.size w (RW w sb):=by
 unfold RW
 exact zB (zC _ _) (zB (zC _ _) (zB (zC _ _) (zB (zC _ _) (zB (zC _ _) (zC _ _)))))
theorem zjK(w:World)(sb:ByteArray):
  (RW w sb).heap[w.heap.size]? =some (.cells #[.string ⟨#[]⟩,.int .i64 0,.slice none 0 0,.int .i64 0,.int .i64 0] 45 (0,0))∧Boxed (RW w sb) (w.heap.size+1) 41 .nilIface∧
   Rd (RW w sb) (w.heap.size+2) ⟨#[]⟩ 0 (.slice none 0 0) 0 (-1) 0∧Boxed (RW w sb) (w.heap.size+3) 9 (.string sb)∧Boxed (RW w sb) (w.heap.size+4) 9 (.string ⟨#[32]⟩)∧Boxed (RW w sb) (w.heap.size+5) 3 (.int .i64 0):=by
 unfold RW
 refine ⟨?_,?_,?_,?_,?_,?_⟩
 ·exact zH _ (zH _ (zH _ (zH _ (zH _ (zJ _ rfl)))))
 ·exact zH _ (zH _ (zH _ (zH _ (zJ _ (by simp)))))
 ·exact zH _ (zH _ (zH _ (zJ _ (by simp))))
 ·exact zH _ (zH _ (zJ _ (by simp)))
 ·exact zH _ (zJ _ (by simp))
 ·exact zJ _ (by simp)
set_option maxHeartbeats 1000000 in
set_option maxRecDepth 100000 in
theorem zfI(f:ByteArray)(e:Int)(ds:List Int)(c u:Int)(t:List UInt8)(w:World)(g:GlobR w)(h20:ds.length≤20)(hw:Well (rd f e ds c u))(ht:UT (rd f e ds c u) t):
  Calls Tryz.prog 131 #[.string (bs (yV (rd f e ds c u) t))] w fun r w'=> ∃ sl,r= .returned (.tuple #[rv f e sl c u,.nilIface])∧Ow w.heap.size w' sl ds∧Below w.heap.size w w':=by
 have hp:zZ 32 (bs (yV (rd f e ds c u) t)).data.toList=yh (rd f e ds c u) t:=xg hw ht
 have hsz:(bs (yV (rd f e ds c u) t)).size≤1000000:=by rw [Lib.size_eq,zh];have:=vj hw ht h20;omega
 generalize bs (yV (rd f e ds c u) t)=sb at hsz hp
 have HP:=hid hp
 have G:=hid g
 have HW:=hid hw
 have HT:=hid ht
 have SS:Hid (∀ w,_):=fun w=>zaK sb 32 w
 clear hp g hw ht
 refine (callsIn_wide (n:=10)).1 ?_
 refine callsIn_of_wp_marks Tryz.func131 rfl trivial ?_ rfl
 simp only [Tryz.ntmps131,List.size_toArray,List.length_cons,List.length_nil,Nat.reduceAdd,Nat.reduceSub,Array.replicate_succ,Array.replicate_zero,List.push_toArray,List.append_toArray,List.nil_append,List.cons_append]
 gi_wp2_with (refine ⟨trivial,?_⟩;gi_at_call 171;refine (callsIn_wide.2 (SS.out _)).mono ?_;rintro r w' ⟨rfl,rfl⟩)
 change Code.wpIn _ _ _ _ _ _ (RW w sb)
 obtain ⟨b0,b1,hrd,b3,b4,b5⟩:=zjK w sb
 have hbw:=zjJ w sb
 have hs5:=zlt w sb
 generalize RW w sb=W5 at b0 b1 hrd b3 b4 b5 hbw hs5
 refine zaJ rfl (enters_of Tryz.func215 (by kernel_rfl) rfl) (fun r0 hr0=> ?_)
 refine (zce 9 (W5.heap.size+1) (w.heap.size+3) (w.heap.size+4) (w.heap.size+5) 32 (yh (rd f e ds c u) t)
  (fun k W=>St (w.heap.size+8) W (w.heap.size+2) f e ds c u t ((yh (rd f e ds c u) t).drop k)∧Fr W5 W (w.heap.size+2) (w.heap.size+3)∧W.heap[W5.heap.size+1]? =some (.loop r0))
  (fun _ _=>False) (by omega) (by omega) (by omega) ?hJs ?hY _ sb hsz HP.out ?hBox ?h0).mono ?post
 case hJs=>
  rintro k W v ⟨q1,q3,q4⟩
  exact ⟨q1.kept (zG W ⟨w.heap.size+3,0,none⟩ v) (show w.heap.size+2≠w.heap.size+3 by omega) (show w.heap.size+3<_ by omega),q3.setS (by omega) v,(Below.heap_setCell _ _ _ _ (fun e=>by have e':W5.heap.size+1=w.heap.size+3:=e;omega)).trans q4⟩
 case hBox=>
  have hb:=zB (zC W5 (.deferred (some []))) (zC _ (.loop r0))
  exact ⟨(hb.block _ (by omega)).trans b3,(hb.block _ (by omega)).trans b4,(hb.block _ (by omega)).trans b5⟩
 case h0=>
  exact ⟨.inl ⟨yW hrd (zB (zC _ _) (zC _ _)),rfl⟩,Fr.start _ _ _ _,zdu _ _⟩
 case hY=>
  rintro k hk W ⟨q1,q3,q4⟩
  have hl0:=(Array.getElem?_eq_some_iff.1 q4).1
  have fr1:=q3.put (.loop { r0 with state:= .busy })
  have st1:=q1.kept (grownBy_putObj' W (W5.heap.size+1) (.loop { r0 with state:= .busy })) (show w.heap.size+2≠W5.heap.size+1 by omega) (by omega)
  have bw1:Below w.heap.size w (W.putObj (W5.heap.size+1) (.loop { r0 with state:= .busy })):=
   ⟨fr1.os.trans hbw.os,fr1.tape.trans hbw.tape,fr1.output.trans hbw.output,by have h1:=fr1.size;omega,fun b hb=>(fr1.block b (by omega) (by omega) (by omega)).trans (hbw.block b hb)⟩
  have TK:=zit HW.out HT.out h20 G.out bw1 (show w.heap.size≤w.heap.size+2 by omega) (show w.heap.size+2<w.heap.size+8 by omega) (by have h1:=fr1.size;omega) st1 (List.drop_eq_getElem_cons hk)
  have lrec:(W.putObj (W5.heap.size+1) (.loop { r0 with state:= .busy })).heap[W5.heap.size+1]? =some (.loop { r0 with state:= .busy }):=World.putObj_heap_same hl0
  have e3:(W.putObj (W5.heap.size+1) (.loop { r0 with state:= .busy })).heap[w.heap.size+3]? =W.heap[w.heap.size+3]? :=World.putObj_heap_other (by omega)
  have e4:(W.putObj (W5.heap.size+1) (.loop { r0 with state:= .busy })).heap[w.heap.size+4]? =W.heap[w.heap.size+4]? :=World.putObj_heap_other (by omega)
  have e5:(W.putObj (W5.heap.size+1) (.loop { r0 with state:= .busy })).heap[w.heap.size+5]? =W.heap[w.heap.size+5]? :=World.putObj_heap_other (by omega)
  change YieldAt _ _ _ _ #[.string (bs (yh (rd f e ds c u) t)[k])] _ _
  generalize bs (yh (rd f e ds c u) t)[k]=x at TK
  refine zb9 hr0 ({ tmps:= #[.string sb,undef,.pointer (some ⟨w.heap.size,0,none⟩),.pointer (some ⟨w.heap.size+1,0,none⟩),.pointer (some ⟨w.heap.size+1+1,0,none⟩),.string x,undef,.pointer (some ⟨w.heap.size+1+1,0,none⟩),.pointer (some ⟨w.heap.size+1+1,4,none⟩),.string sb,.func (.func 215) #[] #[.pointer (some ⟨w.heap.size+1+1+1+1,0,none⟩),.pointer (some ⟨w.heap.size+1+1+1,0,none⟩),.pointer (some ⟨w.heap.size+1+1+1+2,0,none⟩)],.string x,undef,undef,undef,undef,undef,undef,undef,undef,undef,undef,undef,undef,undef,undef,undef,undef,undef,undef],defers:=[] }) q4 rfl ?assign ?body
  case assign=>
   intro K hK
   gi_wp2
   exact hK
  case body=>
   generalize (W.putObj (W5.heap.size+1) (.loop { r0 with state:= .busy }))=Wb at fr1 st1 bw1 TK lrec e3 e4 e5
   have T:=hid TK
   have FR:=hid fr1
   have L:Hid (_):=lrec
   have E3:Hid (_):=e3
   have E4:Hid (_):=e4
   have E5:Hid (_):=e5
   clear fr1 st1 bw1 TK lrec e3 e4 e5 b0 b1 hrd b3 b4 b5 q1 q3 q4
   gi_wp2_with (refine ⟨trivial,?_⟩;gi_at_call 172;refine (CallsIn.inRound (W5.heap.size+1) (callsIn_wide.2 T.out)).mono ?_;rintro r w' ⟨rfl,hg,hst⟩)
   have hin: ∀ b,b<W5.heap.size+2→b≠w.heap.size+2→w'.heap[b]? =Wb.heap[b]? :=fun b hb hne=>hg.block b (by have:=FR.out.size;omega) (fun e=>hne (by cases e;rfl))
   have fr2:=FR.out.grown hg (by omega)
   have hl2:=(hin (W5.heap.size+1) (by omega) (by omega)).trans L.out
   refine ⟨hl2,Or.inl ⟨rfl,⟨hst.kept (grownBy_putObj' w' (W5.heap.size+1) _) (show w.heap.size+2≠W5.heap.size+1 by omega) (by omega),fr2.put _,?_⟩,?_,?_,?_⟩⟩
   ·rw [hr0.again];exact World.putObj_heap_same (Array.getElem?_eq_some_iff.1 hl2).1
   ·exact (World.putObj_heap_other (by omega)).trans ((hin _ (by omega) (by omega)).trans E3.out)
   ·exact (World.putObj_heap_other (by omega)).trans ((hin _ (by omega) (by omega)).trans E4.out)
   ·exact (World.putObj_heap_other (by omega)).trans ((hin _ (by omega) (by omega)).trans E5.out)
 case post=>
  rintro e2 W2 ⟨hv,(⟨q1,q3,q4⟩|⟨k,hx⟩)⟩
  ·refine ⟨hv,_,q4,by rw [hr0.state];decide,.inl ⟨hr0.pending,?_⟩⟩
   have fr3:=q3.put (.loop { r0 with state:= .exhausted })
   have st3:=q1.kept (grownBy_putObj' W2 (W5.heap.size+1) (.loop { r0 with state:= .exhausted })) (show w.heap.size+2≠W5.heap.size+1 by omega) (by omega)
   obtain ⟨sl,p,hp,r3,o3⟩:=zmE st3 (by rw [List.drop_length])
   have c0:=(fr3.block w.heap.size (by omega) (by omega) (by omega)).trans b0
   have c1:=(fr3.block (w.heap.size+1) (by omega) (by omega) (by omega)).trans b1
   have bw3:Below w.heap.size w (W2.putObj (W5.heap.size+1) (.loop { r0 with state:= .exhausted })):=
    ⟨fr3.os.trans hbw.os,fr3.tape.trans hbw.tape,fr3.output.trans hbw.output,by have h1:=fr3.size;omega,fun b hb=>(fr3.block b (by omega) (by omega) (by omega)).trans (hbw.block b hb)⟩
   generalize W2.putObj (W5.heap.size+1) (.loop { r0 with state:= .exhausted })=W3 at fr3 st3 r3 o3 c0 c1 bw3
   have ME:Hid (_):=zgy (w.heap.size+2) p W3 f e sl c u hp r3
   have CK:=hid (zaX f e sl c u ds W3 (xP o3 h20) HW.out)
   have FR:=hid fr3
   have O3:=hid o3
   have R3:Hid (_):=r3
   have B0:Hid (_):=c0
   have B1:Hid (_):=c1
   have BW:Hid (_):=bw3
   have hd5:W3.heap[w.heap.size+6]? =some (.deferred (some [])):=by rw [←hs5];exact fr3.dfr
   have HD5:Hid (_):=hd5
   obtain ⟨sa,scap,rfl,_,_,_⟩:=xP o3 h20
   obtain ⟨y0,y1,y2,y3,y4,y5⟩:=yK r3
   clear q1 q3 q4 hd5 fr3 st3 r3 c0 c1 bw3 b0 b1 hrd b3 b4 b5 hp SS o3
   gi_wp2_with (first
    |(refine ⟨trivial,?_⟩;gi_at_call 173;refine (callsIn_wide.2 (ME.out)).mono ?_;rintro r w' ⟨rfl,rfl⟩)
    |(refine ⟨trivial,?_⟩;gi_at_call 61;refine (callsIn_wide.2 (CK.out)).mono ?_;rintro r w4 ⟨rfl,hb4⟩;obtain ⟨z0,z1,z2,z3,z4,z5⟩:=yK (yW R3.out hb4);have k0:=(hb4.block _ (Array.getElem?_eq_some_iff.1 B0.out).1).trans B0.out;have k1:Boxed w4 (w.heap.size+1) 41 .nilIface:=(hb4.block _ (Array.getElem?_eq_some_iff.1 B1.out).1).trans B1.out;obtain ⟨v0,v1,v2,v3,v4⟩:=zbE k0;have t0:=zY k0 0;have t1:=zY k0 1;have t2:=zY k0 2;have t3:=zY k0 3;have t4:=zY k0 4;have v5:=k1.cell;have t5:=k1.frozen;have K0:Hid (_):=k0;have K1:Hid (_):=k1;clear k0 k1))
   have m0:=zM (i:=0) (.string f) K0.out
   have m1:=zM (i:=1) (.int .i64 e) m0
   have m2:=zM (i:=2) (.slice sa ds.length scap) m1
   have m3:=zM (i:=3) (.int .i64 c) m2
   have m4:=zM (i:=4) (.int .i64 u) m3
   have g4:w4.grownBy (((((w4.setCell ⟨w.heap.size,0,none⟩ (.string f)).setCell ⟨w.heap.size,1,none⟩ (.int .i64 e)).setCell ⟨w.heap.size,2,none⟩ (.slice sa ds.length scap)).setCell ⟨w.heap.size,3,none⟩ (.int .i64 c)).setCell ⟨w.heap.size,4,none⟩ (.int .i64 u)) (some w.heap.size):=
    zL (zL (zL (zL (zG _ ⟨w.heap.size,0,none⟩ _) (zG _ ⟨w.heap.size,1,none⟩ _)) (zG _ ⟨w.heap.size,2,none⟩ _)) (zG _ ⟨w.heap.size,3,none⟩ _)) (zG _ ⟨w.heap.size,4,none⟩ _)
   change _=some (Obj.cells #[.string f,.int .i64 e,.slice sa ds.length scap,.int .i64 c,.int .i64 u] 45 (0,0)) at m4
   clear m0 m1 m2 m3
   generalize ((((w4.setCell ⟨w.heap.size,0,none⟩ (.string f)).setCell ⟨w.heap.size,1,none⟩ (.int .i64 e)).setCell ⟨w.heap.size,2,none⟩ (.slice sa ds.length scap)).setCell ⟨w.heap.size,3,none⟩ (.int .i64 c)).setCell ⟨w.heap.size,4,none⟩ (.int .i64 u)=w5 at m4 g4
   have hsz3:=FR.out.size
   have hsz4:=hb4.size
   have k5:Boxed w5 (w.heap.size+1) 41 .nilIface:=Boxed.kept (show Boxed w4 (w.heap.size+1) 41 .nilIface from K1.out) g4 (fun e=>by have e':=Option.some.inj e;omega)
   have g5:=zG w5 ⟨w.heap.size+1,0,none⟩ Value.nilIface
   have k6:=k5.set .nilIface
   have m6:=(Below.heap_setCell w5 ⟨w.heap.size+1,0,none⟩ Value.nilIface w.heap.size (fun e=>by have e':w.heap.size=w.heap.size+1:=e;omega)).trans m4
   have d6:=(g5.block (w.heap.size+6) (by have:=g4.size;omega) (fun e=>by have e':w.heap.size+6=w.heap.size+1:=Option.some.inj e;omega)).trans ((g4.block (w.heap.size+6) (by omega) (fun e=>by have e':w.heap.size+6=w.heap.size:=Option.some.inj e;omega)).trans ((hb4.block (w.heap.size+6) (by omega)).trans HD5.out))
   have o6:Ow (w.heap.size+8) (w5.setCell ⟨w.heap.size+1,0,none⟩ .nilIface) (.slice sa ds.length scap) ds:=Ow.grown (Ow.grown (zU O3.out hb4) g4 (by omega)) g5 (by show w.heap.size+1<_;omega)
   have bw6:Below w.heap.size w (w5.setCell ⟨w.heap.size+1,0,none⟩ .nilIface):=
    ((BW.out.trans (hb4.mono (by omega))).grown g4 (by omega) (fun k e=>by cases e;omega)).grown g5 (by have:=g4.size;omega) (fun k e=>by cases e;show w.heap.size≤w.heap.size+1;omega)
   generalize w5.setCell ⟨w.heap.size+1,0,none⟩ Value.nilIface=w6 at k6 m6 d6 o6 bw6
   refine ⟨by simp,.inl ⟨_,_,rfl,run_takeDeferred d6,?_⟩⟩
   have m7:(w6.putObj (w.heap.size+6) (.deferred none)).heap[w.heap.size]? =_:=(World.putObj_heap_other (by omega)).trans m6
   have k7:Boxed (w6.putObj (w.heap.size+6) (.deferred none)) (w.heap.size+1) 41 .nilIface:=(World.putObj_heap_other (by omega)).trans k6
   obtain ⟨c0,c1,c2,c3,c4⟩:=zbE m7
   have c5:=k7.cell
   refine ⟨.tuple #[.agg #[.string f,.int .i64 e,.slice sa ds.length scap,.int .i64 c,.int .i64 u],.nilIface],?_,_,rfl,zW (Ow.grown o6 (grownBy_putObj' w6 (w.heap.size+6) _) (by omega)) (by omega),bw6.grown (grownBy_putObj' w6 (w.heap.size+6) _) bw6.size (fun k e=>by cases e;omega)⟩
   simp [results,Tryz.f131,go_sem,c0,c1,c2,c3,c4,c5]
  ·exact hx.elim
end Go.Proofs.YtpeafgddbbojaaaGreatDoor
namespace Go.Proofs.YtpeafgddbbojaaaGreatDoor
open Go Go.RowKit Cal
attribute [local go_sem] Oper.semAt_some
theorem yo(m:Int)(w:World)(h0:0≤m)(h1:m≤100000)(ht:Tab w):
  Calls Tryz.prog 128 #[.string (bs (Lib.itoa m))] w fun r w'=>r= .returned (.tuple #[.int .i64 m,.bool true])∧Below w.heap.size w w':=by
 have hl:=yw m h0 (by omega)
 have hsz:(bs (Lib.itoa m)).size≤6:=by rw [Lib.size_eq,zh];exact hl
 have ha:=Tryz.strconv_Atoi (bs (Lib.itoa m)) m (by omega) (by rw [zh];exact zag m h0) w
 have A:Hid (Calls Tryz.prog 166 #[.string (bs (Lib.itoa m))] w fun e w'=>e= .returned (.tuple #[.int .i64 m,.nilIface])∧Below w.heap.size w w'):=by
  refine ha.mono ?_
  rintro e w' ⟨rfl,t,rfl⟩
  exact ⟨rfl,zbA _ _ _⟩
 have I:Hid (∀ w,Tab w→Calls Tryz.prog 119 #[.int .i64 m] w fun e w'=>e= .returned (.string (bs (Lib.itoa m)))∧Below w.heap.size w w'):=fun w t=>js m w h0 h1 t
 generalize bs (Lib.itoa m)=sb at hsz A I
 have T:=hid ht
 have hsz':(sb.size:Int)≤6:=by omega
 clear ha ht hl
 go_enter Tryz.func128,Tryz.ntmps128
 go_wp2_with (first
  |(go_at_call 166;refine Calls.mono A.out ?_;rintro r w1 ⟨rfl,hb1⟩)
  |(go_at_call 119;refine (I.out _ (T.out.step hb1)).mono ?_;rintro r w2 ⟨rfl,hb2⟩))
 go_ret2
 exact ⟨rfl,zB hb1 hb2⟩
theorem xJ(n:Int)(w:World)(h0:0≤n)(h1:n≤73048):
  Calls Tryz.prog 130 #[.string (bs (dtx n))] w fun r w'=>r= .returned (.tuple #[.int .i64 n,.nilIface])∧Below w.heap.size w w':=by
 obtain ⟨y,m,d,hv,hn,e⟩:=jG h0 h1
 rw [e]
 have hv':=hv
 obtain ⟨h1,h2,h3,h4,h5,h6⟩:=hv
 have h7:=(yy y m).2
 have hD:=zcM y m d (by omega) (by omega) (by omega) (by omega) (by omega) (by omega)
 have hN:=zad y m d (by omega) (by omega) (by omega) (by omega) (by omega) (by omega)
 have C:=zik (bs (txt y m d)) w hD (by unfold bs;rw [hN.1,hN.2.1,hN.2.2];exact hv')
 unfold bs at C
 rw [hN.1,hN.2.1,hN.2.2,hn] at C
 exact C
set_option maxHeartbeats 1000000 in
theorem zcW(a b:Int)(w:World)(ha0:0≤a)(ha1:a≤73048)(hb0:0≤b)(hb1:b≤73048):
  Calls Tryz.prog 134 #[.string (bs (mtx (a,b)))] w fun r w'=>r= .returned (.tuple #[.agg #[.int .i64 a,.int .i64 b],.nilIface])∧Below w.heap.size w w':=by
 have CU:Hid (∀ W,_):=fun W=>zkb (a,b) W
 have RA:Hid (∀ W,_):=fun W=>xJ a W ha0 ha1
 have RB':Hid (∀ W,_):=fun W=>xJ b W hb0 hb1
 dsimp only at CU
 generalize bs (mtx (a,b))=sm at CU ⊢
 generalize bs (dtx a)=sa at CU RA
 generalize bs (dtx b)=sb at CU RB'
 clear ha0 ha1 hb0 hb1
 have hA:=zC w (.cells #[.int .i64 0,.int .i64 0] 114)
 have k0:(w.alloc (.cells #[.int .i64 0,.int .i64 0] 114)).heap[w.heap.size]? =some (.cells #[.int .i64 0,.int .i64 0] 114 (0,0)):=zJ _ rfl
 have HA:Hid (_):=hA
 have K0:Hid (_):=k0
 clear hA k0
 have FX:Hid (∀ W,Below (w.alloc (.cells #[.int .i64 0,.int .i64 0] 114)).heap.size (w.alloc (.cells #[.int .i64 0,.int .i64 0] 114)) W→W.heap[w.heap.size]? =some (.cells #[.int .i64 0,.int .i64 0] 114 (0,0))):=fun W h=>(h.block _ (by simp)).trans K0.out
 go_enter Tryz.func134,Tryz.ntmps134
 go_upto_region 8 with (first
  |(go_at_call 174;refine Calls.mono (CU.out _) ?_;rintro r w1 ⟨rfl,hb1⟩)
  |(go_at_call_of 130 (Value.string sa);refine Calls.mono (RA.out _) ?_;rintro r w2 ⟨rfl,hb2⟩)
  |(go_at_call_of 130 (Value.string sb);refine Calls.mono (RB'.out _) ?_;rintro r w3 ⟨rfl,hb3⟩))
 have hB3:=zB hb1 (zB hb2 hb3)
 have kk:=FX.out _ hB3
 have c0:w3.cell? ⟨w.heap.size,0,none⟩=some (.int .i64 0):=by simp [World.cell?,kk]
 have c1:w3.cell? ⟨w.heap.size,1,none⟩=some (.int .i64 0):=by simp [World.cell?,kk]
 have f0:=zF kk 0
 have f1:=zF kk 1
 have KK:Hid (_):=kk
 have HB3:Hid (_):=hB3
 clear kk hB3 hb1 hb2 hb3
 have g0:(w3.setCell ⟨w.heap.size,0,none⟩ (.int .i64 a)).heap[w.heap.size]? =some (.cells #[.int .i64 a,.int .i64 0] 114 (0,0)):=zM (i:=0) _ KK.out
 have g1:((w3.setCell ⟨w.heap.size,0,none⟩ (.int .i64 a)).setCell ⟨w.heap.size,1,none⟩ (.int .i64 b)).heap[w.heap.size]? =some (.cells #[.int .i64 a,.int .i64 b] 114 (0,0)):=zM (i:=1) _ g0
 have d0:((w3.setCell ⟨w.heap.size,0,none⟩ (.int .i64 a)).setCell ⟨w.heap.size,1,none⟩ (.int .i64 b)).cell? ⟨w.heap.size,0,none⟩=some (.int .i64 a):=by simp [World.cell?,g1]
 have d1:((w3.setCell ⟨w.heap.size,0,none⟩ (.int .i64 a)).setCell ⟨w.heap.size,1,none⟩ (.int .i64 b)).cell? ⟨w.heap.size,1,none⟩=some (.int .i64 b):=by simp [World.cell?,g1]
 have f2:=zF g0 1
 clear g0 g1
 go_wp2
 refine bodyPost_ret (v:= .tuple #[.agg #[.int .i64 a,.int .i64 b],.nilIface]) (by simp [results,Tryz.f134,go_sem,d0,d1]) rfl ⟨rfl,?_⟩
 ·exact ((zB HA.out HB3.out).setCell (p:=⟨w.heap.size,0,none⟩) (Nat.le_refl _) _).setCell (p:=⟨w.heap.size,1,none⟩) (Nat.le_refl _) _
theorem zjL{n:Int}(h0:0≤n)(h1:n≤73048):dtx n≠[]:=by
 obtain ⟨y,m,d,_,_,e⟩:=jG h0 h1
 rw [e]
 intro h
 have:=congrArg List.length h
 rw [xx] at this
 simp at this
theorem zjM(m:Int×Int):mtx m≠[]:=by unfold mtx;simp
theorem ziN(xs:List Int)(w:World)(h30:xs.length≤60)(hv: ∀ x∈xs,0≤x∧x≤73048):
  Calls Tryz.prog 167 #[.string (bs (Lib.join (xs.map dtx) [44]))] w fun r w'=> ∃ v,r= .returned v∧Wds w' v (xs.map dtx)∧Below w.heap.size w w':=by
 refine za8 (xs.map dtx) w (fun y hy=> ?_) (fun y hy=> ?_) ?_
 ·obtain ⟨x,_,rfl⟩:=List.mem_map.1 hy;exact xK _ _ (by decide)
 ·obtain ⟨x,hx,rfl⟩:=List.mem_map.1 hy;exact zjL (hv x hx).1 (hv x hx).2
 ·have:=yT (xs.map dtx) [44] 10 (fun y hy=>by obtain ⟨x,_,rfl⟩:=List.mem_map.1 hy;exact yP x)
  rw [List.length_map] at this
  have h31:xs.length*(10+[(44:UInt8)].length)≤60*11:=Nat.mul_le_mul h30 (by simp)
  omega
theorem zeS(xs:List (Int×Int))(w:World)(h30:xs.length≤60):
  Calls Tryz.prog 167 #[.string (bs (Lib.join (xs.map mtx) [44]))] w fun r w'=> ∃ v,r= .returned v∧Wds w' v (xs.map mtx)∧Below w.heap.size w w':=by
 refine za8 (xs.map mtx) w (fun y hy=> ?_) (fun y hy=> ?_) ?_
 ·obtain ⟨x,_,rfl⟩:=List.mem_map.1 hy;exact zcY _ _ (by decide)
 ·obtain ⟨x,hx,rfl⟩:=List.mem_map.1 hy;exact zjM x
 ·have:=yT (xs.map mtx) [44] 21 (fun y hy=>by obtain ⟨x,_,rfl⟩:=List.mem_map.1 hy;exact jJ x)
  rw [List.length_map] at this
  have h31:xs.length*(21+[(44:UInt8)].length)≤60*22:=Nat.mul_le_mul h30 (by simp)
  omega
set_option maxHeartbeats 1600000 in
theorem zaA(xs:List (Int×Int))(w:World)(h30:xs.length≤60):
  Calls Tryz.prog 129 #[.string (bs (Lib.join (xs.map mtx) [44]))] w fun r w'=>r= .returned (.bool true)∧Below w.heap.size w w':=by
 have IT:=hid (zeS xs w h30)
 generalize bs (Lib.join (xs.map mtx) [44])=sb at IT ⊢
 have CN:Hid (∀ (m:Int×Int) (W:World),Calls Tryz.prog 164 #[.string (bs (mtx m)),.string ⟨#[62]⟩] W fun r w'=>r= .returned (.int .i64 1)∧w'=W):=fun m W=>by
  have:=Tryz.strings_Count_one (bs (mtx m)) 62 W
  unfold Lib.countByte at this
  rw [zh,zgJ] at this
  exact this
 go_enter Tryz.func129,Tryz.ntmps129
 go_wp2_with (go_at_call 167;refine Calls.mono IT.out ?_;rintro r w1 ⟨v,rfl,hwd,hb1⟩;obtain ⟨wa,wc,rfl,hwl,hwcell⟩:=hwd)
 rw [List.length_map] at hwl
 have HC:Hid (_):=hwcell
 have HB1:Hid (_):=hb1
 clear hwcell hb1 IT
 go_loopw [4,8] (fun _ i wr=> ∃ m:Nat,m≤xs.length∧i= .int .i64 m∧wr=w1) (fun _ i _=>xs.length - (intOf i).toNat)
 case atStart=>exact ⟨0,Nat.zero_le _,rfl,rfl⟩
 case round=>
  obtain ⟨m,hm,rfl,rfl⟩:=hrel
  by_cases hlt:m<xs.length
  ·obtain ⟨blk,rfl,hblk,hcl⟩:=HC.out m (by rw [List.length_map];exact hlt)
   rw [List.getElem_map] at hcl
   unfold sv at hcl
   have C1:Hid (_):=CN.out xs[m]
   generalize bs (mtx xs[m])=bt at hcl C1
   clear HC CN
   go_wp2_with (go_at_call 164;refine Calls.mono (C1.out _) ?_;rintro r w' ⟨rfl,rfl⟩)
   go_roundw
   case rel=>exact ⟨m+1,by omega,by go_num,trivial⟩
   case measure=>simp [intOf];omega
  ·clear HC
   go_wp2
   go_ret
   exact ⟨rfl,HB1.out⟩
set_option maxHeartbeats 1600000 in
set_option maxRecDepth 100000 in
theorem ja(xs:List Int)(w:World)(h30:xs.length≤60)(hv: ∀ x∈xs,0≤x∧x≤73048):
  Calls Tryz.prog 132 #[.string (bs (Lib.join (xs.map dtx) [44])),.func (.func 130) #[] #[]] w fun r w'=> ∃ v,r= .returned (.tuple #[v,.nilIface])∧Ow w.heap.size w' v xs∧Below w.heap.size w w':=by
 obtain ⟨i0,hi,hz0,hz1,hz2⟩:=info_parts yZ
 have IT:Hid (Calls _ _ _ _ _):=ziN xs w h30 hv
 generalize bs (Lib.join (xs.map dtx) [44])=sb at IT ⊢
 have HV:Hid (_):=hv
 clear hv
 go_enter Tryz.func132,Tryz.ntmps132
 go_wp2_with (go_at_call 167;refine Calls.mono IT.out ?_;rintro r w1 ⟨v,rfl,hwd,hb1⟩;obtain ⟨wa,wc,rfl,hwl,hwcell⟩:=hwd)
 rw [List.length_map] at hwl
 have HC:Hid (_):=hwcell
 have HB1:Hid (_):=hb1
 clear hwcell hb1 IT
 go_loopw [6,8,9,10,14] (fun ov _ _ _ i wr=> ∃ m:Nat,m≤xs.length∧i= .int .i64 m∧Hid (Below w1.heap.size w1 wr)∧Hid (Ow w1.heap.size wr ov (xs.take m))) (fun _ _ _ _ i _=>xs.length - (intOf i).toNat)
 case atStart=>exact ⟨0,Nat.zero_le _,rfl,Below.refl _ _,Ow.nil _ _⟩
 case round=>
  obtain ⟨m,hm,rfl,HB,HO⟩:=hrel
  by_cases hlt:m<xs.length
  ·obtain ⟨blk,rfl,hblk,hcl⟩:=HC.out m (by rw [List.length_map];exact hlt)
   rw [List.getElem_map] at hcl
   unfold sv at hcl
   have hc1:=zD hcl HB.out
   have HN:Hid (xs.take (m+1)=xs.take m++[xs[m]]):=List.take_succ_eq_append_getElem hlt
   have hob:(xs.take m).length≤60:=by simp;omega
   obtain ⟨v1,v2⟩:=HV.out xs[m] (List.getElem_mem hlt)
   have C1:Hid (Calls _ _ _ _ _):=xJ xs[m] wr v1 v2
   generalize bs (dtx xs[m])=bt at hc1 C1
   clear HC hcl HV v1 v2
   generalize xs[m]=x at HN C1
   generalize xs.take m=o at HO HN hob
   obtain ⟨oa,oc,rfl⟩:=zw HO.out
   have hzr:w1.heap.size≤wr.heap.size:=HB.out.size
   go_upto_region 9 with (first
    |(go_at_call 130;refine Calls.mono C1.out ?_;rintro r w2 ⟨rfl,hb2⟩;have OW1:Hid (Ow w1.heap.size (w2.alloc (.cells #[.int .i64 x] 3)) (.slice oa o.length oc) o):=Ow.step HO.out (zB hb2 (zC _ _));have NC:Hid (_):=zaU w2 x;have hzq:w1.heap.size≤w2.heap.size:=Nat.le_trans hzr hb2.size;have HB2:Hid (_):=hb2;clear hb2)
    |(at_builtin;refine wpList_append_own _ rfl _ _ 43 rfl w1.heap.size 3 i0 (.int .i64 0) 1 8 Tryz.underlying43 hi hz0 hz1 hz2 rfl (by decide) _ _ _ rfl OW1.out ⟨w2.heap.size,0,none⟩ 1 1 [.int .i64 x] rfl rfl NC.out (fun v hv=>by rw [List.mem_singleton.1 hv];rfl) (by unfold maxLen;omega) (by omega) (by simp;omega) ?_;intro v' w3 hown' hgrow _;obtain ⟨g',cap',rfl⟩:=ownsRow_succ hown')
    |go_in)
   have OW2:Hid (Ow w1.heap.size w3 (.slice (some ⟨g',0,none⟩) (o.length+1) cap') (o++[x])):=by
    show World.ownsRow _ _ _ _ _ _ _
    rw [List.length_append,List.map_append]
    exact hown'
   have HB3:Hid (Below w1.heap.size w1 w3):=(zB HB.out (zB HB2.out (zC w2 (.cells #[.int .i64 x] 3)))).grown (show (w2.alloc (.cells #[.int .i64 x] 3)).grownBy w3 (Value.slice oa o.length oc).ownBlock from hgrow) (by rw [World.size_alloc];omega) (fun k q=>(World.ownsRow.lt OW1.out k q).1)
   clear hown' hgrow OW1 NC HO HB HB2
   go_wp2
   go_roundw
   case rel=>exact ⟨m+1,by omega,by go_num,HB3.out,by rw [HN.out];exact OW2.out⟩
   case measure=>simp [intOf];omega
  ·have HE:Hid (xs.take m=xs):=List.take_of_length_le (by omega)
   rw [HE.out] at HO
   obtain ⟨oa,oc,rfl⟩:=zw HO.out
   clear HC
   go_wp2
   go_ret2
   exact ⟨_,rfl,zW HO.out HB1.out.size,HB1.out.trans (HB.out.mono HB1.out.size)⟩
theorem zeT(w:World)(a b:Int): ∀ (j:Nat) (v:Value),(yF [(a,b)])[j]? =some v→(w.alloc (.cells #[.int .i64 a,.int .i64 b] 114)).cell? ((⟨w.heap.size,0,none⟩:Addr).add j)=some v:=fun j v hv=>by
 rw [Addr.add_lit,Nat.zero_add,World.cell?_alloc_new]
 have:yF [(a,b)]=[.int .i64 a,.int .i64 b]:=rfl
 rw [this] at hv
 simpa using hv
theorem zaj(xs ys:List (Int×Int)):yF (xs++ys)=yF xs++yF ys:=by
 induction xs with
 |nil=>rfl
 |cons x r ih=>show _::_::yF (r++ys)=_;rw [ih];rfl
set_option maxHeartbeats 1600000 in
set_option maxRecDepth 100000 in
theorem jc(xs:List (Int×Int))(w:World)(h30:xs.length≤60)(hv: ∀ m∈xs,(0≤m.1∧m.1≤73048)∧0≤m.2∧m.2≤73048):
  Calls Tryz.prog 133 #[.string (bs (Lib.join (xs.map mtx) [44])),.func (.func 134) #[] #[]] w fun r w'=> ∃ v,r= .returned (.tuple #[v,.nilIface])∧OwM w.heap.size w' v xs∧Below w.heap.size w w':=by
 obtain ⟨i1,hi1,hy0,hy1,hy2⟩:=info_parts xN
 have IT:Hid (Calls _ _ _ _ _):=zeS xs w h30
 generalize bs (Lib.join (xs.map mtx) [44])=sb at IT ⊢
 have HV:Hid (_):=hv
 clear hv
 go_enter Tryz.func133,Tryz.ntmps133
 go_wp2_with (go_at_call 167;refine Calls.mono IT.out ?_;rintro r w1 ⟨v,rfl,hwd,hb1⟩;obtain ⟨wa,wc,rfl,hwl,hwcell⟩:=hwd)
 rw [List.length_map] at hwl
 have HC:Hid (_):=hwcell
 have HB1:Hid (_):=hb1
 clear hwcell hb1 IT
 go_loopw [6,8,9,10,14] (fun ov _ _ _ i wr=> ∃ m:Nat,m≤xs.length∧i= .int .i64 m∧Hid (Below w1.heap.size w1 wr)∧Hid (OwM w1.heap.size wr ov (xs.take m))) (fun _ _ _ _ i _=>xs.length - (intOf i).toNat)
 case atStart=>exact ⟨0,Nat.zero_le _,rfl,Below.refl _ _,World.ownsRow_nil _ _ _ _⟩
 case round=>
  obtain ⟨m,hm,rfl,HB,HO⟩:=hrel
  by_cases hlt:m<xs.length
  ·obtain ⟨blk,rfl,hblk,hcl⟩:=HC.out m (by rw [List.length_map];exact hlt)
   rw [List.getElem_map] at hcl
   unfold sv at hcl
   have hc1:=zD hcl HB.out
   have HN:Hid (xs.take (m+1)=xs.take m++[xs[m]]):=List.take_succ_eq_append_getElem hlt
   have hob:(xs.take m).length≤60:=by simp;omega
   obtain ⟨⟨v1,v2⟩,v3,v4⟩:=HV.out xs[m] (List.getElem_mem hlt)
   clear HC hcl HV
   generalize xs[m]=x at HN hc1 v1 v2 v3 v4
   obtain ⟨xa,xb⟩:=x
   have C1:Hid (Calls _ _ _ _ _):=zcW xa xb wr v1 v2 v3 v4
   generalize bs (mtx (xa,xb))=bt at hc1 C1
   clear v1 v2 v3 v4
   generalize xs.take m=o at HO HN hob
   obtain ⟨oa,oc,rfl⟩:=zo (zr HO.out (by omega)).2
   have hzr:w1.heap.size≤wr.heap.size:=HB.out.size
   go_upto_region 6 with (go_at_call 134;refine Calls.mono C1.out ?_;rintro r w2 ⟨rfl,hb2⟩)
   have hn0:(w2.alloc (.cells #[.int .i64 xa,.int .i64 xb] 114)).cell? ⟨w2.heap.size,0,none⟩=some (.int .i64 xa):=by rw [World.cell?_alloc_new];rfl
   have hn1:(w2.alloc (.cells #[.int .i64 xa,.int .i64 xb] 114)).cell? ⟨w2.heap.size,1,none⟩=some (.int .i64 xb):=by rw [World.cell?_alloc_new];rfl
   have HB2:Hid (Below wr.heap.size wr (w2.alloc (.cells #[.int .i64 xa,.int .i64 xb] 114))):=zB hb2 (zC _ _)
   clear hb2 C1 hc1
   generalize w2.alloc (.cells #[.int .i64 xa,.int .i64 xb] 114)=wq at hn0 hn1 HB2
   have OW1:Hid (OwM w1.heap.size (wq.alloc (.cells #[.int .i64 xa,.int .i64 xb] 114)) (.slice oa o.length oc) o):=zU HO.out (zB HB2.out (zC _ _))
   have NC:Hid (_):=zeT wq xa xb
   have hzq:w1.heap.size≤wq.heap.size:=Nat.le_trans hzr HB2.out.size
   go_upto_region 9 with (first
    |(at_builtin;refine wpList_append_own _ rfl _ _ 46 rfl w1.heap.size 114 i1 (.agg #[.int .i64 0,.int .i64 0]) 2 16 Tryz.underlying46 hi1 hy0 hy1 hy2 rfl (by decide) _ _ _ rfl OW1.out ⟨wq.heap.size,0,none⟩ 1 1 (yF [(xa,xb)]) rfl rfl NC.out (xH _) (by unfold maxLen;omega) (by omega) (by simp;omega) ?_;intro v' w3 hown' hgrow _;obtain ⟨g',cap',rfl⟩:=ownsRow_succ hown')
    |go_in)
   have OW2:Hid (OwM w1.heap.size w3 (.slice (some ⟨g',0,none⟩) (o.length+1) cap') (o++[(xa,xb)])):=by
    show World.ownsRow _ _ _ _ _ _ _
    rw [List.length_append,zaj]
    exact hown'
   have HB3:Hid (Below w1.heap.size w1 w3):=(zB HB.out (zB HB2.out (zC wq (.cells #[.int .i64 xa,.int .i64 xb] 114)))).grown (show (wq.alloc (.cells #[.int .i64 xa,.int .i64 xb] 114)).grownBy w3 (Value.slice oa o.length oc).ownBlock from hgrow) (by rw [World.size_alloc];omega) (fun k q=>(World.ownsRow.lt OW1.out k q).1)
   clear hown' hgrow OW1 NC HO HB HB2
   go_wp2
   go_roundw
   case rel=>exact ⟨m+1,by omega,by go_num,HB3.out,by rw [HN.out];exact OW2.out⟩
   case measure=>simp [intOf];omega
  ·have HE:Hid (xs.take m=xs):=List.take_of_length_le (by omega)
   rw [HE.out] at HO
   obtain ⟨oa,oc,rfl⟩:=zo (zr HO.out (by omega)).2
   clear HC
   go_wp2
   go_ret2
   exact ⟨_,rfl,zW HO.out HB1.out.size,HB1.out.trans (HB.out.mono HB1.out.size)⟩
end Go.Proofs.YtpeafgddbbojaaaGreatDoor
namespace Go.Proofs.YtpeafgddbbojaaaGreatDoor
open Go Go.RowKit Go.Maps Go.Sort Cal
attribute [local go_sem] Oper.semAt_some
def jSt(l1 l2 l3:List (Int×Int))(acc:Option (List (Int×Int)))(f:Int):Option (List (Int×Int)):=acc.bind fun o=>(yD (gl l1 f) (gl l2 f) (gl l3 f)).map fun p=>if p.2 then o++[(f,p.1)] else o
def jMv(l1 l2 l3:List (Int×Int)):Option (List (Int×Int)):=(ris (l2.map Prod.fst) (l3.map Prod.fst)).foldl (jSt l1 l2 l3) (some [])
theorem zcA(l1 l2 l3:List (Int×Int)): ∀ F:List Int,F.foldl (jSt l1 l2 l3) none=none
 |[]=>rfl
 |_::r=>zcA l1 l2 l3 r
set_option maxRecDepth 100000 in
theorem yE(w:World){ops:Array Oper}{rest:List Oper}{o:Oper}{a:Act}{Q:Exit→Act→World→Prop}(hg:o.guard=none)(m x:Operand)(hop:o.op=Op.lookup 194 m x false)
  (b:Nat) (ms:List (Int×Int)) (hm:a.eval m= .map (some b)) (hG:GM w b ms) (f:Int) (hx:a.eval x= .int .i64 f) (hkey:keyOf Tryz.prog 3 (.int .i64 f)=some (zj0 f)) (t:Int) (k:Bool) (hgl:gl ms f=(t,k))
  (hK:wpList Tryz.prog ops Q rest (a.put o.dst (.agg #[.int .i64 t,.bool k])) w):wpList Tryz.prog ops Q (o::rest) a w:=by
 obtain ⟨D,hown,hat⟩:=hG.own
 refine wpList_plain hg fun K' hK'=> ?_
 obtain ⟨v,ps,hrun,hv⟩:=hown.lookup znb Tryz.underlying194 (zma w) (zd:= .held (gV (0,false))) (zp:=[]) rfl hkey
 have h:=zcj hv
 rw [hat f,hgl] at h
 have e:v= .agg #[.int .i64 t,.bool k]:=by injection h with q;exact q.symm
 subst e
 unfold Oper.wp
 simp [execOp,hop,hm,hx,hrun,Result.andThen]
 exact hK' _ _ hK
set_option maxHeartbeats 4000000 in
set_option maxRecDepth 100000 in
theorem zcB(v1 v2 v3:Value)(l1 l2 l3:List (Int×Int))(w:World)(h1:Movs w v1 l1)(h2:Movs w v2 l2)(h3:Movs w v3 l3)(hv1: ∀ m∈l1,0≤m.1∧m.1≤73048)(hv2: ∀ m∈l2,0≤m.1∧m.1≤73048)(hv3: ∀ m∈l3,0≤m.1∧m.1≤73048)(hl2:l2.length≤100)(hl3:l3.length≤100)(hF: ∀ f∈ris (l2.map Prod.fst) (l3.map Prod.fst),0≤f∧f≤73048):
  Calls Tryz.prog 126 #[v1,v2,v3] w fun r w'=> ∃ v',r= .returned (.tuple #[v',.bool (jMv l1 l2 l3).isSome])∧OwM w.heap.size w' v' ((jMv l1 l2 l3).getD [])∧Below w.heap.size w w':=by
 obtain ⟨i1,hi1,hy0,hy1,hy2⟩:=info_parts xN
 have G1:Hid (∀ W,Below w.heap.size w W→Calls Tryz.prog 160 #[v1] W fun r w'=> ∃ b,r= .returned (.map (some b))∧W.heap.size≤b∧GM w' b l1∧Below W.heap.size W w'):=fun W hW=>jT l1 v1 W (h1.step hW) hv1
 have G2:Hid (∀ W,Below w.heap.size w W→Calls Tryz.prog 160 #[v2] W fun r w'=> ∃ b,r= .returned (.map (some b))∧W.heap.size≤b∧GM w' b l2∧Below W.heap.size W w'):=fun W hW=>jT l2 v2 W (h2.step hW) hv2
 have G3:Hid (∀ W,Below w.heap.size w W→Calls Tryz.prog 160 #[v3] W fun r w'=> ∃ b,r= .returned (.map (some b))∧W.heap.size≤b∧GM w' b l3∧Below W.heap.size W w'):=fun W hW=>jT l3 v3 W (h3.step hW) hv3
 have F2:Hid (∀ W,Below w.heap.size w W→Calls Tryz.prog 161 #[v2] W fun r w'=> ∃ v,r= .returned v∧Ow W.heap.size w' v (l2.map Prod.fst)∧Below W.heap.size W w'):=fun W hW=>zbo l2 v2 W (h2.step hW)
 have F3:Hid (∀ W,Below w.heap.size w W→Calls Tryz.prog 161 #[v3] W fun r w'=> ∃ v,r= .returned v∧Ow W.heap.size w' v (l3.map Prod.fst)∧Below W.heap.size W w'):=fun W hW=>zbo l3 v3 W (h3.step hW)
 have HL2:Hid ((l2.map Prod.fst).length≤100):=by show _≤_;rw [List.length_map];exact hl2
 have HL3:Hid ((l3.map Prod.fst).length≤100):=by show _≤_;rw [List.length_map];exact hl3
 have HJ:Hid (jMv l1 l2 l3=(ris (l2.map Prod.fst) (l3.map Prod.fst)).foldl (jSt l1 l2 l3) (some [])):=rfl
 have HF:=hid hF
 obtain ⟨a1,c1,rfl,z1⟩:=h1
 obtain ⟨a2,c2,rfl,z2⟩:=h2
 obtain ⟨a3,c3,rfl,z3⟩:=h3
 clear z1 z2 z3 hv1 hv2 hv3 hF hl2 hl3
 generalize l2.map Prod.fst=f2 at F2 HL2 HJ HF
 generalize l3.map Prod.fst=f3 at F3 HL3 HJ HF
 generalize l1.length=n1 at*
 generalize l2.length=n2 at*
 generalize l3.length=n3 at*
 generalize jMv l1 l2 l3=J at HJ ⊢
 go_enter Tryz.func126,Tryz.ntmps126
 go_wp2_with fail
 go_at_call 160
 refine Calls.mono (G1.out w (Below.refl _ _)) ?_
 rintro r w1 ⟨b1,rfl,hz1,hg1,hb1⟩
 have G2':Hid (Calls _ _ _ _ _):=G2.out w1 hb1
 have HB1:=hid hb1
 have HG1:=hid hg1
 clear G1 G2 hb1 hg1 hz1
 go_wp2_with fail
 go_at_call 160
 refine Calls.mono G2'.out ?_
 rintro r w2 ⟨b2,rfl,hz2,hg2,hb2⟩
 have HB2:=hid (zB HB1.out hb2)
 have HG1':Hid (GM w2 b1 l1):=HG1.out.kept hb2
 have HG2:=hid hg2
 have G3':Hid (Calls _ _ _ _ _):=G3.out w2 HB2.out
 clear G2' G3 hb2 hg2 hz2 HG1 HB1
 go_wp2_with fail
 go_at_call 160
 refine Calls.mono G3'.out ?_
 rintro r w3 ⟨b3,rfl,hz3,hg3,hb3⟩
 have HB3:=hid (zB HB2.out hb3)
 have HG1:=hid (HG1'.out.kept hb3)
 have HG2':Hid (GM w3 b2 l2):=HG2.out.kept hb3
 have HG3:=hid hg3
 have F2':Hid (Calls _ _ _ _ _):=F2.out w3 HB3.out
 clear G3' F2 hb3 hg3 hz3 HG1' HG2 HB2
 go_wp2_with fail
 go_at_call 161
 refine Calls.mono F2'.out ?_
 rintro r w4 ⟨u2,rfl,ho2,hb4⟩
 have HB4:=hid hb4
 have HO2:=hid ho2
 have F3':Hid (Calls _ _ _ _ _):=F3.out w4 (zB HB3.out hb4)
 clear F2' F3 ho2 hb4
 obtain ⟨ua2,uc2,rfl⟩:=zw HO2.out
 go_wp2_with fail
 go_at_call 161
 refine Calls.mono F3'.out ?_
 rintro r w5 ⟨u3,rfl,ho3,hb5⟩
 have HB5:=hid (zB HB4.out hb5)
 have RI:=hid (zbn (.slice ua2 f2.length uc2) u3 f2 f3 w5 ((yq HO2.out).step hb5) (yq ho3) (by have:=HL2.out;omega) (by have:=HL3.out;omega))
 obtain ⟨ua3,uc3,rfl⟩:=zw ho3
 have HFL:Hid ((ris f2 f3).length≤200):=by show _≤_;have:=jS f2 f3;have:=HL2.out;have:=HL3.out;omega
 clear F3' ho3 hb5 HO2 HB4
 generalize ris f2 f3=F at RI HJ HF HFL
 generalize f2.length=q2 at*
 generalize f3.length=q3 at*
 go_wp2_with (go_at_call 157;refine Calls.mono RI.out ?_;rintro r w6 ⟨u6,rfl,ho6,hb6⟩;obtain ⟨ua6,uc6,rfl⟩:=zw ho6)
 have HI:=hid (xh ho6 (by have:=HFL.out;omega))
 have HB6:=hid (zB HB5.out hb6)
 have HG1':Hid (GM w6 b1 l1):=HG1.out.kept HB6.out
 have HG2:=hid (HG2'.out.kept HB6.out)
 have HG3':Hid (GM w6 b3 l3):=HG3.out.kept HB6.out
 have HBW:=hid (zB HB3.out HB6.out)
 have hl6:F.length≤200:=HFL.out
 clear RI ho6 hb6 HG1 HG2' HG3 HB6 HB5 HB3 HFL HL2 HL3
 go_loopw [11,13,14,15,28] (fun ov _ _ _ i wr=> ∃ (m:Nat) (o:List (Int×Int)),m≤F.length∧i= .int .i64 m∧Hid (Below w6.heap.size w6 wr)∧Hid (OwM w6.heap.size wr ov o)∧Hid (o.length≤m)∧Hid ((F.take m).foldl (jSt l1 l2 l3) (some [])=some o)) (fun _ _ _ _ i _=>F.length - (intOf i).toNat)
 case atStart=>exact ⟨0,[],Nat.zero_le _,rfl,Below.refl _ _,World.ownsRow_nil _ _ _ _,Nat.le_refl _,rfl⟩
 case round=>
  obtain ⟨m,o,hm,rfl,HB,HO,HOL,HJM⟩:=hrel
  by_cases hlt:m<F.length
  ·have HI':=HI.out
   obtain ⟨ia,ic,hie,_,hicap,hcl⟩:=HI'
   obtain ⟨blk,hblk0,hblk,hcell⟩:=hcl m hlt
   have e1:ua6=some ⟨blk,0,none⟩∧uc6=ic:=by
    injection hie with q1 q2 q3
    exact ⟨q1.trans hblk0,q3⟩
   obtain ⟨rfl,rfl⟩:=e1
   have hc1:=zD hcell HB.out
   have hf:=HF.out F[m] (List.getElem_mem hlt)
   have HSt:Hid ((F.take (m+1)).foldl (jSt l1 l2 l3) (some [])=jSt l1 l2 l3 (some o) F[m]):=by
    show _=_
    rw [List.take_succ_eq_append_getElem hlt,List.foldl_append,HJM.out];rfl
   have HNo:Hid (jSt l1 l2 l3 (some o) F[m]=none→J=none):=fun q=>by
    rw [HJ.out,←List.take_append_drop (m+1) F,List.foldl_append,HSt.out,q]
    exact zcA l1 l2 l3 _
   clear hcl hcell hie hblk0 HJM
   generalize F[m]=f at hc1 hf HSt HNo
   have HKY:=hid (zhB hf.1 hf.2)
   have L1:=hid (HG1'.out.kept HB.out)
   have L2:=hid (HG2.out.kept HB.out)
   have L3:=hid (HG3'.out.kept HB.out)
   have hJS:jSt l1 l2 l3 (some o) f=(yD (gl l1 f) (gl l2 f) (gl l3 f)).map fun p=>if p.2 then o++[(f,p.1)] else o:=rfl
   rw [hJS] at HSt HNo
   clear hJS hf
   obtain ⟨⟨t1,k1⟩,E1⟩: ∃ p,gl l1 f=p:=⟨_,rfl⟩
   obtain ⟨⟨t2,k2⟩,E2⟩: ∃ p,gl l2 f=p:=⟨_,rfl⟩
   obtain ⟨⟨t3,k3⟩,E3⟩: ∃ p,gl l3 f=p:=⟨_,rfl⟩
   have HE1:=hid E1
   have HE2:=hid E2
   have HE3:=hid E3
   rw [E1,E2,E3] at HSt HNo
   clear E1 E2 E3
   have OG:Hid (∀ W,Calls Tryz.prog 162 #[.agg #[.int .i64 t1,.bool k1],.agg #[.int .i64 t2,.bool k2],.agg #[.int .i64 t3,.bool k3]] W fun r w'=>r= .returned (.tuple #[gV ((yD (t1,k1) (t2,k2) (t3,k3)).getD (0,false)),.bool (yD (t1,k1) (t2,k2) (t3,k3)).isSome])∧Below W.heap.size W w'):=fun W=>zge t1 t2 t3 k1 k2 k3 W
   generalize yD (t1,k1) (t2,k2) (t3,k3)=z at OG HSt HNo
   cases z with
   |none=>
    have HN:=hid (HNo.out rfl)
    have OG':Hid (∀ W,Calls Tryz.prog 162 #[.agg #[.int .i64 t1,.bool k1],.agg #[.int .i64 t2,.bool k2],.agg #[.int .i64 t3,.bool k3]] W fun r w'=>r= .returned (.tuple #[.agg #[.int .i64 0,.bool false],.bool false])∧Below W.heap.size W w'):=OG.out
    clear OG HNo HSt HO
    go_wp2_with (first
     |(at_lookup;first|refine yE _ rfl _ _ rfl b1 l1 rfl L1.out f rfl HKY.out t1 k1 HE1.out ?_|refine yE _ rfl _ _ rfl b2 l2 rfl L2.out f rfl HKY.out t2 k2 HE2.out ?_|refine yE _ rfl _ _ rfl b3 l3 rfl L3.out f rfl HKY.out t3 k3 HE3.out ?_)
     |(go_at_call 162;refine Calls.mono (OG'.out _) ?_;rintro r w7 ⟨rfl,hb7⟩)
     |go_in)
    go_ret2
    refine ⟨_,by rw [HN.out];rfl,by rw [HN.out];exact World.ownsRow_nil _ _ _ _,zB HBW.out (zB HB.out (zB hb7 (zC _ _)))⟩
   |some p=>
    obtain ⟨pt,pk⟩:=p
    have OG':Hid (∀ W,Calls Tryz.prog 162 #[.agg #[.int .i64 t1,.bool k1],.agg #[.int .i64 t2,.bool k2],.agg #[.int .i64 t3,.bool k3]] W fun r w'=>r= .returned (.tuple #[.agg #[.int .i64 pt,.bool pk],.bool true])∧Below W.heap.size W w'):=OG.out
    clear OG HNo
    have hzr:w6.heap.size≤wr.heap.size:=HB.out.size
    have hol:o.length≤200:=Nat.le_trans HOL.out (by omega)
    obtain ⟨oa,oc,rfl⟩:=zo (zr HO.out (by omega)).2
    go_upto_region 9 with (first
     |(at_lookup;first|refine yE _ rfl _ _ rfl b1 l1 rfl L1.out f rfl HKY.out t1 k1 HE1.out ?_|refine yE _ rfl _ _ rfl b2 l2 rfl L2.out f rfl HKY.out t2 k2 HE2.out ?_|refine yE _ rfl _ _ rfl b3 l3 rfl L3.out f rfl HKY.out t3 k3 HE3.out ?_)
     |(go_at_call 162;refine Calls.mono (OG'.out _) ?_;rintro r w7 ⟨rfl,hb7⟩)
     |go_in)
    have n0:(w7.alloc (.cells #[.int .i64 pt,.bool pk] 197)).cell? ⟨w7.heap.size,0,none⟩=some (.int .i64 pt):=by rw [World.cell?_alloc_new];rfl
    have n1:(w7.alloc (.cells #[.int .i64 pt,.bool pk] 197)).cell? ⟨w7.heap.size,1,none⟩=some (.bool pk):=by rw [World.cell?_alloc_new];rfl
    have HB7:Hid (Below wr.heap.size wr (w7.alloc (.cells #[.int .i64 pt,.bool pk] 197))):=zB hb7 (zC _ _)
    clear hb7 OG' L1 L2 L3 HE1 HE2 HE3 HKY hc1
    generalize w7.alloc (.cells #[.int .i64 pt,.bool pk] 197)=wq at n0 n1 HB7 ⊢
    have hzq:w6.heap.size≤wq.heap.size:=Nat.le_trans hzr HB7.out.size
    cases pk with
    |false=>
     have HSt':Hid ((F.take (m+1)).foldl (jSt l1 l2 l3) (some [])=some o):=HSt.out
     clear HSt
     go_wp2
     go_roundw
     case rel=>exact ⟨m+1,o,by omega,by go_num,zB HB.out HB7.out,zU HO.out HB7.out,Nat.le_succ_of_le HOL.out,HSt'.out⟩
     case measure=>simp [intOf];omega
    |true=>
     have HSt':Hid ((F.take (m+1)).foldl (jSt l1 l2 l3) (some [])=some (o++[(f,pt)])):=HSt.out
     have OW1:Hid (OwM w6.heap.size (wq.alloc (.cells #[.int .i64 f,.int .i64 pt] 114)) (.slice oa o.length oc) o):=zU HO.out (zB HB7.out (zC _ _))
     have NC:Hid (_):=zeT wq f pt
     clear HSt
     go_upto_region 11 with (first
      |(at_builtin;refine wpList_append_own _ rfl _ _ 46 rfl w6.heap.size 114 i1 (.agg #[.int .i64 0,.int .i64 0]) 2 16 Tryz.underlying46 hi1 hy0 hy1 hy2 rfl (by decide) _ _ _ rfl OW1.out ⟨wq.heap.size,0,none⟩ 1 1 (yF [(f,pt)]) rfl rfl NC.out (xH _) (by unfold maxLen;omega) (by omega) (by simp;omega) ?_;intro v' w8 hown' hgrow _;obtain ⟨g',cap',rfl⟩:=ownsRow_succ hown')
      |go_in)
     have OW2:Hid (OwM w6.heap.size w8 (.slice (some ⟨g',0,none⟩) (o.length+1) cap') (o++[(f,pt)])):=by
      show World.ownsRow _ _ _ _ _ _ _
      rw [List.length_append,zaj]
      exact hown'
     have HB8:Hid (Below w6.heap.size w6 w8):=(zB HB.out (zB HB7.out (zC wq (.cells #[.int .i64 f,.int .i64 pt] 114)))).grown (show (wq.alloc (.cells #[.int .i64 f,.int .i64 pt] 114)).grownBy w8 (Value.slice oa o.length oc).ownBlock from hgrow) (by rw [World.size_alloc];omega) (fun k q=>(World.ownsRow.lt OW1.out k q).1)
     clear hown' hgrow OW1 NC HO HB HB7
     go_wp2
     go_roundw
     case rel=>exact ⟨m+1,o++[(f,pt)],by omega,by go_num,HB8.out,OW2.out,by show _≤_;rw [List.length_append];have:=HOL.out;simp;omega,HSt'.out⟩
     case measure=>simp [intOf];omega
  ·have HE:Hid (J=some o):=by
    show _=_
    rw [HJ.out,←HJM.out,List.take_of_length_le (by omega)]
   have hol:o.length≤200:=Nat.le_trans HOL.out (by omega)
   obtain ⟨oa,oc,rfl⟩:=zo (zr HO.out (by omega)).2
   clear HI HF HJM
   go_wp2
   go_ret2
   exact ⟨_,by rw [HE.out];rfl,by rw [HE.out];exact zW HO.out HBW.out.size,zB HBW.out HB.out⟩
end Go.Proofs.YtpeafgddbbojaaaGreatDoor
namespace Go.Proofs.YtpeafgddbbojaaaGreatDoor
open Go Go.RowKit Go.Maps Go.Sort Cal
def kb(E:EV):List UInt8:=E.id.data.toList
theorem ziU{a b:ByteArray}(h:a.data.toList=b.data.toList):a=b:=by
 cases a;cases b
 simpa [Array.toList_inj] using h
theorem zlG{E F:EV}(h:kb E=kb F):E.id=F.id:=ziU h
def ltE(E F:EV):Bool:=Op.bytesLess E.id.toList F.id.toList
theorem zjO(E F:EV):ltE E F=decide (kb E<kb F):=by
 unfold ltE kb
 rw [bytesLess_eq,ByteArray.toList_eq,ByteArray.toList_eq]
theorem zgY{x y:List UInt8}(h: ¬ x<y)(hne:y≠x):y<x:=by
 by_cases q:y<x
 ·exact q
 ·exact absurd (List.le_antisymm (List.not_lt.1 h) (List.not_lt.1 q)) hne
def zgZ(E:EV):List EV→List EV
 |[]=>[E]
 |F::r=>if ltE E F then E::F::r else F::zgZ E r
def woC(id:ByteArray)(C:List EV):List EV:=C.filter fun F=>decide (F.id≠id)
def jL(E:EV)(C:List EV):List EV:=zgZ E (woC E.id C)
def Rises(C:List EV):Prop:=C.Pairwise fun a b=>kb a<kb b
theorem zcp{E F:EV}: ∀ {C:List EV},F∈zgZ E C↔F=E∨F∈C
 |[]=>by simp [zgZ]
 |Y::r=>by
  unfold zgZ
  split
  ·simp
  ·rw [List.mem_cons,zcp,List.mem_cons]
   constructor
   ·rintro (h|h|h)
    ·exact .inr (.inl h)
    ·exact .inl h
    ·exact .inr (.inr h)
   ·rintro (h|h|h)
    ·exact .inr (.inl h)
    ·exact .inl h
    ·exact .inr (.inr h)
theorem jl(E:EV): ∀ C:List EV,(zgZ E C).length=C.length+1
 |[]=>rfl
 |Y::r=>by
  unfold zgZ
  split
  ·rfl
  ·rw [List.length_cons,jl E r];rfl
theorem zbS{E:EV}: ∀ {C:List EV},Rises C→(∀ F∈C,F.id≠E.id)→Rises (zgZ E C)
 |[],_,_=>List.pairwise_singleton _ _
 |Y::r,h,hn=>by
  obtain ⟨h1,h2⟩:=List.pairwise_cons.1 h
  unfold zgZ
  split
  ·rename_i hlt
   rw [zjO,decide_eq_true_iff] at hlt
   refine List.pairwise_cons.2 ⟨fun F hF=> ?_,h⟩
   rcases List.mem_cons.1 hF with rfl|hF
   ·exact hlt
   ·exact List.lt_trans hlt (h1 F hF)
  ·rename_i hlt
   rw [zjO,decide_eq_true_iff] at hlt
   have hYE:kb Y<kb E:=zgY hlt (fun q=>hn Y (List.mem_cons_self) (zlG q))
   refine List.pairwise_cons.2 ⟨fun F hF=> ?_,zbS h2 (fun F hF=>hn F (List.mem_cons_of_mem _ hF))⟩
   rcases zcp.1 hF with rfl|hF
   ·exact hYE
   ·exact h1 F hF
theorem zg0{id:ByteArray}{C:List EV}{F:EV}:F∈woC id C↔F∈C∧F.id≠id:=by
 unfold woC
 rw [List.mem_filter,decide_eq_true_iff]
theorem zg1{id:ByteArray}{C:List EV}(h:Rises C):Rises (woC id C):=h.filter _
theorem yY{E:EV}{C:List EV}{F:EV}:F∈jL E C↔F=E∨(F∈C∧F.id≠E.id):=by
 unfold jL
 rw [zcp,zg0]
theorem xo{E:EV}{C:List EV}(h:Rises C):Rises (jL E C):=zbS (zg1 h) (fun _ hF=>(zg0.1 hF).2)
theorem Rises.uniq{C:List EV}(h:Rises C){E F:EV}(hE:E∈C)(hF:F∈C)(e:E.id=F.id):E=F:=by
 induction C with
 |nil=>cases hE
 |cons Y r ih=>
  obtain ⟨h1,h2⟩:=List.pairwise_cons.1 h
  have hk:kb E=kb F:=by unfold kb;rw [e]
  rcases List.mem_cons.1 hE with rfl|hE'<;>rcases List.mem_cons.1 hF with rfl|hF'
  ·rfl
  ·exact absurd (h1 F hF') (by rw [hk];exact List.lt_irrefl _)
  ·exact absurd (h1 E hE') (by rw [hk];exact List.lt_irrefl _)
  ·exact ih h2 hE' hF'
theorem zcq{id:ByteArray}{C:List EV}(h: ∀ F∈C,F.id≠id):woC id C=C:=by
 unfold woC
 rw [List.filter_eq_self]
 exact fun F hF=>decide_eq_true (h F hF)
theorem zg2{E:EV}{C:List EV}(h:Rises C)(hE:E∈C):(woC E.id C).length+1=C.length:=by
 induction C with
 |nil=>cases hE
 |cons Y r ih=>
  obtain ⟨h1,h2⟩:=List.pairwise_cons.1 h
  by_cases e:Y.id=E.id
  ·have hr:woC E.id r=r:=zcq (fun F hF q=>by
    have:=h1 F hF
    unfold kb at this
    rw [e,q] at this
    exact List.lt_irrefl _ this)
   have:woC E.id (Y::r)=woC E.id r:=by unfold woC;rw [List.filter_cons_of_neg];simp [e]
   rw [this,hr];rfl
  ·have hE':E∈r:=by
    rcases List.mem_cons.1 hE with rfl|q
    ·exact absurd rfl e
    ·exact q
   have:woC E.id (Y::r)=Y::woC E.id r:=by unfold woC;rw [List.filter_cons_of_pos];simp [e]
   rw [this,List.length_cons,ih h2 hE'];rfl
structure Holds(N:Nat→Prop)(W:World)(D:DataW Value)(C:List EV):Prop where
 up:Rises C
 tidy:Tidy D
 size:Maps.size D=C.length
 has: ∀ x:List UInt8,Maps.has D (.string x)=true↔ ∃ E∈C,kb E=x
 at_: ∀ E∈C,(EW E∧E.ds.length≤20)∧ ∃ sl skv mvv,D.atKey (key E.id) (.held zV)= .held (ev E sl skv mvv)∧Off N W E sl skv mvv
theorem Holds.none(N:Nat→Prop)(W:World):Holds N W (.map []) []:=
 ⟨List.Pairwise.nil,⟨[],rfl,List.Pairwise.nil⟩,rfl,fun x=>by simp [has_eq],fun E h=>absurd h (by simp)⟩
end Go.Proofs.YtpeafgddbbojaaaGreatDoor
