import Derived.Test.YtpeafgddbbojaaaGreatDoorJqAA
import Derived.Test.YtpeafgddbbojaaaGreatDoorJqAS
import Derived.Test.YtpeafgddbbojaaaGreatDoorJqAF
import Derived.Test.YtpeafgddbbojaaaGreatDoorJqAU
import Derived.BigQuiet
import Derived.BigRegion
import Derived.Test.YtpeafgddbbojaaaGreatDoorJqAH
import Derived.Deep.DeepCutAuto
import Derived.Test.YtpeafgddbbojaaaGreatDoorJqAP
import Derived.Test.YtpeafgddbbojaaaGreatDoorJqAD
import Derived.Laws.StructEq
import Derived.Test.YtpeafgddbbojaaaGreatDoorJqAK
import Derived.Deep.RegionHeld3
import Derived.Deep.CutRange
import Derived.Deep.LoopGhost
namespace Go.Proofs.YtpeafgddbbojaaaGreatDoor
open Go Go.RowKit Cal
attribute [local go_sem] Oper.semAt_some
def zaI(l:List UInt8):Option Int:=if l.length≤9 then (match Lib.atoi l with|some n=>if 0≤n∧Lib.itoa n=l then some n else none|none=>none) else none
theorem zeB{l:List UInt8}{n:Int}(h:zaI l=some n):l.length≤9∧Lib.atoi l=some n∧0≤n∧Lib.itoa n=l:=by
 unfold zaI at h
 split at h
 ·rename_i h9
  cases ha:Lib.atoi l with
  |none=>rw [ha] at h;cases h
  |some m=>
   rw [ha] at h
   dsimp only at h
   split at h
   ·rename_i hq
    cases h
    exact ⟨h9,rfl,hq⟩
   ·cases h
 ·cases h
def zbL(l:List UInt8):Int:=match zaI l with|some n=>n|none=> -1
def ziK(l:List UInt8):Prop:=1≤l.length∧l.length≤9∧(1<l.length→l[0]? ≠some 48)∧zbN l
theorem zdF: ∀ (n u:Nat),u≤n→(Lib.decDigits u)[0]? =some 48→u=0
 |n,u,hn,h=>by
  by_cases hu:u<10
  ·rw [Lib.decDigits_one hu] at h
   have h2:UInt8.ofNat (48+u)=48:=by simpa using h
   have h3:=congrArg UInt8.toNat h2
   simp at h3
   omega
  ·cases n with
   |zero=>omega
   |succ n=>
    rw [Lib.decDigits,dif_neg hu] at h
    have hp:0<(Lib.decDigits (u / 10)).length:=by rw [Lib.decDigits_length];exact Lib.nDigits_pos _
    rw [List.getElem?_append_left hp] at h
    have:=zdF n (u / 10) (by omega) h
    omega
theorem zdG{P:List UInt8→Prop}(h0:P [])(h1: ∀ l c,P l→P (l++[c]))(l:List UInt8):P l:=by
 rw [←List.reverse_reverse l]
 induction l.reverse with
 |nil=>exact h0
 |cons a r ih=>rw [List.reverse_cons];exact h1 _ _ ih
theorem jU(l:List UInt8):zbN l→0≤val l:=by
 induction l using zdG with
 |h0=>intro _;simp [val]
 |h1 l c ih=>
  intro h
  rw [jC]
  have h1:=ih (fun x hx=>h x (List.mem_append_left _ hx))
  have h2:=h c (List.mem_append_right _ (List.mem_singleton.2 rfl))
  omega
theorem zfu: ∀ (n:Nat)(l:List UInt8),l.length=n+1→zbN l→(1<l.length→l[0]? ≠some 48)→Lib.decDigits (val l).toNat=l
 |0,l,hl,hd,_=>by
  match l,hl with
  |[c],_=>
   have hc:=hd c List.mem_cons_self
   have e:(val [c]).toNat=c.toNat - 48:=by simp [val];omega
   rw [e,Lib.decDigits_one (by omega)]
   congr 1
   apply UInt8.toNat_inj.1
   simp
   omega
 |n+1,l,hl,hd,hz=>by
  obtain ⟨l',c,rfl⟩: ∃ l' c,l=l'++[c]:=by
   have hne:l≠[]:=by intro q;rw [q] at hl;simp at hl
   exact ⟨l.dropLast,l.getLast hne,(List.dropLast_concat_getLast hne).symm⟩
  have hl':l'.length=n+1:=by simp at hl;exact hl
  have hd':zbN l':=fun x hx=>hd x (List.mem_append_left _ hx)
  have hc:=hd c (List.mem_append_right _ (List.mem_singleton.2 rfl))
  have h0:(l'++[c])[0]? =l'[0]? :=List.getElem?_append_left (by omega)
  have hz':l'[0]? ≠some 48:=by rw [←h0];exact hz (by simp;omega)
  have ih:=zfu n l' hl' hd' (fun _=>hz')
  have hn:=jU l' hd'
  have hpos:val l'≠0:=fun q=>by
   rw [q] at ih
   rw [←ih] at hz'
   exact hz' (by rw [show (Int.toNat 0)=0 from rfl,Lib.decDigits_one (by omega)];rfl)
  have e:(val (l'++[c])).toNat=(val l').toNat*10+(c.toNat - 48):=by rw [jC];omega
  rw [e,Lib.decDigits,dif_neg (by omega),show ((val l').toNat*10+(c.toNat - 48)) / 10=(val l').toNat by omega,show ((val l').toNat*10+(c.toNat - 48)) % 10=c.toNat - 48 by omega,ih]
  congr 2
  apply UInt8.toNat_inj.1
  simp
  omega
theorem zh1{l:List UInt8}(h:ziK l):Lib.itoa (val l)=l:=by
 obtain ⟨h1,h2,h3,h4⟩:=h
 have hn:=jU l h4
 obtain ⟨u,hu⟩: ∃ u:Nat,val l=u:=⟨(val l).toNat,by omega⟩
 have:=zfu (l.length - 1) l (by omega) h4 h3
 rw [hu,Int.toNat_natCast] at this
 rw [hu,Lib.itoa_nonneg]
 exact this
theorem zgo{l:List UInt8}(h:ziK l):zaI l=some (val l):=by
 have e:=zh1 h
 have hn:=jU l h.2.2.2
 have ha:=zag (val l) hn
 rw [e] at ha
 unfold zaI
 rw [if_pos h.2.1,ha]
 dsimp only
 rw [if_pos ⟨hn,e⟩]
theorem zk5{l:List UInt8}{n:Int}(h:zaI l=some n):ziK l:=by
 obtain ⟨h1,_,h3,h4⟩:=zeB h
 obtain ⟨u,rfl⟩: ∃ u:Nat,n=u:=⟨n.toNat,by omega⟩
 have e:=h4
 rw [Lib.itoa_nonneg] at e
 refine ⟨?_,h1,fun hl q=> ?_,?_⟩
 ·rw [←e,Lib.decDigits_length];exact Lib.nDigits_pos _
 ·rw [←e] at q
  have:=zdF u u (Nat.le_refl _) q
  subst this
  rw [←e,Lib.decDigits_one (by omega)] at hl
  simp at hl
 ·rw [←h4];exact xA _ h3
theorem zh2{l:List UInt8}(h:ziK l):zbL l=val l:=by unfold zbL;rw [zgo h]
theorem zab{l:List UInt8}(h: ¬ ziK l):zbL l= -1:=by
 unfold zbL
 cases hq:zaI l with
 |none=>rfl
 |some n=>exact absurd (zk5 hq) h
theorem zjo(l:List UInt8)(h:zbN l)(hl:l.length≤9):0≤val l∧val l≤999999999:=by
 have key: ∀ (l:List UInt8),zbN l→0≤val l∧val l<10 ^ l.length:=fun l=>by
  induction l using zdG with
  |h0=>intro _;simp [val]
  |h1 l c ih=>
   intro h
   have h1:=ih (fun x hx=>h x (List.mem_append_left _ hx))
   have h2:=h c (List.mem_append_right _ (List.mem_singleton.2 rfl))
   rw [jC,List.length_append,List.length_singleton,Int.pow_succ]
   omega
 have h1:=key l h
 have h2:(10:Nat) ^ l.length≤10 ^ 9:=Nat.pow_le_pow_right (by decide) hl
 have h3:((10:Int) ^ l.length)=((10 ^ l.length:Nat):Int):=by simp
 have h4:(10:Nat) ^ 9=1000000000:=by decide
 rw [h3] at h1
 omega
set_option maxRecDepth 100000 in
set_option maxHeartbeats 1000000 in
theorem vJ(s:ByteArray)(w:World):
  Calls Tryz.prog 83 #[.string s,.int .i64 9] w fun e w'=>e= .returned (.int .i64 (zbL s.data.toList))∧w'=w:=by
 have hsz:s.data.toList.length=s.size:=(Lib.size_eq s).symm
 by_cases h1:s.size<1
 ·have hc: ¬ ziK s.data.toList:=fun q=>by have:=q.1;omega
  rw [zab hc]
  have h1':(s.size:Int)<1:=by omega
  clear hsz hc
  go_enter Tryz.func83,Tryz.ntmps83
  go_wp2
  go_ret
  exact ⟨rfl,rfl⟩
 ·have h1':(1:Int)≤(s.size:Int):=by omega
  by_cases h9:9<s.size
  ·have hc: ¬ ziK s.data.toList:=fun q=>by have:=q.2.1;omega
   rw [zab hc]
   have h9':(9:Int)<(s.size:Int):=by omega
   clear hsz hc
   go_enter Tryz.func83,Tryz.ntmps83
   go_wp2
   go_ret
   exact ⟨rfl,rfl⟩
  ·have h9':(s.size:Int)≤9:=by omega
   have hs0:0<s.size:=by omega
   have e0:s.data.toList[0]? =some s[0]:=Lib.data_getElem? s 0 hs0
   by_cases hz:1<s.size∧s[0]=48
   ·obtain ⟨hz1,hz2⟩:=hz
    have hc: ¬ ziK s.data.toList:=fun q=>q.2.2.1 (by omega) (by rw [e0,hz2])
    rw [zab hc]
    have hz1':(1:Int)<(s.size:Int):=by omega
    clear hsz hc e0
    go_enter Tryz.func83,Tryz.ntmps83
    go_wp2
    go_ret
    exact ⟨rfl,rfl⟩
   ·have HSZ:=hid hsz
    have HZ:Hid (1<s.data.toList.length→s.data.toList[0]? ≠some 48):=fun q1 q2=>hz ⟨by omega,by rw [e0] at q2;exact Option.some.inj q2⟩
    have hzz:((s.size:Int)≤1∧True)∨((1:Int)<(s.size:Int)∧((s[0].toNat:Int)==48)=false):=by
     rcases Nat.lt_or_ge 1 s.size with q|q
     ·right
      refine ⟨by omega,beq_eq_false_iff_ne.2 (fun q2=> ?_)⟩
      exact hz ⟨q,UInt8.toNat_inj.1 (by show s[0].toNat=48;omega)⟩
     ·left;exact ⟨by omega,trivial⟩
    clear hsz e0 hz
    rcases hzz with ⟨hq,hq2⟩|⟨hq,hq2⟩
    all_goals
     go_enter Tryz.func83,Tryz.ntmps83
     go_wp2
     go_loop [5,6] (fun n i=> ∃ k:Nat,k≤s.size∧i= .int .i64 k∧n= .int .i64 (val (s.data.toList.take k))∧Hid (zbN (s.data.toList.take k))) (fun _ i=>s.size - (intOf i).toNat)
     case atStart=>exact ⟨0,Nat.zero_le _,rfl,rfl,fun c hc=>by simp at hc⟩
     case round=>
      obtain ⟨k,hk,rfl,rfl,HD⟩:=hrel
      have hb:=zjo _ HD.out (by rw [List.length_take,HSZ.out];omega)
      by_cases hlt:k<s.size
      ·have hmem:s[k]∈s.data.toList:=List.mem_of_getElem? (Lib.data_getElem? s k hlt)
       by_cases hlo:(s[k].toNat:Int)<48
       ·have hc: ¬ ziK s.data.toList:=fun q=>by have:=q.2.2.2 _ hmem;omega
        have HCN:=hid (zab hc)
        clear hc hmem
        go_wp2
        go_ret
        exact ⟨by rw [HCN.out];rfl,rfl⟩
       ·by_cases hhi:(57:Int)<(s[k].toNat:Int)
        ·have hc: ¬ ziK s.data.toList:=fun q=>by have:=q.2.2.2 _ hmem;omega
         have HCN:=hid (zab hc)
         clear hc hmem
         go_wp2
         go_ret
         exact ⟨by rw [HCN.out];rfl,rfl⟩
        ·have hc:48≤(s[k].toNat:Int)∧(s[k].toNat:Int)≤57:=⟨by omega,by omega⟩
         have HS:Hid (val (s.data.toList.take (k+1))=10*val (s.data.toList.take k)+((s[k].toNat:Int) - 48)):=by show _=_;rw [vg s k hlt,jC];omega
         have HD2:Hid (zbN (s.data.toList.take (k+1))):=by
          show zbN _
          rw [vg s k hlt]
          intro x hx
          rcases List.mem_append.1 hx with q|q
          ·exact HD.out x q
          ·rw [List.mem_singleton.1 q];exact hc
         clear hmem
         go_wp2
         go_round
         case rel=>exact ⟨k+1,by omega,by go_num,by rw [HS.out],HD2.out⟩
         case measure=>simp [intOf];omega
      ·have hcn:zbL s.data.toList=val (s.data.toList.take k):=by
        have e:s.data.toList.take k=s.data.toList:=List.take_of_length_le (by rw [HSZ.out];omega)
        have hd:=HD.out
        rw [e] at hd ⊢
        exact zh2 ⟨by rw [HSZ.out];omega,by rw [HSZ.out];omega,HZ.out,hd⟩
       have HCN:=hid hcn
       clear hcn
       go_wp2
       go_ret
       exact ⟨by rw [HCN.out];rfl,rfl⟩
theorem zav(n:Int)(h0:0≤n)(h1:n≤999999):zbL (Lib.itoa n)=n:=by
 unfold zbL zaI
 have:=yw n h0 h1
 rw [if_pos (by omega),zag n h0]
 dsimp only
 rw [if_pos ⟨h0,rfl⟩]
end Go.Proofs.YtpeafgddbbojaaaGreatDoor
namespace Go.Proofs.YtpeafgddbbojaaaGreatDoor
open Go Go.RowKit Go.Sort Cal
attribute [local go_sem] Oper.semAt_some
theorem zk1: ∀ i j:Fin 7,nm ((i.val:Nat):Int)=nm ((j.val:Nat):Int)→i=j:=by decide
theorem zm4{i j:Nat}(hi:i<7)(hj:j<7)(h:nm (i:Int)=nm (j:Int)):i=j:=congrArg Fin.val (zk1 ⟨i,hi⟩ ⟨j,hj⟩ h)
theorem nm_len(d:Int):(nm d).length≤2:=by
 unfold nm
 repeat' split
 all_goals decide
theorem zj3{a b:List UInt8}:((bs a).toList==(bs b).toList)=decide (a=b):=by
 rw [ByteArray.toList_eq,ByteArray.toList_eq,zh,zh]
 by_cases h:a=b
 ·subst h;simp
 ·rw [decide_eq_false h,beq_eq_false_iff_ne];exact h
theorem xS{base n:Nat}{W:World}{a:Option Addr}{c m:Nat}{l:List (List UInt8)}(h:W.ownsRow base 9 1 (.slice a m c) n (l.map sv))(hn:n=l.length){j:Nat}(hj:j<l.length): ∃ b,a=some ⟨b,0,none⟩∧base≤b∧b<W.heap.size∧W.cell? ⟨b,j,none⟩=some (.string (bs l[j])):=by
 subst hn
 rcases h.2 with ⟨e,e0⟩|⟨g,cap,cur,e,hb,hg,hcp,hmx,hsz,htk⟩
 ·omega
 ·injection e with e1 e2 e3
  subst e1 e2 e3
  refine ⟨g,rfl,hb,(Array.getElem?_eq_some_iff.1 hg).1,?_⟩
  have h':W.ownsRow base 9 1 (.slice (some ⟨g,0,none⟩) l.length c) l.length (l.map sv):=h
  rw [h'.cellAt j (by omega),List.getElem?_map,List.getElem?_eq_getElem hj];rfl
set_option maxHeartbeats 4000000 in
set_option maxRecDepth 100000 in
theorem zjl(ds:List Nat)(w:World)(hd: ∀ d∈ds,d<7)(hne:ds≠[])(h20:ds.length≤20):
  Calls Tryz.prog 136 #[.string (bs (Lib.join (ds.map fun (d:Nat)=>nm (d:Int)) [44]))] w fun r w'=> ∃ a c,r= .returned (.tuple #[.slice a ds.length c,.bool true])∧w'.ownsRow w.heap.size 3 1 (.slice a ds.length c) ds.length (ds.map fun (d:Nat)=>Value.int .i64 (d:Int))∧Below w.heap.size w w':=by
 obtain ⟨i0,hi,hz0,hz1,hz2⟩:=info_parts yZ
 have hno: ∀ x∈(ds.map fun (d:Nat)=>nm (d:Int)),(44:UInt8)∉x:=fun x hx=>by
  obtain ⟨d,_,rfl⟩:=List.mem_map.1 hx
  unfold nm
  repeat' split
  all_goals decide
 have hpc:zZ 44 (Lib.join (ds.map fun (d:Nat)=>nm (d:Int)) [44])=ds.map fun (d:Nat)=>nm (d:Int):=yg 44 _ (by simp [hne]) hno
 have hlen:(bs (Lib.join (ds.map fun (d:Nat)=>nm (d:Int)) [44])).size≤100000:=by
  rw [Lib.size_eq,zh]
  have key: ∀ l:List Nat,(Lib.join (l.map fun (d:Nat)=>nm (d:Int)) [44]).length≤l.length*3:=fun l=>by
   induction l with
   |nil=>simp [Lib.join_nil]
   |cons d r ih=>
    cases r with
    |nil=>
     rw [List.map_cons,List.map_nil,Lib.join_one]
     have:=nm_len (d:Int)
     simp;omega
    |cons e r=>
     have h1:=nm_len (d:Int)
     have h2:Lib.join ((d::e::r).map fun (d:Nat)=>nm (d:Int)) [44]=nm (d:Int)++[44]++Lib.join ((e::r).map fun (d:Nat)=>nm (d:Int)) [44]:=by
      simp [Lib.join,List.intercalate]
     rw [h2,List.length_append,List.length_append]
     simp only [List.length_cons,List.length_nil] at ih ⊢
     omega
  have:=key ds
  omega
 have CU:=xR (bs (Lib.join (ds.map fun (d:Nat)=>nm (d:Int)) [44])) 44 w hlen
 rw [zh,hpc] at CU
 have CUT:=hid CU
 clear CU hpc hlen hno
 generalize bs (Lib.join (ds.map fun (d:Nat)=>nm (d:Int)) [44])=tx at CUT
 have WN:Hid (∀ W,_):=fun W=>xF W
 have HD:=hid hd
 have hlm:(ds.map fun (d:Nat)=>nm (d:Int)).length=ds.length:=List.length_map _
 clear hd hne
 go_enter Tryz.func136,Tryz.ntmps136
 go_upto_region 2 with (go_at_call 50;refine Calls.mono CUT.out ?_;rintro r w1 ⟨hb1,vw,rfl,hrow⟩;obtain ⟨la,lc,rfl⟩:=zQ hrow)
 have HROW:Hid (∀ W,Below w1.heap.size w1 W→ ∀ (j:Nat) (hj:j<ds.length),∃ b,la=some ⟨b,0,none⟩∧W.cell? ⟨b,j,none⟩=some (.string (bs (nm (ds[j]:Int))))):=fun W hW j hj=>by
  obtain ⟨b,e,_,_,hc⟩:=xS hrow rfl (j:=j) (by rw [hlm];exact hj)
  rw [List.getElem_map] at hc
  exact ⟨b,e,zD hc hW⟩
 have HB1:=hid hb1
 clear hrow CUT hb1 hlm
 go_wp2
 go_loopw [5,6] (fun v5 i wr=> ∃ m:Nat,m≤ds.length∧i= .int .i64 m∧Hid (Below w1.heap.size w1 wr)∧Hid (wr.ownsRow w1.heap.size 3 1 v5 m ((ds.take m).map fun (d:Nat)=>Value.int .i64 (d:Int)))) (fun _ i _=>ds.length - (intOf i).toNat)
 case atStart=>exact ⟨0,Nat.zero_le _,rfl,Below.refl _ _,World.ownsRow_nil _ _ _ _⟩
 case round=>
  obtain ⟨m,hm,rfl,HB,HO⟩:=hrel
  by_cases hlt:m<ds.length
  ·obtain ⟨b,rfl,hcell⟩:=HROW.out wr HB.out m hlt
   have hd7:=HD.out ds[m] (List.getElem_mem hlt)
   have HTK:Hid (((ds.take (m+1)).map fun (d:Nat)=>Value.int .i64 (d:Int))=((ds.take m).map fun (d:Nat)=>Value.int .i64 (d:Int))++[.int .i64 (ds[m]:Int)]):=by
    show _=_
    rw [List.take_succ_eq_append_getElem hlt,List.map_append];rfl
   clear HROW
   generalize ds[m]=d at hcell hd7 HTK
   generalize ((ds.take m).map fun (d:Nat)=>Value.int .i64 (d:Int))=xs at HO HTK
   go_upto_region 8 with (go_at_call 140;refine Calls.mono (WN.out _) ?_;rintro r w2 ⟨B,rfl,hb2,hcs⟩)
   have HCS:=hid hcs
   have hce2:=zD hcell hb2
   have HO2:=hid (zU HO.out hb2)
   have HB2:=hid (zB HB.out hb2)
   clear hcs hcell hb2 HO HB
   have hdI:(0:Int)≤(d:Int):=by omega
   go_wp2
   go_loopw [7,9] (fun v7 i W=> ∃ j q:Nat,j≤7∧i= .int .i64 j∧v7= .int .i64 (if d<j then (d:Int) else -1)∧W=w2.drewN q) (fun _ i _=>7 - (intOf i).toNat)
   case atStart=>exact ⟨0,0,by omega,rfl,by rw [if_neg (by omega)],rfl⟩
   case round=>
    obtain ⟨j,q,hj,rfl,rfl,rfl⟩:=hrel
    by_cases hj7:j<7
    ·have hcj:=HCS.out j hj7
     have hq:((bs (nm (j:Int))).toList==(bs (nm (d:Int))).toList)=decide (j=d):=by
      rw [zj3]
      by_cases z:j=d
      ·subst z;simp
      ·rw [decide_eq_false z,decide_eq_false (fun y=>z (zm4 hj7 hd7 y))]
     generalize bs (nm (j:Int))=sj at hcj hq
     generalize bs (nm (d:Int))=sd at hce2 hq
     clear HCS
     by_cases z:j=d
     ·subst z
      rw [decide_eq_true rfl] at hq
      go_wp2
      go_quiet (fail)
      go_wp2
      go_roundw
      case rel=>exact ⟨j+1,_,by omega,by go_num,by rw [if_pos (by omega)],rfl⟩
      case measure=>simp [intOf];omega
     ·rw [decide_eq_false z] at hq
      have e1:(if d<j+1 then (d:Int) else -1)=(if d<j then (d:Int) else -1):=by
       by_cases y:d<j
       ·rw [if_pos y,if_pos (by omega)]
       ·rw [if_neg y,if_neg (by omega)]
      have HE1:=hid e1
      clear e1
      generalize (if d<j then (d:Int) else -1)=kv at HE1
      go_wp2
      go_quiet (fail)
      go_wp2
      go_roundw
      case rel=>exact ⟨j+1,_,by omega,by go_num,by rw [HE1.out],rfl⟩
      case measure=>simp [intOf];omega
    ·have hj7':j=7:=by omega
     subst hj7'
     rw [if_pos hd7]
     have OW4:Hid (((w2.drewN q).alloc (.cells #[.int .i64 (d:Int)] 3)).ownsRow w1.heap.size 3 1 u5 m xs):=(zU HO2.out (zN _ _)).alloc _
     have NC:=hid (cell_one_new (w2.drewN q) (.int .i64 (d:Int)) 3)
     have HB4:Hid (Below w1.heap.size w1 ((w2.drewN q).alloc (.cells #[.int .i64 (d:Int)] 3))):=zB HB2.out (zB (zN _ _) (zC _ _))
     have hbase:w1.heap.size≤((w2.drewN q).alloc (.cells #[.int .i64 (d:Int)] 3)).heap.size:=HB4.out.size
     obtain ⟨ua,uc,rfl⟩:=zQ HO2.out
     clear HO2 HB2 HCS
     go_wp2_with (at_builtin;refine wpList_append_own _ rfl _ _ 43 rfl w1.heap.size 3 i0 (.int .i64 0) 1 8 Tryz.underlying43 hi hz0 hz1 hz2 rfl (by decide) _ _ _ rfl OW4.out ⟨(w2.drewN q).heap.size,0,none⟩ 1 1 [.int .i64 (d:Int)] rfl rfl NC.out (fun v hv=>by rw [List.mem_singleton.1 hv];rfl) (by unfold maxLen;omega) (by omega) hbase ?_;intro v' w6 hown' hgrow _)
     have HO6:Hid (w6.ownsRow w1.heap.size 3 1 v' (m+1) ((ds.take (m+1)).map fun (d:Nat)=>Value.int .i64 (d:Int))):=by
      show World.ownsRow _ _ _ _ _ _ _
      rw [HTK.out]
      exact hown'
     have HB6:Hid (Below w1.heap.size w1 w6):=HB4.out.grown hgrow HB4.out.size (fun k q=>(World.ownsRow.lt OW4.out k q).1)
     clear hown' hgrow
     go_roundw
     case rel=>exact ⟨m+1,by omega,by go_num,HB6.out,HO6.out⟩
     case measure=>simp [intOf];omega
  ·have hfin:ds.take m=ds:=List.take_of_length_le (by omega)
   have HOF:Hid (wr.ownsRow w1.heap.size 3 1 u5 ds.length (ds.map fun (d:Nat)=>Value.int .i64 (d:Int))):=by
    have:=HO.out
    rw [hfin,show m=ds.length by omega] at this
    exact this
   obtain ⟨a,c,rfl⟩:=zQ HOF.out
   clear HO hfin HROW
   go_wp2
   go_ret2
   exact ⟨a,c,rfl,zW HOF.out HB1.out.size,zB HB1.out HB.out⟩
set_option maxHeartbeats 2000000 in
set_option maxRecDepth 100000 in
theorem zjm(x:List UInt8)(w:World)(h44:(44:UInt8)∉x)(hx: ∀ j:Nat,j<7→nm (j:Int)≠x)(hl:x.length≤100):
  Calls Tryz.prog 136 #[.string (bs x)] w fun r w'=>r= .returned (.tuple #[.slice none 0 0,.bool false])∧Below w.heap.size w w':=by
 have CU:=xR (bs x) 44 w (by rw [Lib.size_eq,zh];omega)
 rw [zh,xU 44 x h44] at CU
 have CUT:=hid CU
 have WN:Hid (∀ W,_):=fun W=>xF W
 have HX:Hid (∀ j:Nat,j<7→((bs (nm (j:Int))).toList==(bs x).toList)=false):=fun j hj=>by rw [zj3,decide_eq_false (hx j hj)]
 clear CU hx h44
 go_enter Tryz.func136,Tryz.ntmps136
 go_upto_region 2 with (go_at_call 50;refine Calls.mono CUT.out ?_;rintro r w1 ⟨hb1,vw,rfl,hrow⟩;obtain ⟨la,lc,rfl⟩:=zQ hrow)
 obtain ⟨b,rfl,_,_,hcell⟩:=xS hrow rfl (j:=0) (by simp)
 simp only [List.getElem_cons_zero] at hcell
 generalize bs x=sx at CUT HX hcell
 clear hrow CUT
 go_wp2
 go_loopw [6] (fun i wr=>i= .int .i64 0∧wr=w1) (fun _ _=>0)
 case atStart=>exact ⟨rfl,rfl⟩
 case round=>
  obtain ⟨rfl,rfl⟩:=hrel
  go_upto_region 8 with (go_at_call 140;refine Calls.mono (WN.out _) ?_;rintro r w2 ⟨B,rfl,hb2,hcs⟩)
  have HCS:=hid hcs
  have hce2:=zD hcell hb2
  clear hcs hcell
  go_wp2
  go_loopw [7,9] (fun v7 i W=> ∃ j q:Nat,j≤7∧i= .int .i64 j∧v7= .int .i64 (-1)∧W=w2.drewN q) (fun _ i _=>7 - (intOf i).toNat)
  case atStart=>exact ⟨0,0,by omega,rfl,rfl,rfl⟩
  case round=>
   obtain ⟨j,q,hj,rfl,rfl,rfl⟩:=hrel
   by_cases hj7:j<7
   ·have hcj:=HCS.out j hj7
    have hq:=HX.out j hj7
    generalize bs (nm (j:Int))=sj at hcj hq
    clear HCS HX
    go_wp2
    go_quiet (fail)
    go_wp2
    go_roundw
    case rel=>exact ⟨j+1,_,by omega,by go_num,rfl,rfl⟩
    case measure=>simp [intOf];omega
   ·go_wp2
    go_ret2
    exact ⟨rfl,zB hb1 (zB hb2 (zN _ _))⟩
end Go.Proofs.YtpeafgddbbojaaaGreatDoor
namespace Go.Proofs.YtpeafgddbbojaaaGreatDoor.Cal
open Go
def rd0(s:ByteArray)(i:Nat):Int:=val (s.data.toList.take (min i 4))
def rd1(s:ByteArray)(i:Nat):Int:=val ((s.data.toList.drop 5).take (min (i - 5) 2))
def rd2(s:ByteArray)(i:Nat):Int:=val ((s.data.toList.drop 8).take (min (i - 8) 2))
def zjz(s:ByteArray)(i:Nat):Prop:= ∀ (j:Nat) (h:j<s.size),j<i→sgn j s[j]
theorem zdJ{s:ByteArray}{i:Nat}(h:zjz s i)(hi:i<s.size)(hc:sgn i s[i]):zjz s (i+1):=by
 intro j hj hji
 by_cases e:j=i
 ·subst e;exact hc
 ·exact h j hj (by omega)
theorem zlg(s:ByteArray)(a k:Nat)(h:a+k<s.size):(s.data.toList.drop a).take (k+1)=(s.data.toList.drop a).take k++[s[a+k]]:=by
 have hl:s.data.toList.length=s.size:=by simp
 rw [List.take_succ_eq_append_getElem (by rw [List.length_drop,hl];omega)]
 rw [List.getElem_drop];rfl
theorem zcN(s:ByteArray)(a k:Nat)(h:a+k<s.size):val ((s.data.toList.drop a).take (k+1))=10*val ((s.data.toList.drop a).take k)+((s[a+k].toNat:Int) - 48):=by
 rw [zlg s a k h,jC];omega
theorem zcO{s:ByteArray}{i a k:Nat}(h:zjz s i)(hk:a+k≤i)(hd: ∀ j,a≤j→j<a+k→ ¬ (j=4∨j=7))(hs:i≤s.size):zbN ((s.data.toList.drop a).take k):=by
 intro c hc
 obtain ⟨j,hj,e⟩:=List.getElem_of_mem hc
 rw [List.length_take] at hj
 rw [List.getElem_take,List.getElem_drop] at e
 have hsz:a+j<s.size:=by omega
 have:=h (a+j) hsz (by omega)
 rw [yB (hd (a+j) (by omega) (by omega))] at this
 have e2:s[a+j]=c:=by rw [←e];rfl
 rw [e2] at this
 exact this
theorem zeL(s:ByteArray)(a k:Nat)(hk:k≤4):((s.data.toList.drop a).take k).length≤4:=by rw [List.length_take];omega
theorem zmv{s:ByteArray}{i:Nat}(h:zjz s i)(hs:i≤s.size):0≤rd0 s i∧rd0 s i≤9999:=by
 have:=zfA _ (zcO (a:=0) (k:=min i 4) h (by omega) (by omega) hs) (zeL s 0 _ (by omega))
 rw [List.drop_zero] at this;exact this
theorem zmw{s:ByteArray}{i:Nat}(h:zjz s i)(hs:i≤s.size):0≤rd1 s i∧rd1 s i≤9999:=by
 by_cases h5:i≤5
 ·have e:min (i - 5) 2=0:=by omega
  unfold rd1;rw [e];simp [val]
 ·exact zfA _ (zcO (a:=5) (k:=min (i - 5) 2) h (by omega) (by omega) hs) (zeL s 5 _ (by omega))
theorem zmx{s:ByteArray}{i:Nat}(h:zjz s i)(hs:i≤s.size):0≤rd2 s i∧rd2 s i≤9999:=by
 by_cases h8:i≤8
 ·have e:min (i - 8) 2=0:=by omega
  unfold rd2;rw [e];simp [val]
 ·exact zfA _ (zcO (a:=8) (k:=min (i - 8) 2) h (by omega) (by omega) hs) (zeL s 8 _ (by omega))
theorem zjA(s:ByteArray)(i:Nat)(h:i<4)(hs:i<s.size):rd0 s (i+1)=10*rd0 s i+((s[i].toNat:Int) - 48):=by
 have:=zcN s 0 i (by omega)
 rw [List.drop_zero] at this
 unfold rd0
 have e1:min (i+1) 4=i+1:=by omega
 have e2:min i 4=i:=by omega
 rw [e1,e2,this]
 simp
theorem zjB(s:ByteArray)(i:Nat)(h0:5≤i)(h1:i<7)(hs:i<s.size):rd1 s (i+1)=10*rd1 s i+((s[i].toNat:Int) - 48):=by
 obtain ⟨k,rfl⟩: ∃ k,i=5+k:=⟨i - 5,by omega⟩
 have:=zcN s 5 k (by omega)
 unfold rd1
 have e1:min (5+k+1 - 5) 2=k+1:=by omega
 have e2:min (5+k - 5) 2=k:=by omega
 rw [e1,e2,this]
theorem zjC(s:ByteArray)(i:Nat)(h0:8≤i)(h1:i<10)(hs:i<s.size):rd2 s (i+1)=10*rd2 s i+((s[i].toNat:Int) - 48):=by
 obtain ⟨k,rfl⟩: ∃ k,i=8+k:=⟨i - 8,by omega⟩
 have:=zcN s 8 k (by omega)
 unfold rd2
 have e1:min (8+k+1 - 8) 2=k+1:=by omega
 have e2:min (8+k - 8) 2=k:=by omega
 rw [e1,e2,this]
theorem za2(s:ByteArray)(i:Nat)(h:4≤i):rd0 s (i+1)=rd0 s i:=by
 unfold rd0
 have e1:min (i+1) 4=4:=by omega
 have e2:min i 4=4:=by omega
 rw [e1,e2]
theorem za3(s:ByteArray)(i:Nat)(h:i<5∨7≤i):rd1 s (i+1)=rd1 s i:=by
 unfold rd1
 have e:min (i+1 - 5) 2=min (i - 5) 2:=by omega
 rw [e]
theorem za4(s:ByteArray)(i:Nat)(h:i<8):rd2 s (i+1)=rd2 s i:=by
 unfold rd2
 have e:min (i+1 - 8) 2=min (i - 8) 2:=by omega
 rw [e]
theorem zmy{s:ByteArray}(h:s.size=10):rd0 s 10=yS s∧rd1 s 10=mS s∧rd2 s 10=dS s:=by
 unfold rd0 rd1 rd2 yS mS dS
 rw [Lib.extract_data,Lib.extract_data,Lib.extract_data,h]
 exact ⟨rfl,rfl,rfl⟩
end Go.Proofs.YtpeafgddbbojaaaGreatDoor.Cal
namespace Go.Proofs.YtpeafgddbbojaaaGreatDoor
open Go.RowKit Cal
structure Three(N:Nat)(a b c:Int)(w:World):Prop where
 c0:w.cell? ⟨N,0,none⟩=some (.int .i64 a)
 c1:w.cell? ⟨N,1,none⟩=some (.int .i64 b)
 c2:w.cell? ⟨N,2,none⟩=some (.int .i64 c)
 f0:w.frozen? ⟨N,0,none⟩=false
 f1:w.frozen? ⟨N,1,none⟩=false
 f2:w.frozen? ⟨N,2,none⟩=false
theorem Three.set0{N:Nat}{a b c v:Int}{w:World}(h:Three N a b c w):Three N v b c (w.setCell ⟨N,0,none⟩ (.int .i64 v)).drew where
 c0:=World.cell?_setCell_same _ _ _ (u:= .int .i64 a) h.c0
 c1:=(World.cell?_setCell_other _ _ _ _ (by simp)).trans h.c1
 c2:=(World.cell?_setCell_other _ _ _ _ (by simp)).trans h.c2
 f0:=(World.frozen?_setCell _ _ _ _).trans h.f0
 f1:=(World.frozen?_setCell _ _ _ _).trans h.f1
 f2:=(World.frozen?_setCell _ _ _ _).trans h.f2
theorem Three.set1{N:Nat}{a b c v:Int}{w:World}(h:Three N a b c w):Three N a v c (w.setCell ⟨N,1,none⟩ (.int .i64 v)).drew where
 c0:=(World.cell?_setCell_other _ _ _ _ (by simp)).trans h.c0
 c1:=World.cell?_setCell_same _ _ _ (u:= .int .i64 b) h.c1
 c2:=(World.cell?_setCell_other _ _ _ _ (by simp)).trans h.c2
 f0:=(World.frozen?_setCell _ _ _ _).trans h.f0
 f1:=(World.frozen?_setCell _ _ _ _).trans h.f1
 f2:=(World.frozen?_setCell _ _ _ _).trans h.f2
theorem Three.set2{N:Nat}{a b c v:Int}{w:World}(h:Three N a b c w):Three N a b v (w.setCell ⟨N,2,none⟩ (.int .i64 v)).drew where
 c0:=(World.cell?_setCell_other _ _ _ _ (by simp)).trans h.c0
 c1:=(World.cell?_setCell_other _ _ _ _ (by simp)).trans h.c1
 c2:=World.cell?_setCell_same _ _ _ (u:= .int .i64 c) h.c2
 f0:=(World.frozen?_setCell _ _ _ _).trans h.f0
 f1:=(World.frozen?_setCell _ _ _ _).trans h.f1
 f2:=(World.frozen?_setCell _ _ _ _).trans h.f2
def zlf(y m d x:Int)(c:Int):Prop:=(vld y m d∧x=num y m d∧c=0)∨(¬ vld y m d∧x=0∧c=2)
theorem zeJ(y m d x c:Int)(w:World)(h:zlf y m d x c):
  Calls Tryz.prog 135 #[.int .i64 y,.int .i64 m,.int .i64 d] w fun e w'=>e= .returned (.tuple #[.int .i64 x,.int .i64 c])∧w'=w:=by
 rcases h with ⟨hv,rfl,rfl⟩|⟨hv,rfl,rfl⟩
 ·exact zgr y m d w hv
 ·refine zgq y m d w ?_
  rcases Int.lt_or_le d 1 with a|a
  ·exact Or.inl a
  ·rcases Int.lt_or_le (dim y m) d with b|b
   ·exact Or.inr b
   ·have:=zl8 y m (by omega)
    exact absurd ⟨this.1,this.2.1,this.2.2.1,this.2.2.2,a,b⟩ hv
set_option maxHeartbeats 4000000 in
theorem zeK(s:ByteArray)(w:World)(x c:Int)(h:s.size=10)(hr:(zj8 s∧zlf (yS s) (mS s) (dS s) x c)∨(¬ zj8 s∧x=0∧c=1)):
  Calls Tryz.prog 82 #[.string s] w fun e w'=>e= .returned (.tuple #[.int .i64 x,.int .i64 c])∧Below w.heap.size w w':=by
 have H10:=hid h
 have HR:Hid (_):=hr
 have hlo:(10:Int)≤s.size:=by omega
 have hhi:(s.size:Int)≤10:=by omega
 have hne:((s.size:Int) != 10)=false:=by simp;omega
 clear h hr
 go_enter Tryz.func82,Tryz.ntmps82
 go_wp2
 have hT:Three w.heap.size 0 0 0 (w.alloc (.cells #[.int .i64 0,.int .i64 0,.int .i64 0] 3)):=⟨by simp,by simp,by simp,by simp,by simp,by simp⟩
 have hB:Below w.heap.size w (w.alloc (.cells #[.int .i64 0,.int .i64 0,.int .i64 0] 3)):=(Below.refl _ _).alloc (Nat.le_refl _) _
 generalize w.alloc (.cells #[.int .i64 0,.int .i64 0,.int .i64 0] 3)=W at hT hB ⊢
 go_loopw [5,6] (fun k i wr=> ∃ j:Nat,j≤10∧i= .int .i64 j∧k= .int .i64 (if j≤4 then 0 else if j≤7 then 1 else 2)∧Hid (zjz s j∧Three w.heap.size (rd0 s j) (rd1 s j) (rd2 s j) wr∧Below w.heap.size w wr)) (fun _ i _=>10 - (intOf i).toNat)
 case atStart=>exact ⟨0,Nat.zero_le _,rfl,rfl,fun _ _ h=>absurd h (Nat.not_lt_zero _),hT,hB⟩
 case round=>
  obtain ⟨j,hj,rfl,rfl,hH⟩:=hrel
  clear hT hB
  obtain ⟨hok,hth,hbe⟩:=hH.out
  clear hH
  have OK:Hid (_):=hok
  clear hok
  by_cases hlt:j<10
  ·have hks:j<s.size:=by have:=H10.out;omega
   by_cases h47:j=4∨j=7
   ·have HL:Hid (sgn j s[j]↔(s[j].toNat:Int)=45):=za1 h47
    by_cases hc:(s[j].toNat:Int)=45
    ·have hc':((s[j].toNat:Int)==45)=true:=by simpa using hc
     have HO:Hid (zjz s (j+1)):=zdJ OK.out hks (HL.out.2 hc)
     clear HL OK hc
     rcases h47 with e|e
     ·have hk:(if j≤4 then (0:Int) else if j≤7 then 1 else 2)=0:=by rw [if_pos (by omega)]
      rw [hk]
      have e1:((j:Int)==4)=true:=by simp;omega
      have hj4:4≤j∧j≤4:=by omega
      clear e hk
      obtain ⟨hj4,hj5⟩:=hj4
      go_wp2
      go_roundw
      case rel=>exact ⟨j+1,by omega,by go_num,by rw [if_neg (by omega),if_pos (by omega)],HO.out,by rw [za2 s j (by omega),za3 s j (by omega),za4 s j (by omega)];exact hth,hbe⟩
      case measure=>simp [intOf];omega
     ·have hk:(if j≤4 then (0:Int) else if j≤7 then 1 else 2)=1:=by rw [if_neg (by omega),if_pos (by omega)]
      rw [hk]
      have e1:((j:Int)==4)=false:=by simp;omega
      have e2:((j:Int)==7)=true:=by simp;omega
      have hj4:7≤j∧j≤7:=by omega
      clear e hk
      obtain ⟨hj4,hj5⟩:=hj4
      go_wp2
      go_roundw
      case rel=>exact ⟨j+1,by omega,by go_num,by rw [if_neg (by omega),if_neg (by omega)],HO.out,by rw [za2 s j (by omega),za3 s j (by omega),za4 s j (by omega)];exact hth,hbe⟩
      case measure=>simp [intOf];omega
    ·have hc':((s[j].toNat:Int)==45)=false:=by simpa using hc
     have HX:Hid (x=0∧c=1):=by
      rcases HR.out with ⟨hd,_⟩|⟨_,hx⟩
      ·exact absurd (HL.out.1 (hd.2 j hks)) hc
      ·exact hx
     clear HL OK HR hc
     generalize (if j≤4 then (0:Int) else if j≤7 then 1 else 2)=kk
     rcases h47 with e|e
     ·have e1:((j:Int)==4)=true:=by simp;omega
      clear e
      go_wp2
      go_ret2
      exact ⟨by rw [HX.out.1,HX.out.2];rfl,hbe⟩
     ·have e1:((j:Int)==4)=false:=by simp;omega
      have e2:((j:Int)==7)=true:=by simp;omega
      clear e
      go_wp2
      go_ret2
      exact ⟨by rw [HX.out.1,HX.out.2];rfl,hbe⟩
   ·have HL:Hid (sgn j s[j]↔(48≤(s[j].toNat:Int)∧(s[j].toNat:Int)≤57)):=yB h47
    have e1:((j:Int)==4)=false:=by simp;omega
    have e2:((j:Int)==7)=false:=by simp;omega
    by_cases hc:48≤(s[j].toNat:Int)∧(s[j].toNat:Int)≤57
    ·have HO:Hid (zjz s (j+1)):=zdJ OK.out hks (HL.out.2 hc)
     obtain ⟨hc1,hc2⟩:=hc
     have b0:=zmv OK.out (by omega:j≤s.size)
     have b1:=zmw OK.out (by omega:j≤s.size)
     have b2:=zmx OK.out (by omega:j≤s.size)
     have r0:=hth.c0
     have r1:=hth.c1
     have r2:=hth.c2
     have z0:=hth.f0
     have z1:=hth.f1
     have z2:=hth.f2
     by_cases hs0:j<4
     ·have hk:(if j≤4 then (0:Int) else if j≤7 then 1 else 2)=0:=by rw [if_pos (by omega)]
      rw [hk]
      have HS:Hid (_):=zjA s j hs0 hks
      clear hk HL OK h47
      go_wp2
      go_region
      go_wp2
      go_roundw
      case rel=>exact ⟨j+1,by omega,by go_num,by rw [if_pos (by omega)],HO.out,by rw [HS.out,za3 s j (by omega),za4 s j (by omega)];exact hth.set0,(hbe.setCell (Nat.le_refl _) _).drew⟩
      case measure=>simp [intOf];omega
     ·by_cases hs1:j<7
      ·have hk:(if j≤4 then (0:Int) else if j≤7 then 1 else 2)=1:=by rw [if_neg (by omega),if_pos (by omega)]
       rw [hk]
       have HS:Hid (_):=zjB s j (by omega) hs1 hks
       have h5:5≤j:=by omega
       clear hk HL OK h47
       go_wp2
       go_region
       go_wp2
       go_roundw
       case rel=>exact ⟨j+1,by omega,by go_num,by rw [if_neg (by omega),if_pos (by omega)],HO.out,by rw [za2 s j (by omega),HS.out,za4 s j (by omega)];exact hth.set1,(hbe.setCell (Nat.le_refl _) _).drew⟩
       case measure=>simp [intOf];omega
      ·have hk:(if j≤4 then (0:Int) else if j≤7 then 1 else 2)=2:=by rw [if_neg (by omega),if_neg (by omega)]
       rw [hk]
       have HS:Hid (_):=zjC s j (by omega) hlt hks
       have h8:8≤j:=by omega
       clear hk HL OK h47
       go_wp2
       go_region
       go_wp2
       go_roundw
       case rel=>exact ⟨j+1,by omega,by go_num,by rw [if_neg (by omega),if_neg (by omega)],HO.out,by rw [za2 s j (by omega),za3 s j (by omega),HS.out];exact hth.set2,(hbe.setCell (Nat.le_refl _) _).drew⟩
       case measure=>simp [intOf];omega
    ·have HX:Hid (x=0∧c=1):=by
      rcases HR.out with ⟨hd,_⟩|⟨_,hx⟩
      ·exact absurd (HL.out.1 (hd.2 j hks)) hc
      ·exact hx
     clear HL OK h47 HR
     generalize (if j≤4 then (0:Int) else if j≤7 then 1 else 2)=kk
     by_cases hc1:(s[j].toNat:Int)<48
     ·clear hc
      go_wp2
      go_ret2
      exact ⟨by rw [HX.out.1,HX.out.2];rfl,hbe⟩
     ·have hc2:57<(s[j].toNat:Int):=by omega
      clear hc
      go_wp2
      go_ret2
      exact ⟨by rw [HX.out.1,HX.out.2];rfl,hbe⟩
  ·obtain rfl:j=10:=by omega
   have hdt:zj8 s:=⟨H10.out,fun i hi=>OK.out i hi (by have:=H10.out;omega)⟩
   have HX:Hid (zlf (yS s) (mS s) (dS s) x c):=by
    rcases HR.out with ⟨_,hx⟩|⟨hx,_⟩
    ·exact hx
    ·exact absurd hdt hx
   obtain ⟨q0,q1,q2⟩:=zmy H10.out
   rw [q0,q1,q2] at hth
   have r0:=hth.c0
   have r1:=hth.c1
   have r2:=hth.c2
   clear q0 q1 q2 OK HR hdt hth
   generalize (if 10≤4 then (0:Int) else if 10≤7 then 1 else 2)=kk
   go_wp2
   go_quiet ((go_at_call 135;exact Calls.quiet_of_same (zeJ _ _ _ x c _ HX.out)))
   go_wp2
   go_ret2
   exact ⟨rfl,hbe.trans ((zN _ _).mono hbe.size)⟩
end Go.Proofs.YtpeafgddbbojaaaGreatDoor
namespace Go.Proofs.YtpeafgddbbojaaaGreatDoor
open Go Go.RowKit Go.Sort Cal
attribute [local go_sem] Oper.semAt_some
theorem zcG(y m d n:Int)(w:World)(hv:vld y m d)(hn:num y m d=n):
  Calls Tryz.prog 82 #[.string (bs (txt y m d))] w fun r w'=>r= .returned (.tuple #[.int .i64 n,.int .i64 0])∧Below w.heap.size w w':=by
 have hv':=hv
 obtain ⟨h1,h2,h3,h4,h5,h6⟩:=hv
 have h7:=(yy y m).2
 have hD:=zcM y m d (by omega) (by omega) (by omega) (by omega) (by omega) (by omega)
 have hN:=zad y m d (by omega) (by omega) (by omega) (by omega) (by omega) (by omega)
 have C:=zeK (bs (txt y m d)) w (num y m d) 0 hD.1 (Or.inl ⟨hD,Or.inl ⟨by unfold bs;rw [hN.1,hN.2.1,hN.2.2];exact hv',by unfold bs;rw [hN.1,hN.2.1,hN.2.2],rfl⟩⟩)
 rw [hn] at C
 exact C
structure RRW(w W:World)(f:ByteArray)(e:Int)(dv:Value)(c u:Int):Prop where
 r:W.heap[w.heap.size+1+1]? =some (.cells #[.string f,.int .i64 e,dv,.int .i64 c,.int .i64 u] 45 (0,0))
 z:W.heap[w.heap.size]? =some (.cells #[.string ⟨#[]⟩,.int .i64 0,.slice none 0 0,.int .i64 0,.int .i64 0] 45 (0,0))
 b:Below w.heap.size w W
 s:w.heap.size+3≤W.heap.size
theorem RRW.step{w W W':World}{f:ByteArray}{e:Int}{dv:Value}{c u:Int}(h:RRW w W f e dv c u)(hb:Below W.heap.size W W'):RRW w W' f e dv c u:=
 ⟨(hb.block _ (by have:=h.s;omega)).trans h.r,(hb.block _ (by have:=h.s;omega)).trans h.z,zB h.b hb,Nat.le_trans h.s hb.size⟩
theorem RRW.put{w W:World}{f:ByteArray}{e:Int}{dv:Value}{c u:Int}(h:RRW w W f e dv c u)(i:Nat)(v:Value){f':ByteArray}{e':Int}{dv':Value}{c' u':Int}(he:(#[.string f,.int .i64 e,dv,.int .i64 c,.int .i64 u]:Array Value).setIfInBounds i v= #[.string f',.int .i64 e',dv',.int .i64 c',.int .i64 u']):RRW w (W.setCell ⟨w.heap.size+1+1,i,none⟩ v) f' e' dv' c' u':=by
 have g:=zG W ⟨w.heap.size+1+1,i,none⟩ v
 have hs:=h.s
 refine ⟨?_,(g.block _ (by omega) (fun q=>by have q':w.heap.size=w.heap.size+1+1:=Option.some.inj q;omega)).trans h.z,zy h.b g (show w.heap.size≤w.heap.size+1+1 by omega),Nat.le_trans h.s g.size⟩
 rw [←he]
 exact zM (i:=i) v h.r
theorem zdE{W:World}{B:Nat}{a0 a1 a2 a3 a4:Value}{T:TypeId}(v0 v1 v2 v3 v4:Value)(h:W.heap[B]? =some (.cells #[a0,a1,a2,a3,a4] T (0,0))):(((((W.setCell ⟨B,0,none⟩ v0).setCell ⟨B,1,none⟩ v1).setCell ⟨B,2,none⟩ v2).setCell ⟨B,3,none⟩ v3).setCell ⟨B,4,none⟩ v4).heap[B]? =some (.cells #[v0,v1,v2,v3,v4] T (0,0)):=by
 have h0:=zM (i:=0) v0 h
 have h1:=zM (i:=1) v1 h0
 have h2:=zM (i:=2) v2 h1
 have h3:=zM (i:=3) v3 h2
 exact zM (i:=4) v4 h3
theorem zbw{w W:World}{B:Nat}(v0 v1 v2 v3 v4:Value)(h:Below w.heap.size w W)(hB:w.heap.size≤B):Below w.heap.size w (((((W.setCell ⟨B,0,none⟩ v0).setCell ⟨B,1,none⟩ v1).setCell ⟨B,2,none⟩ v2).setCell ⟨B,3,none⟩ v3).setCell ⟨B,4,none⟩ v4):=
 zy (zy (zy (zy (zy h (zG W ⟨B,0,none⟩ v0) hB) (zG _ ⟨B,1,none⟩ v1) hB) (zG _ ⟨B,2,none⟩ v2) hB) (zG _ ⟨B,3,none⟩ v3) hB) (zG _ ⟨B,4,none⟩ v4) hB
def zk2(W:World)(B:Nat)(v0 v1 v2 v3 v4:Value):World:=((((W.setCell ⟨B,0,none⟩ v0).setCell ⟨B,1,none⟩ v1).setCell ⟨B,2,none⟩ v2).setCell ⟨B,3,none⟩ v3).setCell ⟨B,4,none⟩ v4
theorem jA(W:World)(B:Nat)(v0 v1 v2 v3 v4:Value):((((W.setCell ⟨B,0,none⟩ v0).setCell ⟨B,1,none⟩ v1).setCell ⟨B,2,none⟩ v2).setCell ⟨B,3,none⟩ v3).setCell ⟨B,4,none⟩ v4=zk2 W B v0 v1 v2 v3 v4:=rfl
def RR0(w:World):World:=((w.alloc (.cells #[.string ⟨#[]⟩,.int .i64 0,.slice none 0 0,.int .i64 0,.int .i64 0] 45)).alloc (.cells #[.string ⟨#[]⟩,.int .i64 0,.slice none 0 0,.int .i64 0,.int .i64 0] 45)).alloc (.cells #[.string ⟨#[]⟩,.int .i64 1,.slice none 0 0,.int .i64 0,.int .i64 (-1)] 45)
theorem zj4(w:World):RRW w (RR0 w) ⟨#[]⟩ 1 (.slice none 0 0) 0 (-1):=by
 unfold RR0
 exact ⟨zJ _ (by simp),zH _ (zH _ (zJ _ rfl)),zB (zC _ _) (zB (zC _ _) (zC _ _)),by simp⟩
set_option maxHeartbeats 4000000 in
set_option maxRecDepth 100000 in
theorem zbJ(w:World):Calls Tryz.prog 84 #[.string ⟨#[111,110,99,101]⟩] w fun r w'=>r= .returned (.tuple #[.agg #[.string ⟨#[111,110,99,101]⟩,.int .i64 1,.slice none 0 0,.int .i64 0,.int .i64 (-1)],.int .i64 0])∧Below w.heap.size w w':=by
 have CU:=xR ⟨#[111,110,99,101]⟩ 32 (RR0 w) (by decide)
 have hp:zZ 32 (⟨#[111,110,99,101]⟩:ByteArray).data.toList=[[111,110,99,101]]:=by decide
 rw [hp] at CU
 have CUT:=hid CU
 have H0:=hid (zj4 w)
 clear CU hp
 go_enter Tryz.func84,Tryz.ntmps84
 go_upto_region 3 with (fail)
 change Code.wp _ _ _ _ (RR0 w)
 generalize RR0 w=w0 at CUT H0 ⊢
 go_upto_region 4 with (go_at_call 50;refine Calls.mono CUT.out ?_;rintro r w1 ⟨hb1,vw,rfl,hrow⟩;obtain ⟨la,lc,rfl⟩:=zQ hrow)
 obtain ⟨b,rfl,_,_,hcell⟩:=xS hrow rfl (j:=0) (by simp)
 simp only [List.getElem_cons_zero] at hcell
 have H1:=hid (H0.out.step hb1)
 obtain ⟨c0,c1,c2,c3,c4⟩:=zbE H1.out.r
 have f0:=zF H1.out.r 0
 have H2:Hid (RRW w (w1.setCell ⟨w.heap.size+1+1,0,none⟩ (.string (bs [111,110,99,101]))) ⟨#[111,110,99,101]⟩ 1 (.slice none 0 0) 0 (-1)):=H1.out.put 0 _ rfl
 clear CUT hrow
 go_upto_region 6 with fail
 generalize w1.setCell ⟨w.heap.size+1+1,0,none⟩ (.string (bs [111,110,99,101]))=W at H2 ⊢
 clear hcell H1 c0 c1 c2 c3 c4 f0
 obtain ⟨c0,c1,c2,c3,c4⟩:=zbE H2.out.r
 obtain ⟨t0,t1,t2,t3,t4⟩:=zbE H2.out.z
 have f0:=zY H2.out.z 0
 have f1:=zY H2.out.z 1
 have f2:=zY H2.out.z 2
 have f3:=zY H2.out.z 3
 have f4:=zY H2.out.z 4
 go_wp2
 rw [jA]
 have n:=zdE (.string ⟨#[111,110,99,101]⟩) (.int .i64 1) (.slice none 0 0) (.int .i64 0) (.int .i64 (-1)) H2.out.z
 have g:=zbw (.string ⟨#[111,110,99,101]⟩) (.int .i64 1) (.slice none 0 0) (.int .i64 0) (.int .i64 (-1)) H2.out.b (Nat.le_refl _)
 rw [jA] at n g
 clear c0 c1 c2 c3 c4 t0 t1 t2 t3 t4 f0 f1 f2 f3 f4
 generalize zk2 W w.heap.size (.string ⟨#[111,110,99,101]⟩) (.int .i64 1) (.slice none 0 0) (.int .i64 0) (.int .i64 (-1))=w7 at n g ⊢
 obtain ⟨c0,c1,c2,c3,c4⟩:=zbE n
 exact bodyPost_ret (v:= .tuple #[.agg #[.string ⟨#[111,110,99,101]⟩,.int .i64 1,.slice none 0 0,.int .i64 0,.int .i64 (-1)],.int .i64 0]) (by simp [results,Tryz.f84,go_sem,c0,c1,c2,c3,c4]) rfl ⟨rfl,g⟩
def WD(W:World)(b k:Nat)(l:List (List UInt8)):Prop:= ∀ (j:Nat) (hj:j<l.length),W.cell? ⟨b,k+j,none⟩=some (.string (bs l[j]))
theorem WD.same{W W':World}{b k:Nat}{l:List (List UInt8)}(h:WD W b k l)(hs:W'.heap[b]? =W.heap[b]?):WD W' b k l:=fun j hj=>(World.cell?_of_block (a:=⟨b,k+j,none⟩) hs).trans (h j hj)
theorem WD.tail{W:World}{b k:Nat}{x:List UInt8}{l:List (List UInt8)}(h:WD W b k (x::l)):WD W b (k+1) l:=fun j hj=>by
 have h1:=h (j+1) (by simp;omega)
 rw [show k+(j+1)=k+1+j by omega] at h1
 simpa using h1
theorem WD.head{W:World}{b k:Nat}{x:List UInt8}{l:List (List UInt8)}(h:WD W b k (x::l)):W.cell? ⟨b,k,none⟩=some (.string (bs x)):=h 0 (by simp)
def znc(f:ByteArray):Prop:=f=⟨#[100,97,105,108,121]⟩∨f=⟨#[119,101,101,107,108,121]⟩∨f=⟨#[109,111,110,116,104,108,121]⟩∨f=⟨#[121,101,97,114,108,121]⟩
def TL(c u:Int)(l:List (List UInt8)):Prop:=(c=0∧u= -1∧l=[])∨(1≤c∧c≤999999∧u= -1∧l=[xf,Lib.itoa c])∨(c=0∧ ∃ y m d,vld y m d∧num y m d=u∧l=[vh,txt y m d])
def dsI(ds:List Nat):List Int:=ds.map fun (d:Nat)=>(d:Int)
theorem zmk{base:Nat}{W:World}{sl:Value}{ds:List Nat}(h:W.ownsRow base 3 1 sl ds.length (ds.map fun (d:Nat)=>Value.int .i64 (d:Int))):Ow base W sl (dsI ds):=by
 unfold Ow dsI
 rw [List.length_map,List.map_map]
 exact h
set_option maxHeartbeats 4000000 in
set_option maxRecDepth 100000 in
theorem zbK(f:ByteArray)(e:Int)(ds:List Nat)(c u:Int)(D tail:List (List UInt8))(s:ByteArray)(w:World)(hf:znc f)(hs:s.size≤1000)(hp:zZ 32 s.data.toList=f.data.toList::Lib.itoa e::(D++tail))(he0:0≤e)(he1:e≤999999)(hso:(s.toList==[111,110,99,101])=false)
  (hD:(D=[]∧ds=[])∨(ds≠[]∧D=[Lib.join (ds.map fun (d:Nat)=>nm (d:Int)) [44]])) (h7: ∀ d∈ds,d<7) (h20:ds.length≤20) (hT:TL c u tail) (hk:zbX f e (dsI ds) c u 0):
  Calls Tryz.prog 84 #[.string s] w fun r w'=> ∃ dv,r= .returned (.tuple #[.agg #[.string f,.int .i64 e,dv,.int .i64 c,.int .i64 u],.int .i64 0])∧Ow w.heap.size w' dv (dsI ds)∧Below w.heap.size w w':=by
 have hTh:=hid hT
 have hDh:Hid (_):=hD
 have hkh:=hid hk
 have h7h:=hid h7
 clear hT hD hk h7
 generalize hrest:D++tail=rest at hp
 have hR:Hid (_):=hrest
 clear hrest
 have CU:=xR s 32 (RR0 w) (by omega)
 rw [hp] at CU
 have CUT:=hid CU
 have H0:=hid (zj4 w)
 clear CU hp
 have hb0:bs f.data.toList=f:=by simp [bs]
 have ND:zbL (Lib.itoa e)=e:=zav e he0 he1
 have NU:Hid (∀ W,Calls Tryz.prog 83 #[.string (bs (Lib.itoa e)),.int .i64 9] W fun r w'=>r= .returned (.int .i64 e)∧w'=W):=fun W=>by have h:=vJ (bs (Lib.itoa e)) W;rw [zh,ND] at h;exact h
 have NDh:Hid (_):=ND
 clear ND
 go_enter Tryz.func84,Tryz.ntmps84
 go_upto_region 3 with (fail)
 change Code.wp _ _ _ _ (RR0 w)
 generalize RR0 w=w0 at CUT H0 ⊢
 go_upto_region 4 with (go_at_call 50;refine Calls.mono CUT.out ?_;rintro r w1 ⟨hb1,vw,rfl,hrow⟩;obtain ⟨la,lc,rfl⟩:=zQ hrow)
 obtain ⟨b,rfl,hlo,hbs,hc0⟩:=xS hrow rfl (j:=0) (by simp)
 have hcs:WD w1 b 0 (f.data.toList::Lib.itoa e::rest):=fun j hj=>by
  obtain ⟨b',hb',_,_,h⟩:=xS hrow rfl hj
  cases hb'
  rw [Nat.zero_add]
  exact h
 have hcap:rest.length+2≤lc∧lc≤maxLen:=by
  rcases hrow.2 with ⟨q,_⟩|⟨g,cap,cur,q,_,_,h1,h2,_,_⟩
  ·exact absurd q (by simp)
  ·cases q;exact ⟨by simpa using h1,h2⟩
 have hbb:w.heap.size+3≤b:=Nat.le_trans H0.out.s hlo
 have H1:=hid (H0.out.step hb1)
 have hc0':w1.cell? ⟨b,0,none⟩=some (.string f):=by have h:=hcs.head;rw [hb0] at h;exact h
 have hc1':w1.cell? ⟨b,1,none⟩=some (.string (bs (Lib.itoa e))):=hcs.tail.head
 have HK:=hid hcs.tail.tail
 clear hrow hc0 hcs CUT
 generalize hL:rest.length=L at hcap ⊢
 have HL:Hid (_):=hL
 have HC:Hid (_):=hcap
 clear hL hcap
 obtain ⟨c0,c1,c2,c3,c4⟩:=zbE H1.out.r
 have f0:=zY H1.out.r 0
 have H2:Hid (RRW w (w1.setCell ⟨w.heap.size+1+1,0,none⟩ (.string f)) f 1 (.slice none 0 0) 0 (-1)):=H1.out.put 0 _ rfl
 have hl:(0:Int)<(L:Int)+1+1:=by omega
 have hl2:((L:Int)+1+1<2)=False:=by simp;omega
 go_upto_region 7 with fail
 have hs2:(w1.setCell ⟨w.heap.size+1+1,0,none⟩ (.string f)).heap[b]? =w1.heap[b]? :=(zG w1 ⟨w.heap.size+1+1,0,none⟩ (.string f)).block _ hbs (fun q=>by have q':b=w.heap.size+1+1:=Option.some.inj q;omega)
 have HK2:=hid (HK.out.same hs2)
 have d0:=(World.cell?_of_block (a:=⟨b,0,none⟩) hs2).trans hc0'
 have d1:=(World.cell?_of_block (a:=⟨b,1,none⟩) hs2).trans hc1'
 have hbs2:b<(w1.setCell ⟨w.heap.size+1+1,0,none⟩ (.string f)).heap.size:=Nat.lt_of_lt_of_le hbs (zG w1 ⟨w.heap.size+1+1,0,none⟩ (.string f)).size
 clear hc0' hc1' hs2 hbs HK c0 c1 c2 c3 c4 f0 H1 H0 hb1 hlo
 generalize w1.setCell ⟨w.heap.size+1+1,0,none⟩ (.string f)=w2 at H2 HK2 d0 d1 hbs2 ⊢
 go_cut [49] (fun v wx=>v= .bool false∧wx=w2)
 case first=>
  rcases hf with rfl|rfl|rfl|rfl
  all_goals
   go_wp2
   go_meet
   exact ⟨rfl,rfl⟩
 case rest=>
  obtain ⟨rfl,rfl⟩:=hcut
  clear hf hso
  obtain ⟨c0,c1,c2,c3,c4⟩:=zbE H2.out.r
  have f1:=zY H2.out.r 1
  have hl1:(1:Int)<(L:Int)+1+1:=by omega
  go_upto_region 10 with (go_at_call 83;refine Calls.mono (NU.out _) ?_;rintro r wd ⟨rfl,rfl⟩)
  have H3:Hid (RRW w (wd.setCell ⟨w.heap.size+1+1,1,none⟩ (.int .i64 e)) f e (.slice none 0 0) 0 (-1)):=H2.out.put 1 _ rfl
  have hs3:(wd.setCell ⟨w.heap.size+1+1,1,none⟩ (.int .i64 e)).heap[b]? =wd.heap[b]? :=(zG wd ⟨w.heap.size+1+1,1,none⟩ (.int .i64 e)).block _ hbs2 (fun q=>by have q':b=w.heap.size+1+1:=Option.some.inj q;omega)
  have HK3:=hid (HK2.out.same hs3)
  have hbs3:b<(wd.setCell ⟨w.heap.size+1+1,1,none⟩ (.int .i64 e)).heap.size:=Nat.lt_of_lt_of_le hbs2 (zG wd ⟨w.heap.size+1+1,1,none⟩ (.int .i64 e)).size
  clear hs3 hbs2 HK2 c0 c1 c2 c3 c4 f1 H2 d0 d1
  generalize wd.setCell ⟨w.heap.size+1+1,1,none⟩ (.int .i64 e)=w3 at H3 HK3 hbs3 ⊢
  obtain ⟨c0,c1,c2,c3,c4⟩:=zbE H3.out.r
  have he2: ¬ e<0:=by omega
  go_upto_region 12 with fail
  go_cut [6] (fun v wx=>(∃ (a:Option Addr) (c:Nat),v= .slice a L c∧L≤c∧c≤maxLen∧(0<L→a=some ⟨b,2,none⟩))∧wx=w3)
  case first=>
   have hl3:(2:Int)≤(L:Int)+1+1:=by omega
   have hl4:(L:Int)+1+1≤(lc:Int):=by have:=HC.out.1;omega
   have hc:=HC.out
   go_wp2
   ·go_meet
    exact ⟨⟨_,_,rfl,by omega,by omega,fun h=>by omega⟩,rfl⟩
   ·go_meet
    exact ⟨⟨_,_,rfl,by omega,by omega,fun h=>rfl⟩,rfl⟩
  case rest=>
   obtain ⟨⟨la,lk,rfl,hc0,hc1,ha⟩,rfl⟩:=hcut
   clear c0 c1 c2 c3 c4 NU hl hl1 hl2 he2 HC
   have HA:=hid ha
   clear ha
   go_upto_if 64 with fail
   go_cut [6,7,8] (fun v v7 v8 wx=> ∃ (a':Option Addr) (c':Nat),v= .slice a' tail.length c'∧tail.length≤c'∧c'≤maxLen∧Hid (∃ (k:Nat) (dv:Value),(0<tail.length→a'=some ⟨b,k,none⟩)∧RRW w wx f e dv 0 (-1)∧Ow (w.heap.size+3) wx dv (dsI ds)∧WD wx b k tail∧b<wx.heap.size))
   case first=>
    rcases hDh.out with ⟨rfl,rfl⟩|⟨hne,rfl⟩
    ·have hr:rest=tail:=hR.out.symm
     subst hr
     rcases hTh.out with ⟨rfl,rfl,rfl⟩|h
     ·have hL0:L=0:=HL.out.symm
      subst hL0
      go_wp2
      go_meet
      exact ⟨_,_,rfl,hc0,hc1,2,_,fun q=>absurd q (by simp),H3.out,Ow.nil _ _,HK3.out,hbs3⟩
     ·obtain ⟨x,y,rfl,hx44,hxn,hxl⟩: ∃ x y,rest=[x,y]∧(44:UInt8)∉x∧(∀ j:Nat,j<7→nm (j:Int)≠x)∧x.length≤100:=by
       rcases h with ⟨_,_,_,rfl⟩|⟨_,y,m,d,_,_,rfl⟩
       ·exact ⟨_,_,rfl,by decide,by decide,by decide⟩
       ·exact ⟨_,_,rfl,by decide,by decide,by decide⟩
      have hL0:L=2:=HL.out.symm
      subst hL0
      have hla:=HA.out (by decide)
      subst hla
      have k0:=HK3.out.head
      have WN:=hid (zjm x wc hx44 hxn hxl)
      clear h hxn hx44
      go_wp2_with (go_at_call 136;refine Calls.mono WN.out ?_;rintro r w5 ⟨rfl,hb5⟩)
      go_meet
      exact ⟨_,_,rfl,hc0,hc1,2,_,fun _=>rfl,H3.out.step hb5,Ow.nil _ _,HK3.out.same (hb5.block _ hbs3),Nat.lt_of_lt_of_le hbs3 hb5.size⟩
    ·have hr:rest=Lib.join (ds.map fun (d:Nat)=>nm (d:Int)) [44]::tail:=hR.out.symm
     subst hr
     have hL0:L=tail.length+1:=HL.out.symm
     obtain ⟨M,hM⟩: ∃ M,tail.length=M:=⟨_,rfl⟩
     rw [hM] at hL0
     subst hL0
     have HM:=hid hM
     clear hM
     have hla:=HA.out (by omega)
     subst hla
     have k0:=HK3.out.head
     have WO:=hid (zjl ds wc h7h.out hne h20)
     have q0:(0:Int)<(M:Int)+1:=by omega
     have q1:(1:Int)≤(M:Int)+1:=by omega
     have q2:(M:Int)+1≤(lk:Int):=by omega
     go_wp2_with (go_at_call 136;refine Calls.mono WO.out ?_;rintro r w5 ⟨da,dc,rfl,how,hb5⟩;have H5:=hid (H3.out.step hb5);obtain ⟨c0,c1,c2,c3,c4⟩:=zbE H5.out.r;have f2:=zY H5.out.r 2)
     all_goals
      go_meet
      have g:=zG w5 ⟨w.heap.size+1+1,2,none⟩ (.slice da ds.length dc)
      have hbb5:b<w5.heap.size:=Nat.lt_of_lt_of_le hbs3 hb5.size
      have h1:=HK3.out.same (hb5.block _ hbs3)
      have h2:=(h1.same (g.block _ hbb5 (fun q=>by have q':b=w.heap.size+1+1:=Option.some.inj q;omega))).tail
      have h3:=Ow.grown (zW (zmk how) (show w.heap.size+3≤wc.heap.size from H3.out.s)) g (show w.heap.size+1+1<w.heap.size+3 by omega)
      have hM:=HM.out
      refine ⟨_,_,by rw [hM],by omega,by omega,3,_,fun q=> ?_,H5.out.put 2 _ rfl,h3,h2,Nat.lt_of_lt_of_le hbb5 g.size⟩
      first|rfl|(exfalso;omega)
   case rest=>
    obtain ⟨a',c',rfl,hc2,hc3,HX⟩:=hcut
    obtain ⟨k,dv,ha',hrw,how,hwd,hbl⟩:=HX.out
    obtain ⟨da,dc,rfl⟩:=zQ how
    clear HX H3 HK3 hbs3 HA hR HL NDh hDh h7h hc0 hc1
    have H4:=hid hrw
    have HO:=hid how
    have HW:=hid hwd
    have HA:=hid ha'
    clear hrw how hwd ha'
    generalize hML:tail.length=M at HA hc2 ⊢
    have HM:=hid hML
    clear hML
    go_upto_if 79 with fail
    go_cut [9,10] (fun v9 v10 wx=>Hid (RRW w wx f e (.slice da (dsI ds).length dc) c u∧Ow (w.heap.size+3) wx (.slice da (dsI ds).length dc) (dsI ds)))
    case first=>
     rcases hTh.out with ⟨rfl,rfl,rfl⟩|⟨hc4,hc5,rfl,rfl⟩|⟨rfl,y,m,d,hv,hn,rfl⟩
     ·have hL0:M=0:=HM.out.symm
      subst hL0
      go_wp2
      go_meet
      exact ⟨H4.out,HO.out⟩
     ·have hL0:M=2:=HM.out.symm
      subst hL0
      have hla:=HA.out (by decide)
      subst hla
      have k0:wc.cell? ⟨b,k,none⟩=some (.string ⟨#[99,111,117,110,116]⟩):=HW.out.head
      have k1:=HW.out.tail.head
      have ND:zbL (Lib.itoa c)=c:=zav c (by omega) hc5
      have NU:Hid (∀ W,Calls Tryz.prog 83 #[.string (bs (Lib.itoa c)),.int .i64 9] W fun r w'=>r= .returned (.int .i64 c)∧w'=W):=fun W=>by have h:=vJ (bs (Lib.itoa c)) W;rw [zh,ND] at h;exact h
      have NDh:Hid (_):=ND
      clear ND
      obtain ⟨c0,c1,c2,c3,c4⟩:=zbE H4.out.r
      have f3:=zY H4.out.r 3
      have hc6: ¬ c<1:=by omega
      go_wp2_with (go_at_call 83;refine Calls.mono (NU.out _) ?_;rintro r wd ⟨rfl,rfl⟩)
      go_meet
      exact ⟨H4.out.put 3 _ rfl,Ow.grown HO.out (zG _ ⟨w.heap.size+1+1,3,none⟩ _) (show w.heap.size+1+1<w.heap.size+3 by omega)⟩
     ·have hL0:M=2:=HM.out.symm
      subst hL0
      have hla:=HA.out (by decide)
      subst hla
      have k0:wc.cell? ⟨b,k,none⟩=some (.string ⟨#[117,110,116,105,108]⟩):=HW.out.head
      have k1:=HW.out.tail.head
      have RD:Hid (∀ W,Calls Tryz.prog 82 #[.string (bs (txt y m d))] W fun r w'=>r= .returned (.tuple #[.int .i64 u,.int .i64 0])∧Below W.heap.size W w'):=fun W=>zcG y m d u W hv hn
      clear hn hv
      go_wp2_with (go_at_call 82;refine Calls.mono (RD.out _) ?_;rintro r w5 ⟨rfl,hb5⟩;have H5:=hid (H4.out.step hb5);obtain ⟨c0,c1,c2,c3,c4⟩:=zbE H5.out.r;have f4:=zY H5.out.r 4)
      go_meet
      exact ⟨H5.out.put 4 _ rfl,Ow.grown (zU HO.out hb5) (zG _ ⟨w.heap.size+1+1,4,none⟩ _) (show w.heap.size+1+1<w.heap.size+3 by omega)⟩
    case rest=>
     have H4':Hid (RRW w wc f e (.slice da (dsI ds).length dc) c u):=hcut.out.1
     have HO':Hid (Ow (w.heap.size+3) wc (.slice da (dsI ds).length dc) (dsI ds)):=hcut.out.2
     clear hcut H4 HO HW HA hTh HM
     have RE:Hid (Calls Tryz.prog 70 #[.agg #[.string f,.int .i64 e,.slice da (dsI ds).length dc,.int .i64 c,.int .i64 u]] wc fun r w'=>r= .returned (.int .i64 0)∧Below wc.heap.size wc w'):=yf f e _ c u (dsI ds) 0 wc (yq HO'.out) (by unfold dsI;rw [List.length_map];exact h20) hkh.out
     obtain ⟨c0,c1,c2,c3,c4⟩:=zbE H4'.out.r
     go_upto_region 35 with (go_at_call 70;refine Calls.mono RE.out ?_;rintro r w5 ⟨rfl,hb5⟩)
     clear c0 c1 c2 c3 c4
     have H5:=hid (H4'.out.step hb5)
     have O5:=hid (zU HO'.out hb5)
     clear H4' HO' RE hb5
     obtain ⟨c0,c1,c2,c3,c4⟩:=zbE H5.out.r
     obtain ⟨t0,t1,t2,t3,t4⟩:=zbE H5.out.z
     have f0:=zY H5.out.z 0
     have f1:=zY H5.out.z 1
     have f2:=zY H5.out.z 2
     have f3:=zY H5.out.z 3
     have f4:=zY H5.out.z 4
     go_wp2
     rw [jA]
     have n:=zdE (.string f) (.int .i64 e) (.slice da (dsI ds).length dc) (.int .i64 c) (.int .i64 u) H5.out.z
     have g:=zbw (.string f) (.int .i64 e) (.slice da (dsI ds).length dc) (.int .i64 c) (.int .i64 u) H5.out.b (Nat.le_refl _)
     have hlt:w.heap.size<w.heap.size+3:=by omega
     have O6:=Ow.grown (Ow.grown (Ow.grown (Ow.grown (Ow.grown O5.out (zG _ ⟨w.heap.size,0,none⟩ (.string f)) hlt) (zG _ ⟨w.heap.size,1,none⟩ (.int .i64 e)) hlt) (zG _ ⟨w.heap.size,2,none⟩ (.slice da (dsI ds).length dc)) hlt) (zG _ ⟨w.heap.size,3,none⟩ (.int .i64 c)) hlt) (zG _ ⟨w.heap.size,4,none⟩ (.int .i64 u)) hlt
     rw [jA] at n g O6
     clear c0 c1 c2 c3 c4 t0 t1 t2 t3 t4 f0 f1 f2 f3 f4
     generalize zk2 w5 w.heap.size (.string f) (.int .i64 e) (.slice da (dsI ds).length dc) (.int .i64 c) (.int .i64 u)=w7 at n g O6 ⊢
     obtain ⟨c0,c1,c2,c3,c4⟩:=zbE n
     exact bodyPost_ret (v:= .tuple #[.agg #[.string f,.int .i64 e,.slice da (dsI ds).length dc,.int .i64 c,.int .i64 u],.int .i64 0]) (by simp [results,Tryz.f84,go_sem,c0,c1,c2,c3,c4]) rfl ⟨_,rfl,zW O6 (by omega),g⟩
end Go.Proofs.YtpeafgddbbojaaaGreatDoor
namespace Go.Proofs.YtpeafgddbbojaaaGreatDoor
open Go Go.RowKit Go.Sort Cal
theorem zev{f:ByteArray}{l:List UInt8}(h:f.toList=l):f=bs l:=by
 rw [ByteArray.toList_eq] at h
 subst h
 simp [bs]
theorem zfo: ∀ (ds:List Int),(∀ d∈ds,0≤d∧d≤6)→dsI (ds.map Int.toNat)=ds∧ ∀ d∈ds.map Int.toNat,d<7
 |[],_=>⟨rfl,fun d hd=>absurd hd (by simp)⟩
 |x::l,h=>by
  obtain ⟨h1,h2⟩:=zfo l (fun d hd=>h d (List.mem_cons_of_mem _ hd))
  have hx:=h x List.mem_cons_self
  refine ⟨?_,fun d hd=> ?_⟩
  ·unfold dsI at h1 ⊢
   rw [List.map_cons,List.map_cons,h1]
   congr 1
   omega
  ·rcases List.mem_cons.1 hd with rfl|hd
   ·omega
   ·exact h2 d hd
theorem zcH(f:ByteArray)(e:Int)(ds:List Int)(c u:Int)(t:List UInt8)(w:World)(h:Well (rd f e ds c u))(ht:UT (rd f e ds c u) t)(h20:ds.length≤20):
  Calls Tryz.prog 84 #[.string (bs (yV (rd f e ds c u) t))] w fun r w'=> ∃ dv,r= .returned (.tuple #[.agg #[.string f,.int .i64 e,dv,.int .i64 c,.int .i64 u],.int .i64 0])∧Ow w.heap.size w' dv ds∧Below w.heap.size w w':=by
 have hk:zbX f e ds c u 0:= .inr (.inr (.inr (.inr ⟨h,rfl⟩)))
 have hlen:=vj h ht h20
 have hpc:=xg h ht
 by_cases ho:f.toList=xO
 ·obtain ⟨h1,h2,h3⟩:=h.on ho
  have h4:=h.wk (by show f.toList≠vY;rw [ho];decide)
  change e=1 at h1
  change c=0 at h2
  change u= -1 at h3
  change ds=[] at h4
  subst h1 h2 h3 h4
  have hf:=zev ho
  subst hf
  have hw:yV (rd (bs xO) 1 [] 0 (-1)) t=xO:=by
   unfold yV yh
   rw [if_pos (show (rd (bs xO) 1 [] 0 (-1)).freq=xO from ho)]
   rfl
  rw [hw]
  exact (zbJ w).mono (fun r w' q=>⟨_,q.1,Ow.nil _ _,q.2⟩)
 ·obtain ⟨hd1,hd2⟩:=zfo ds h.ds
  have hfr:znc f:=by
   rcases h.fr with q|q|q|q|q
   ·exact absurd q ho
   ·exact .inl (zev q)
   ·exact .inr (.inl (zev q))
   ·exact .inr (.inr (.inl (zev q)))
   ·exact .inr (.inr (.inr (zev q)))
  have hwo:yh (rd f e ds c u) t=f.data.toList::Lib.itoa e::(yJ (rd f e ds c u)++(zu (rd f e ds c u)++zv (rd f e ds c u) t)):=by
   unfold yh
   rw [if_neg (show ¬ (rd f e ds c u).freq=xO from ho)]
   show f.toList::_=_
   rw [ByteArray.toList_eq]
   rfl
  have hev:=h.ev
  have hco:=h.co
  have hcu:=h.cu
  change 1≤e∧e≤100 at hev
  change 0≤c∧c≤1000 at hco
  change c=0∨u= -1 at hcu
  have hso:((bs (yV (rd f e ds c u) t)).toList==[111,110,99,101])=false:=by
   rw [beq_eq_false_iff_ne,ByteArray.toList_eq,zh]
   intro q
   rw [q,hwo] at hpc
   have:zZ 32 [111,110,99,101]=[[111,110,99,101]]:=by decide
   rw [this] at hpc
   exact absurd (congrArg List.length hpc) (by simp)
  have key:=zbK f e (ds.map Int.toNat) c u (yJ (rd f e ds c u)) (zu (rd f e ds c u)++zv (rd f e ds c u) t) (bs (yV (rd f e ds c u) t)) w hfr (by rw [Lib.size_eq,zh];exact hlen) (by rw [zh,hpc,hwo]) (by omega) (by omega) hso ?_ hd2 (by rw [List.length_map];exact h20) ?_ (by rw [hd1];exact hk)
  ·rw [hd1] at key
   exact key
  ·unfold yJ
   by_cases hn:ds=[]
   ·left
    subst hn
    exact ⟨if_pos rfl,rfl⟩
   ·right
    refine ⟨fun q=>hn (List.map_eq_nil_iff.1 q),?_⟩
    rw [if_neg (show ¬ (rd f e ds c u).days=[] from hn)]
    have e1:(ds.map Int.toNat).map (fun (d:Nat)=>nm (d:Int))=(dsI (ds.map Int.toNat)).map nm:=by unfold dsI;rw [List.map_map (f:=fun (d:Nat)=>(d:Int))];rfl
    rw [e1,hd1]
    rfl
  ·unfold TL
   by_cases hc:c=0
   ·subst hc
    have hcw:zu (rd f e ds 0 u)=[]:=if_pos rfl
    rw [hcw,List.nil_append]
    rcases ht with ⟨q,_⟩|⟨q,y,m,d,hv,hn,rfl⟩
    ·left
     exact ⟨rfl,q,if_pos q⟩
    ·right;right
     refine ⟨rfl,y,m,d,hv,hn,if_neg ?_⟩
     intro q2
     rw [q2] at q
     exact absurd q (by decide)
   ·right;left
    have hu:u= -1:=hcu.resolve_left hc
    subst hu
    refine ⟨by omega,by omega,rfl,?_⟩
    have hcw:zu (rd f e ds c (-1))=[xf,Lib.itoa c]:=if_neg hc
    have huw:zv (rd f e ds c (-1)) t=[]:=if_pos rfl
    rw [hcw,huw]
    rfl
end Go.Proofs.YtpeafgddbbojaaaGreatDoor
namespace Go.Proofs.YtpeafgddbbojaaaGreatDoor
open Go Go.RowKit Cal
attribute [local go_sem] Oper.semAt_some
end Go.Proofs.YtpeafgddbbojaaaGreatDoor
namespace Go.Proofs.YtpeafgddbbojaaaGreatDoor
open Go Go.RowKit Go.Sort Cal
attribute [local go_sem] Oper.semAt_some
theorem Lists.ls{W:World}{E:EV}{sl skv mvv:Value}(h:Lists W E sl skv mvv):Ls W E sl skv mvv:=⟨h.d,h.s,h.m⟩
theorem yH{w W:World}{B:Nat}{v0 v1 v2 v3 v4 v5 v6 v7 v8 v9 v10:Value}(h:Below w.heap.size w W)(hB:w.heap.size≤B):Below w.heap.size w (yI W B v0 v1 v2 v3 v4 v5 v6 v7 v8 v9 v10):=⟨(zT W B v0 v1 v2 v3 v4 v5 v6 v7 v8 v9 v10).os.trans h.os,(zT W B v0 v1 v2 v3 v4 v5 v6 v7 v8 v9 v10).tape.trans h.tape,(zT W B v0 v1 v2 v3 v4 v5 v6 v7 v8 v9 v10).output.trans h.output,Nat.le_trans h.size (zT W B v0 v1 v2 v3 v4 v5 v6 v7 v8 v9 v10).size,fun k hk=>((zT W B v0 v1 v2 v3 v4 v5 v6 v7 v8 v9 v10).block k (Nat.lt_of_lt_of_le hk h.size) (fun q=>by have q':k=B:=Option.some.inj q;omega)).trans (h.block k hk)⟩
end Go.Proofs.YtpeafgddbbojaaaGreatDoor
