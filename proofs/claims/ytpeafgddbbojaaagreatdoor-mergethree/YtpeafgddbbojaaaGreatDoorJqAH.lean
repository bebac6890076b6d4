import Derived.Test.YtpeafgddbbojaaaGreatDoorJqAA
import Derived.Test.YtpeafgddbbojaaaGreatDoorJqAG
import Derived.Deep.DeepCutAuto
import Derived.Deep.RegionWith
import Derived.Test.YtpeafgddbbojaaaGreatDoorJqAC
import Derived.Lib.QuietBelow
import Derived.Test.YtpeafgddbbojaaaGreatDoorJqAF
import Derived.Shelf.Abstract
import Derived.Shelf.RegionOpen
import Derived.WalkKit
import Derived.OwnWalkIn
import Derived.TacticsInMore
import Derived.LoopNIn
import Derived.LoopIn
import Derived.BigRegion
namespace Go.Proofs.YtpeafgddbbojaaaGreatDoor
open Go.RowKit Cal
def RBx(w:World)(f:ByteArray)(e:Int)(sl:Value)(c u:Int):World:=w.alloc (.cells #[.string f,.int .i64 e,sl,.int .i64 c,.int .i64 u] 45)
set_option maxHeartbeats 1000000 in
set_option maxRecDepth 100000 in
theorem zgz(f:ByteArray)(e:Int)(sl:Value)(c u:Int)(ds:List Int)(t:List UInt8)(w:World)(g:GlobR w)(hd:Days w sl ds)(hw:Well (rd f e ds c u))(ht:UT (rd f e ds c u) t)
  (hne:(f.toList==[111,110,99,101])=false):
  Calls Tryz.prog 120 #[rv f e sl c u] w fun r w'=>r= .returned (.string (bs (yV (rd f e ds c u) t)))∧Below w.heap.size w w':=by
 have D:=hid hd
 obtain ⟨a,cap,rfl,h20,hcap,hc⟩:=hd
 obtain ⟨i0,hi,hz0,hz1,hz2⟩:=info_parts ye
 have G:=hid g
 have W:=hid hw
 have U:=hid ht
 have he:1≤e∧e≤100:=hw.ev
 obtain ⟨he0,he1⟩:=he
 have he0':0≤e:=by omega
 have he1':e≤100000:=by omega
 clear hc g hw ht
 unfold rv
 go_enter Tryz.func120,Tryz.ntmps120
 go_upto_region 5 with (go_at_call 61;refine (zaX f e _ c u ds _ (D.out.step (zC _ _)) W.out).mono ?_;rintro r w1 ⟨rfl,hb1⟩;obtain ⟨x0,x1,x2,x3,x4⟩:=zjU hb1)
 have T1:Hid (Tab w1.drew):=(G.out.step (zB (zC _ _) (zB hb1 (zI _)))).tab
 go_cut [3] (fun v wx=>TR (RBx w f e (.slice a ds.length cap) c u) wx v [f.data.toList,Lib.itoa e])
 case first=>
  go_region_with (go_at_call 119;refine (js e _ he0' he1' T1.out).mono ?_;rintro r w2 ⟨rfl,hb2⟩;have y0:=zD (w:=w1.drew) x0 hb2)
  all_goals
   go_wp2_with fail
   go_meet
   case rel=>exact TR.lit (zB hb1 (zB (zI _) hb2)) f (bs (Lib.itoa e))
 case rest=>
  have hT:=hid hcut
  clear x0 x1 x2 x3 x4 T1 hb1 hcut
  obtain ⟨x0,x1,x2,x3,x4⟩:=zjU hT.out.below
  go_upto_if 19 with fail
  go_cut [3] (fun v wx=>TR (RBx w f e (.slice a ds.length cap) c u) wx v ([f.data.toList,Lib.itoa e]++yJ (rd f e ds c u)))
  case first=>
   by_cases h0:ds=[]
   ·have hl: ¬ 0<ds.length:=by rw [h0];simp
    have HE:Hid (yJ (rd f e ds c u)=[]):=by unfold yJ;rw [if_pos (show (rd f e ds c u).days=[] from h0)];trivial
    clear h0
    go_wp2
    go_meet
    case rel=>rw [HE.out,List.append_nil];exact hT.out
   ·have hl:0<ds.length:=List.length_pos_iff.2 h0
    have HE:Hid (yJ (rd f e ds c u)=[Lib.join (ds.map nm) [44]]):=by unfold yJ;rw [if_neg (show ¬ (rd f e ds c u).days=[] from h0)];trivial
    have DT:Hid (Calls Tryz.prog 154 #[.slice a ds.length cap] wc fun e w'=>e= .returned (.string (bs (Lib.join (ds.map nm) [44])))∧Below wc.heap.size wc w'):=
     zdU _ ds wc (G.out.step (zB (zC _ _) hT.out.below)) (D.out.step (zB (zC _ _) hT.out.below)) h0 W.out.ds
    clear h0
    generalize hjb:bs (Lib.join (ds.map nm) [44])=jb at DT
    have HJ:=hid hjb
    clear hjb
    go_wp2_with (first
     |(go_at_call 154;refine Calls.mono DT.out ?_;rintro r w2 ⟨rfl,hb2⟩)
     |(at_builtin;refine wpList_append_own _ rfl _ _ 51 rfl (RBx w f e (.slice a ds.length cap) c u).heap.size 9 i0 (.string ⟨#[]⟩) 1 16 Tryz.underlying51 hi hz0 hz1 hz2 rfl (by decide) _ _ _ rfl ((hT.out.step hb2).own.alloc _) ⟨w2.heap.size,0,none⟩ 1 1 [.string jb] rfl rfl ?c1 ?c2 ?c3 ?c4 ?c5 ?_)
     |go_in)
    case c1=>
     intro j u hj
     match j,hj with
     |0,hj=>simp at hj;subst hj;simp [Addr.add]
    case c2=>intro u hu;simp at hu;subst hu;rfl
    case c3=>unfold maxLen;simp
    case c4=>simp
    case c5=>have:=(hT.out.step hb2).below.size;simp;omega
    ·intro v' w3 hown' hgrow _
     have HOW:Hid (TR (RBx w f e (.slice a ds.length cap) c u) w3 v' ([f.data.toList,Lib.itoa e]++yJ (rd f e ds c u))):=by
      rw [HE.out]
      refine TR.app [Lib.join (ds.map nm) [44]] (hT.out.step hb2) rfl ?_ hown' hgrow
      rw [←HJ.out];rfl
     clear hown' hgrow
     go_wp2
     go_meet
     case rel=>exact HOW.out
  case rest=>
   have HL:=hid hcut
   clear x0 x1 x2 x3 x4 hcut hT
   have hll:([f.data.toList,Lib.itoa e]++yJ (rd f e ds c u)).length≤3:=by unfold yJ;split<;>simp
   generalize hL0:[f.data.toList,Lib.itoa e]++yJ (rd f e ds c u)=L at HL hll
   have HL0:=hid hL0
   clear hL0
   have hT:=hid HL.out
   clear HL
   obtain ⟨x0,x1,x2,x3,x4⟩:=zjU hT.out.below
   have hc0:0≤c∧c≤1000:=W.out.co
   obtain ⟨hc0,hc1⟩:=hc0
   have hc1':c≤100000:=by omega
   go_upto_if 28 with fail
   go_cut [3] (fun v wx=>TR (RBx w f e (.slice a ds.length cap) c u) wx v (L++zu (rd f e ds c u)))
   case first=>
    by_cases h0:c=0
    ·have hl: ¬ 0<c:=by omega
     have HE:Hid (zu (rd f e ds c u)=[]):=by unfold zu;rw [if_pos (show (rd f e ds c u).count=0 from h0)];trivial
     clear h0
     go_wp2
     go_meet
     case rel=>rw [HE.out,List.append_nil];exact hT.out
    ·have hl:0<c:=by omega
     have HE:Hid (zu (rd f e ds c u)=[xf,Lib.itoa c]):=by unfold zu;rw [if_neg (show ¬ (rd f e ds c u).count=0 from h0)];trivial
     have DT:Hid (Calls Tryz.prog 119 #[.int .i64 c] wc fun e w'=>e= .returned (.string (bs (Lib.itoa c)))∧Below wc.heap.size wc w'):=
      js c wc hc0 hc1' (G.out.step (zB (zC _ _) hT.out.below)).tab
     clear h0
     generalize hjb:bs (Lib.itoa c)=jb at DT
     have HJ:=hid hjb
     clear hjb
     go_wp2_with (first
      |(go_at_call 119;refine Calls.mono DT.out ?_;rintro r w2 ⟨rfl,hb2⟩)
      |(at_builtin;refine wpList_append_own _ rfl _ _ 51 rfl (RBx w f e (.slice a ds.length cap) c u).heap.size 9 i0 (.string ⟨#[]⟩) 1 16 Tryz.underlying51 hi hz0 hz1 hz2 rfl (by decide) _ _ _ rfl ((hT.out.step hb2).own.alloc _) ⟨w2.heap.size,0,none⟩ 2 2 [.string ⟨#[99,111,117,110,116]⟩,.string jb] rfl rfl ?c1 ?c2 ?c3 ?c4 ?c5 ?_)
      |go_in)
     case c1=>
      intro j u hj
      match j,hj with
      |0,hj=>simp at hj;subst hj;simp [Addr.add]
      |1,hj=>simp at hj;subst hj;simp [Addr.add]
     case c2=>intro u hu;simp at hu;rcases hu with rfl|rfl<;>rfl
     case c3=>unfold maxLen;omega
     case c4=>omega
     case c5=>have:=(hT.out.step hb2).below.size;simp;omega
     ·intro v' w3 hown' hgrow _
      have HOW:Hid (TR (RBx w f e (.slice a ds.length cap) c u) w3 v' (L++zu (rd f e ds c u))):=by
       rw [HE.out]
       refine TR.app [xf,Lib.itoa c] (hT.out.step hb2) (by simp) ?_ hown' hgrow
       rw [←HJ.out,List.map_append];rfl
      clear hown' hgrow
      go_wp2
      go_meet
      case rel=>exact HOW.out
   case rest=>
    have HL:=hid hcut
    clear x0 x1 x2 x3 x4 hcut hT
    have hll2:(L++zu (rd f e ds c u)).length≤5:=by rw [List.length_append];unfold zu;split<;>simp<;>omega
    generalize hM0:L++zu (rd f e ds c u)=M at HL hll2
    have HM0:=hid hM0
    clear hM0
    have hT:=hid HL.out
    clear HL hll
    obtain ⟨x0,x1,x2,x3,x4⟩:=zjU hT.out.below
    go_upto_if 37 with fail
    go_cut [3] (fun v wx=>TR (RBx w f e (.slice a ds.length cap) c u) wx v (M++zv (rd f e ds c u) t))
    case first=>
     by_cases h0:u= -1
     ·have hl:(u != -1)=false:=by simp [h0]
      have HE:Hid (zv (rd f e ds c u) t=[]):=by unfold zv;rw [if_pos (show (rd f e ds c u).til= -1 from h0)];trivial
      clear h0
      go_wp2
      go_meet
      case rel=>rw [HE.out,List.append_nil];exact hT.out
     ·have hl:(u != -1)=true:=by simp [h0]
      have HE:Hid (zv (rd f e ds c u) t=[vh,t]):=by unfold zv;rw [if_neg (show ¬ (rd f e ds c u).til= -1 from h0)];trivial
      have DT:Hid (Calls Tryz.prog 118 #[.int .i64 u] wc fun e w'=>e= .returned (.string (bs t))∧Below wc.heap.size wc w'):=by
       rcases U.out with ⟨e1,_⟩|⟨_,y,m,d,hv,hn,rfl⟩
       ·exact absurd e1 h0
       ·exact ziG u y m d wc hv hn (G.out.step (zB (zC _ _) hT.out.below)).tab
      clear h0
      generalize hjb:bs t=jb at DT
      have HJ:=hid hjb
      clear hjb
      go_wp2_with (first
       |(go_at_call 118;refine Calls.mono DT.out ?_;rintro r w2 ⟨rfl,hb2⟩)
       |(at_builtin;refine wpList_append_own _ rfl _ _ 51 rfl (RBx w f e (.slice a ds.length cap) c u).heap.size 9 i0 (.string ⟨#[]⟩) 1 16 Tryz.underlying51 hi hz0 hz1 hz2 rfl (by decide) _ _ _ rfl ((hT.out.step hb2).own.alloc _) ⟨w2.heap.size,0,none⟩ 2 2 [.string ⟨#[117,110,116,105,108]⟩,.string jb] rfl rfl ?c1 ?c2 ?c3 ?c4 ?c5 ?_)
       |go_in)
      case c1=>
       intro j u hj
       match j,hj with
       |0,hj=>simp at hj;subst hj;simp [Addr.add]
       |1,hj=>simp at hj;subst hj;simp [Addr.add]
      case c2=>intro u hu;simp at hu;rcases hu with rfl|rfl<;>rfl
      case c3=>unfold maxLen;omega
      case c4=>omega
      case c5=>have:=(hT.out.step hb2).below.size;simp;omega
      ·intro v' w3 hown' hgrow _
       have HOW:Hid (TR (RBx w f e (.slice a ds.length cap) c u) w3 v' (M++zv (rd f e ds c u) t)):=by
        rw [HE.out]
        refine TR.app [vh,t] (hT.out.step hb2) (by simp) ?_ hown' hgrow
        rw [←HJ.out,List.map_append];rfl
       clear hown' hgrow
       go_wp2
       go_meet
       case rel=>exact HOW.out
    case rest=>
     have hW:M++zv (rd f e ds c u) t=yh (rd f e ds c u) t:=by
      rw [←HM0.out,←HL0.out]
      unfold yh
      rw [if_neg (by rw [beq_eq_false_iff_ne] at hne;exact hne)]
      have e1:(rd f e ds c u).freq=f.data.toList:=ByteArray.toList_eq ..
      rw [e1]
      show _=_::Lib.itoa e::_
      simp
     have HL:Hid (TR (RBx w f e (.slice a ds.length cap) c u) wc u3 (yh (rd f e ds c u) t)):=by rw [←hW];exact hcut
     have J:Hid (Calls Tryz.prog 77 #[u3,.string ⟨#[32]⟩] wc fun e' w'=>e'= .returned (.string (bs (yV (rd f e ds c u) t)))∧Below wc.heap.size wc w'):=
      zaY u3 _ (yh (rd f e ds c u) t) [32] wc (zcS _ _) HL.out.own (by have:=ziz (rd f e ds c u) t;omega) (by have:=vj W.out U.out h20;unfold yV at this;omega)
     clear hW hcut hT x0 x1 x2 x3 x4
     go_wp2_with (go_at_call 77;refine Calls.mono J.out ?_;rintro r w1 ⟨rfl,hb1⟩)
     go_ret
     exact ⟨rfl,zB (zC _ _) (zB HL.out.below hb1)⟩
theorem zgA(f:ByteArray)(e:Int)(sl:Value)(c u:Int)(ds:List Int)(t:List UInt8)(w:World)(hd:Days w sl ds)(hw:Well (rd f e ds c u))
  (hne:(f.toList==[111,110,99,101])=true):
  Calls Tryz.prog 120 #[rv f e sl c u] w fun r w'=>r= .returned (.string (bs (yV (rd f e ds c u) t)))∧Below w.heap.size w w':=by
 have D:=hid hd
 obtain ⟨a,cap,rfl,h20,hcap,hc⟩:=hd
 have W:=hid hw
 have HR:Hid (bs (yV (rd f e ds c u) t)=⟨#[111,110,99,101]⟩):=by
  unfold yV yh
  rw [if_pos (show (rd f e ds c u).freq=xO by rw [beq_iff_eq] at hne;exact hne),Lib.join_one]
  exact rfl
 rw [HR.out]
 clear hc hw HR
 unfold rv
 go_enter Tryz.func120,Tryz.ntmps120
 go_wp2_with (go_at_call 61;refine (zaX f e _ c u ds _ (D.out.step (zC _ _)) W.out).mono ?_;rintro r w1 ⟨rfl,hb1⟩;obtain ⟨x0,x1,x2,x3,x4⟩:=zjU hb1)
 go_ret
 exact ⟨rfl,zB (zC _ _) hb1⟩
theorem ziD(f:ByteArray)(e:Int)(sl:Value)(c u:Int)(ds:List Int)(t:List UInt8)(w:World)(g:GlobR w)(hd:Days w sl ds)(hw:Well (rd f e ds c u))(ht:UT (rd f e ds c u) t):
  Calls Tryz.prog 120 #[rv f e sl c u] w fun r w'=>r= .returned (.string (bs (yV (rd f e ds c u) t)))∧Below w.heap.size w w':=by
 cases hne:(f.toList==[111,110,99,101]) with
 |true=>exact zgA f e sl c u ds t w hd hw hne
 |false=>exact zgz f e sl c u ds t w g hd hw ht hne
end Go.Proofs.YtpeafgddbbojaaaGreatDoor
namespace Go.Proofs.YtpeafgddbbojaaaGreatDoor
open Go Go.RowKit Go.Sort Cal
attribute [local go_sem] Oper.semAt_some
open Classical in
noncomputable def ruT(r:RV):List UInt8:=if h: ∃ t,UT r t then yV r h.choose else []
theorem jH{r:RV}(h:Well r): ∃ t,UT r t∧ruT r=yV r t:=by
 have h':=ziw h
 exact ⟨h'.choose,h'.choose_spec,by unfold ruT;rw [dif_pos h']⟩
noncomputable def fT(E:EV):Nat→List UInt8
 |0=>E.ti.data.toList
 |1=>dtx E.st
 |2=>Lib.itoa E.lg
 |3=>ruT (rd E.f E.e E.ds E.c E.u)
 |4=>Lib.join (E.sk.map dtx) [44]
 |_=>Lib.join (E.mv.map mtx) [44]
theorem zgN{r:RV}{t:List UInt8}(h:Well r)(ht: ∀ c∈t,c.toNat≤57): ∀ x∈yh r t,(124:UInt8)∉x:=by
 intro x hx
 unfold yh at hx
 split at hx
 ·simp at hx;subst hx;decide
 ·rcases List.mem_cons.1 hx with rfl|hx
  ·rcases h.fr with e|e|e|e|e<;>rw [e]<;>decide
  rcases List.mem_cons.1 hx with rfl|hx
  ·intro hm;have:=xA _ (show 0≤r.every by have:=h.ev;omega) _ hm;revert this;decide
  rcases List.mem_append.1 hx with hx|hx
  ·unfold yJ at hx
   split at hx
   ·simp at hx
   ·simp at hx;subst hx
    refine vi 124 44 (by decide) _ (fun y hy=> ?_)
    obtain ⟨d,_,rfl⟩:=List.mem_map.1 hy
    unfold nm
    repeat' split
    all_goals decide
  rcases List.mem_append.1 hx with hx|hx
  ·unfold zu at hx
   split at hx
   ·simp at hx
   ·simp at hx
    rcases hx with rfl|rfl
    ·decide
    ·intro hm;have:=xA _ (show 0≤r.count by have:=h.co;omega) _ hm;revert this;decide
  ·unfold zv at hx
   split at hx
   ·simp at hx
   ·simp at hx
    rcases hx with rfl|rfl
    ·decide
    ·intro hm;have:=ht _ hm;revert this;decide
theorem zkc{r:RV}{t:List UInt8}(h:UT r t): ∀ c∈t,c.toNat≤57:=by
 rcases h with ⟨_,rfl⟩|⟨_,y,m,d,hv,_,rfl⟩
 ·intro c hc;simp at hc
 ·exact zeW hv
theorem zgO{r:RV}(h:Well r):(124:UInt8)∉ruT r:=by
 obtain ⟨t,ht,e⟩:=jH h
 rw [e]
 exact vi 124 32 (by decide) _ (zgN h (zkc ht))
theorem zly{E:EV}(h:EW E)(k:Nat):(124:UInt8)∉fT E k:=by
 match k with
 |0=>
  intro hm
  change (124:UInt8)∈E.ti.data.toList at hm
  obtain ⟨j,hj,he⟩:=List.mem_iff_getElem.1 hm
  have:=h.ti.1 j (by simpa using hj)
  unfold okt at this
  have e2:E.ti[j]'(by simpa using hj)=124:=by
   show E.ti.data[j]=124
   simpa using he
  rw [e2] at this
  simp at this
 |1=>exact xK _ _ (by decide)
 |2=>intro hm;have:=xA _ (show 0≤E.lg by have:=h.bd.2.1;omega) _ hm;revert this;decide
 |3=>exact zgO h.rl
 |4=>exact vi 124 44 (by decide) _ (fun y hy=>by obtain ⟨d,_,rfl⟩:=List.mem_map.1 hy;exact xK _ _ (by decide))
 |k+5=>exact vi 124 44 (by decide) _ (fun y hy=>by obtain ⟨d,_,rfl⟩:=List.mem_map.1 hy;exact zcY _ _ (by decide))
theorem zlz{E:EV}(h:EW E):(124:UInt8)∉E.id.data.toList:=by
 intro hm
 obtain ⟨j,hj,he⟩:=List.mem_iff_getElem.1 hm
 have:=h.id.1 j (by simpa using hj)
 unfold okc at this
 have e2:E.id[j]'(by simpa using hj)=124:=by
  show E.id.data[j]=124
  simpa using he
 rw [e2] at this
 simp at this
theorem za9{E:EV}(h:EW E)(h20:E.ds.length≤20)(k:Nat):(fT E k).length≤1000:=by
 obtain ⟨k20,m20,_⟩:=yX h.ls
 match k with
 |0=>have:=h.ti.2;show E.ti.data.toList.length≤_;rw [Array.length_toList];have e:E.ti.data.size=E.ti.size:=rfl;omega
 |1=>have:=yP E.st;show (dtx _).length≤_;omega
 |2=>have:=yw E.lg (by have:=h.bd.2.1;omega) (by have:=h.bd.2.2;omega);show (Lib.itoa _).length≤_;omega
 |3=>obtain ⟨t,ht,e⟩:=jH h.rl;show (ruT _).length≤_;rw [e];exact vj h.rl ht h20
 |4=>
  have:=yT (E.sk.map dtx) [44] 10 (fun y hy=>by obtain ⟨x,_,rfl⟩:=List.mem_map.1 hy;exact yP x)
  rw [List.length_map] at this
  have h31:E.sk.length*(10+[(44:UInt8)].length)≤20*11:=Nat.mul_le_mul k20 (by simp)
  show (Lib.join _ _).length≤_
  omega
 |k+5=>
  have:=yT (E.mv.map mtx) [44] 21 (fun y hy=>by obtain ⟨x,_,rfl⟩:=List.mem_map.1 hy;exact jJ x)
  rw [List.length_map] at this
  have h31:E.mv.length*(21+[(44:UInt8)].length)≤20*22:=Nat.mul_le_mul m20 (by simp)
  show (Lib.join _ _).length≤_
  omega
theorem vR(n:Int)(w:World)(h0:0≤n)(h1:n≤73048)(ht:Tab w):
  Calls Tryz.prog 118 #[.int .i64 n] w fun e w'=>e= .returned (.string (bs (dtx n)))∧Below w.heap.size w w':=by
 obtain ⟨y,m,d,hv,hn,e⟩:=jG h0 h1
 rw [e]
 exact ziG n y m d w hv hn ht
set_option maxHeartbeats 1000000 in
theorem zda(a b:Int)(w:World)(ha0:0≤a)(ha1:a≤73048)(hb0:0≤b)(hb1:b≤73048)(ht:Tab w):
  Calls Tryz.prog 123 #[.agg #[.int .i64 a,.int .i64 b]] w fun e w'=>e= .returned (.string (bs (mtx (a,b))))∧Below w.heap.size w w':=by
 have hA:=zC w (.cells #[.int .i64 a,.int .i64 b] 114)
 have x0:(w.alloc (.cells #[.int .i64 a,.int .i64 b] 114)).cell? ⟨w.heap.size,0,none⟩=some (.int .i64 a):=by rw [World.cell?_alloc_new];rfl
 have x1:(w.alloc (.cells #[.int .i64 a,.int .i64 b] 114)).cell? ⟨w.heap.size,1,none⟩=some (.int .i64 b):=by rw [World.cell?_alloc_new];rfl
 have T:=ht.step hA
 have HM:Hid (bs (mtx (a,b))=bs (dtx a)++⟨#[62]⟩++bs (dtx b)):=by
  show _=_
  unfold mtx bs
  simp [ByteArray.mk_append_mk]
 have HA:Hid (_):=hA
 generalize hw0:w.alloc (.cells #[.int .i64 a,.int .i64 b] 114)=w0 at x0 x1 T HA
 have X0:=cell_regrown x0
 have X1:=cell_regrown x1
 have T1:Hid (∀ d os,Calls Tryz.prog 118 #[.int .i64 a] (grow (redrawn w0 d) os) fun r w''=>r= .returned (.string (bs (dtx a)))∧ ∃ p:Regrown,w''=grow (redrawn w0 p.d) p.os):=fun d os=>Calls.regrown_of (vR a _ ha0 ha1 (T.step (below_regrown _ _ _)))
 have T2:Hid (∀ d os,Calls Tryz.prog 118 #[.int .i64 b] (grow (redrawn w0 d) os) fun r w''=>r= .returned (.string (bs (dtx b)))∧ ∃ p:Regrown,w''=grow (redrawn w0 p.d) p.os):=fun d os=>Calls.regrown_of (vR b _ hb0 hb1 (T.step (below_regrown _ _ _)))
 have hs1:(bs (dtx a)).size≤10:=by show (dtx a).toArray.size≤10;simpa using yP a
 have hs2:(bs (dtx b)).size≤10:=by show (dtx b).toArray.size≤10;simpa using yP b
 generalize bs (dtx a)=sa at T1 HM hs1
 generalize bs (dtx b)=sb at T2 HM hs2
 generalize bs (mtx (a,b))=sm at HM ⊢
 have q1: ¬ 9223372036854775807<sa.size+1:=by omega
 have q2: ¬ 9223372036854775807<sa.size+1+sb.size:=by omega
 clear T hA ha0 ha1 hb0 hb1
 go_enter Tryz.func123,Tryz.ntmps123
 go_upto_region 1 with (fail)
 refine wp_region_quiet_below (by kernel_rfl) (by kernel_rfl) ?_
 repeat (quiet_step (first|(go_at_call_of 118 (Value.int .i64 a);exact T1.out _ _)|(go_at_call_of 118 (Value.int .i64 b);exact T2.out _ _)))
 refine wpQuiet_nil ?_
 intro w2 hw'
 have hb2:Below w0.heap.size w0 w2:=by
  obtain ⟨⟨dq,osq⟩,hw''⟩:=hw'
  subst hw''
  exact below_regrown _ _ _
 clear hw' X0 X1 x0 x1
 go_wp2
 go_ret
 exact ⟨by rw [HM.out];rfl,zB HA.out hb2⟩
set_option maxHeartbeats 1600000 in
set_option maxRecDepth 100000 in
theorem jg(ms:List (Int×Int))(sl:Value)(w:World)(hd:Movs w sl ms)(h20:ms.length≤60)(hv: ∀ m∈ms,(0≤m.1∧m.1≤73048)∧0≤m.2∧m.2≤73048)(ht:Tab w):
  Calls Tryz.prog 122 #[sl,.func (.func 123) #[] #[]] w fun r w'=>r= .returned (.string (bs (Lib.join (ms.map mtx) [44])))∧Below w.heap.size w w':=by
 obtain ⟨a,cap,rfl,_,hcap,hcell⟩:=hd
 obtain ⟨i0,hi,hz0,hz1,hz2⟩:=info_parts ye
 have HC:Hid (_):=hcell
 have HV:Hid (_):=hv
 have HT:=hid ht
 clear hcell hv ht
 go_enter Tryz.func122,Tryz.ntmps122
 go_wp2
 go_loopw [5,7,10] (fun v _ i wr=> ∃ m:Nat,m≤ms.length∧i= .int .i64 m∧Hid (TR w wr v ((ms.map mtx).take m))) (fun _ _ i _=>ms.length - (intOf i).toNat)
 case atStart=>exact ⟨0,Nat.zero_le _,rfl,TR.nil w⟩
 case round=>
  obtain ⟨m,hm,rfl,HO⟩:=hrel
  by_cases hlt:m<ms.length
  ·obtain ⟨blk,rfl,hblk,hcl,hcl'⟩:=HC.out m hlt
   have hc1:=zD hcl HO.out.below
   have hc2:=zD hcl' HO.out.below
   have HN:Hid ((ms.map mtx).take (m+1)=(ms.map mtx).take m++[mtx ms[m]]):=by
    show _=_
    rw [List.take_succ_eq_append_getElem (by simpa using hlt)];simp
   obtain ⟨⟨v1,v2⟩,v3,v4⟩:=HV.out ms[m] (List.getElem_mem hlt)
   have hlen:((ms.map mtx).take m).length=m:=by simp;omega
   clear HC HV hcl hcl'
   generalize ms[m]=x at hc1 hc2 HN v1 v2 v3 v4
   obtain ⟨xa,xb⟩:=x
   dsimp only at hc1 hc2 v1 v2 v3 v4
   have hA:=zC wr (.cells #[.int .i64 xa,.int .i64 xb] 114)
   have hcall:=zda xa xb _ v1 v2 v3 v4 (HT.out.step (zB HO.out.below hA))
   have hn0:(wr.alloc (.cells #[.int .i64 xa,.int .i64 xb] 114)).cell? ⟨wr.heap.size,0,none⟩=some (.int .i64 xa):=by rw [World.cell?_alloc_new];rfl
   have hn1:(wr.alloc (.cells #[.int .i64 xa,.int .i64 xb] 114)).cell? ⟨wr.heap.size,1,none⟩=some (.int .i64 xb):=by rw [World.cell?_alloc_new];rfl
   generalize (ms.map mtx).take m=L at HO HN hlen
   obtain ⟨oa,oc,rfl⟩:=HO.out.form
   rw [hlen] at HO
   have HLN:=hid hlen
   have HCL:=hid hcall
   have HA:=hid hA
   generalize hbt:bs (mtx (xa,xb))=bt at HCL
   have HBT:=hid hbt
   clear hlen hcall hbt hA v1 v2 v3 v4
   rw [HLN.out]
   go_upto_region 5 with (fail)
   generalize wr.alloc (.cells #[.int .i64 xa,.int .i64 xb] 114)=wq at HCL HA hn0 hn1
   clear hc1 hc2
   go_wp2_with (first
    |(go_at_call 123;refine Calls.mono HCL.out ?_;rintro r w2 ⟨rfl,hb2⟩;have T2:Hid (TR w w2 (.slice oa m oc) L):=HO.out.step (zB HA.out hb2);have NC:Hid (_):=xQ w2 bt;have hz2':w.heap.size≤w2.heap.size:=T2.out.below.size)
    |(at_builtin;refine wpList_append_own _ rfl _ _ 51 rfl w.heap.size 9 i0 (.string ⟨#[]⟩) 1 16 Tryz.underlying51 hi hz0 hz1 hz2 rfl (by decide) _ _ _ rfl (show World.ownsRow _ _ _ _ _ m (L.map sv) by have:=T2.out.own.alloc (.cells #[.string bt] 9);rwa [HLN.out] at this) ⟨w2.heap.size,0,none⟩ 1 1 [.string bt] rfl rfl NC.out (fun v hv=>by rw [List.mem_singleton.1 hv];rfl) (by unfold maxLen;omega) (by omega) (by simp;omega) ?_;intro v' w3 hown' hgrow _;have T3:Hid (TR w w3 v' (L++[mtx (xa,xb)])):=TR.app [mtx (xa,xb)] T2.out (by rw [List.length_append,HLN.out];rfl) (by rw [List.map_append,←HBT.out];rfl) hown' hgrow;obtain ⟨g',cap',rfl⟩:=ownsRow_succ hown';clear hown' hgrow)
    |go_in)
   go_roundw
   case rel=>exact ⟨m+1,by omega,by go_num,by rw [HN.out];exact T3.out⟩
   case measure=>simp [intOf];omega
  ·have HE:Hid ((ms.map mtx).take m=ms.map mtx):=List.take_of_length_le (by simp;omega)
   rw [HE.out] at HO
   have hle:(Lib.join (ms.map mtx) [44]).length≤100000:=by
    have:=yT (ms.map mtx) [44] 21 (fun y hy=>by obtain ⟨x,hx,rfl⟩:=List.mem_map.1 hy;exact jJ x)
    rw [List.length_map] at this
    have h31:ms.length*(21+[(44:UInt8)].length)≤60*22:=Nat.mul_le_mul h20 (by simp)
    omega
   have J:Hid (_):=zbk w _ (ms.map mtx) [44] wr HO.out (by simp;omega) hle
   obtain ⟨oa,oc,rfl⟩:=HO.out.form
   rw [List.length_map] at HO J ⊢
   clear HC HT HV hle
   unfold bs at J
   go_wp2_with (go_at_call 77;refine Calls.mono J.out ?_;rintro r w2 ⟨rfl,hb2⟩)
   go_ret
   exact ⟨rfl,zB HO.out.below hb2⟩
theorem zci(E:EV)(sl skv mvv:Value)(k:Nat)(hk:k<6)(w:World)(g:GlobR w)(hd:Days w sl E.ds)(hs:Ints w skv E.sk)(hm:Movs w mvv E.mv)(hw:EW E):
  Calls Tryz.prog 76 #[ev E sl skv mvv,.string (zt k)] w fun r w'=>r= .returned (.string (bs (fT E k)))∧Below w.heap.size w w':=by
 obtain ⟨k20,m20,_,_,kd,md,_⟩:=yX hw.ls
 obtain ⟨ra,rc,e1,h20,_⟩:=id hd
 obtain ⟨sa,sc,e2,_⟩:=id hs
 obtain ⟨ma,mc,e3,_⟩:=id hm
 match k,hk with
 |0,_=>
  subst e1 e2 e3
  exact zhd E ra _ rc sa _ sc ma _ mc w
 |1,_=>
  subst e1 e2 e3
  exact zhe E ra _ rc sa _ sc ma _ mc _ w (fun W hW=>vR E.st W hw.bd.1.1 hw.bd.1.2 (g.tab.step hW))
 |2,_=>
  subst e1 e2 e3
  exact ziZ E ra _ rc sa _ sc ma _ mc _ w (fun W hW=>js E.lg W (by have:=hw.bd.2.1;omega) (by have:=hw.bd.2.2;omega) (g.tab.step hW))
 |3,_=>
  obtain ⟨t,ht,e⟩:=jH hw.rl
  show Calls _ _ _ _ fun r w'=>r= .returned (.string (bs (ruT _)))∧_
  rw [e]
  subst e1 e2 e3
  exact zi0 E ra _ rc sa _ sc ma _ mc _ w (fun W hW=>ziD E.f E.e _ E.c E.u E.ds t W (g.step hW) (hd.step hW) hw.rl ht)
 |4,_=>
  subst e1 e2 e3
  exact zdq E ra _ rc sa _ sc ma _ mc _ w (fun W hW=>jo E.sk _ dtx W (hs.step hW) (by omega) (fun x _=>by have:=yP x;omega) (fun x hx W' hW'=>vR x W' (kd x hx).1 (kd x hx).2 ((g.tab.step hW).step hW')))
 |5,_=>
  subst e1 e2 e3
  exact zdr E ra _ rc sa _ sc ma _ mc _ w (fun W hW=>jg E.mv _ W (hm.step hW) (by omega) md (g.tab.step hW))
noncomputable def pT(E:EV):List (List UInt8):=[fT E 0,fT E 1,fT E 2,fT E 3,fT E 4,fT E 5]
theorem ziP(E:EV)(k:Nat)(hk:k<6):(pT E).getD k []=fT E k:=by
 match k,hk with
 |0,_=>rfl
 |1,_=>rfl
 |2,_=>rfl
 |3,_=>rfl
 |4,_=>rfl
 |5,_=>rfl
noncomputable def eT(E:EV):List UInt8:=Lib.join (E.id.data.toList::pT E) [124]
theorem zdb{E:EV}{x:List UInt8}(h:x∈pT E): ∃ k,k<6∧x=fT E k:=by
 unfold pT at h
 simp only [List.mem_cons,List.not_mem_nil,or_false] at h
 rcases h with h|h|h|h|h|h
 ·exact ⟨0,by omega,h⟩
 ·exact ⟨1,by omega,h⟩
 ·exact ⟨2,by omega,h⟩
 ·exact ⟨3,by omega,h⟩
 ·exact ⟨4,by omega,h⟩
 ·exact ⟨5,by omega,h⟩
theorem zdc{E:EV}(h:EW E):zZ 124 (eT E)=E.id.data.toList::pT E:=by
 refine yg 124 _ (by simp) (fun x hx=> ?_)
 rcases List.mem_cons.1 hx with rfl|hx
 ·exact zlz h
 ·obtain ⟨k,_,rfl⟩:=zdb hx
  exact zly h k
theorem zeY{E:EV}(h:EW E)(h20:E.ds.length≤20):(eT E).length≤10000:=by
 have:=yT (E.id.data.toList::pT E) [124] 1000 (fun y hy=>by
  rcases List.mem_cons.1 hy with rfl|hy
  ·have:=h.id.2.2;rw [Array.length_toList];have e:E.id.data.size=E.id.size:=rfl;omega
  ·obtain ⟨k,_,rfl⟩:=zdb hy;exact za9 h h20 k)
 exact Nat.le_trans this (by simp [pT])
theorem zdd(E:EV)(sl skv mvv:Value)(s:Nat→Addr)(w:World)(gk:GlobK s w)(g:GlobR w)(hd:Days w sl E.ds)(hs:Ints w skv E.sk)(hm:Movs w mvv E.mv)(hw:EW E):
  Calls Tryz.prog 45 #[ev E sl skv mvv] w fun r w'=>r= .returned (.string (bs (eT E)))∧Below w.heap.size w w':=by
 have h20:E.ds.length≤20:=by obtain ⟨_,_,_,h,_⟩:=hd;exact h
 refine zi1 E sl skv mvv (pT E) s w gk hd hs hm (by have:=hw.id.2.2;omega) (by have:=hw.ti.2;omega) hw rfl (fun p hp=> ?_) (fun i hi W hW=> ?_)
 ·obtain ⟨k,_,rfl⟩:=zdb hp;have:=za9 hw h20 k;omega
 ·rw [ziP E i hi];exact zci E sl skv mvv i hi W (g.step hW) (hd.step hW) (hs.step hW) (hm.step hW) hw
end Go.Proofs.YtpeafgddbbojaaaGreatDoor
namespace Go.Proofs.YtpeafgddbbojaaaGreatDoor
open Go Go.RowKit Go.Shelf Cal
attribute [local go_sem] Oper.semAt_some
theorem zaO{a b:ByteArray}(h:a.data.toList=b.data.toList):a=b:=by
 obtain ⟨⟨x⟩⟩:=a
 obtain ⟨⟨y⟩⟩:=b
 have:x=y:=h
 subst this
 rfl
def ziE(W:World)(B:Nat):Nat:=match W.cell? ⟨B,0,none⟩ with
 |some (.string s)=>s.size+1
 |_=>0
structure Its(W:World)(Bs Bp Bv:Nat)(s:ByteArray)(c:UInt8):Prop where
 s:Boxed W Bs 9 (.string s)
 p:Boxed W Bp 9 (.string ⟨#[c]⟩)
 v:Boxed W Bv 3 (.int .i64 0)
theorem zdV{W:World}{B:Nat}{s:ByteArray}{t:TypeId}(h:Boxed W B t (.string s)):ziE W B=s.size+1:=by
 unfold ziE;rw [h.cell]
set_option maxHeartbeats 1000000 in
theorem zce(n l Bs Bp Bv:Nat)(c:UInt8)(ws:List (List UInt8))(J Jx:Nat→World→Prop)(hn:6≤n)(hne1:Bs≠Bp)(hne2:Bs≠Bv)
  (hJs: ∀ k W v,J k W→J k (W.setCell ⟨Bs,0,none⟩ v))
  (hY: ∀ (k:Nat) (hk:k<ws.length) (W:World),J k W→YieldAt Fence.wide (n - 1) Tryz.prog l #[.string ⟨ws[k].toArray⟩] W fun e W'=>
   (e= .returned (.bool true)∧J (k+1) W'∧W'.heap[Bs]? =W.heap[Bs]? ∧W'.heap[Bp]? =W.heap[Bp]? ∧W'.heap[Bv]? =W.heap[Bv]?)∨(e= .returned (.bool false)∧Jx (k+1) W'))
  (W:World) (s:ByteArray) (hsz:s.size≤1000000) (hs:zZ c s.data.toList=ws) (hB:Its W Bs Bp Bv s c) (h0:J 0 W):
  CallsIn Fence.wide n Tryz.prog 215 #[.func (.yield l) #[] #[],.pointer (some ⟨Bp,0,none⟩),.pointer (some ⟨Bs,0,none⟩),.pointer (some ⟨Bv,0,none⟩)] W fun e W'=>
   (∃ v,e= .returned v)∧(J ws.length W'∨ ∃ k,Jx k W'):=by
 have h1:1≤n:=by omega
 obtain ⟨b1,b2,b3⟩:=hB
 have c1:=b1.cell
 have c2:=b2.cell
 have c3:=b3.cell
 refine callsIn_of_wp Tryz.func215 rfl trivial ?_ rfl
 simp only [Tryz.ntmps215,List.size_toArray,List.length_cons,List.length_nil,Nat.reduceAdd,Nat.reduceSub,Array.replicate_succ,Array.replicate_zero,List.push_toArray,List.append_toArray,List.nil_append,List.cons_append]
 gi_wp2
 have HY:Hid (_):=hY
 have HJ:Hid (_):=hJs
 clear hY hJs c1 c2 c3
 gi_loopw [7,8] (fun i fr wr=> ∃ (k:Nat) (sk:ByteArray),J k wr∧Its wr Bs Bp Bv sk c∧zZ c sk.data.toList=ws.drop k∧sk.size≤s.size) (fun _ _ wr=>ziE wr Bs)
 case atStart=>exact ⟨0,s,h0,⟨b1,b2,b3⟩,hs,Nat.le_refl _⟩
 case round=>
  obtain ⟨k,sk,hJk,hI,hp,hss⟩:=hrel
  obtain ⟨d1,d2,d3⟩:=hI
  have e1:=d1.cell
  have e2:=d2.cell
  have e3:=d3.cell
  have f1:=d1.frozen
  by_cases hx:Lib.indexByte sk.data.toList c= -1
  ·have hp1:=hp
   rw [zeN hx] at hp1
   have hk:k<ws.length:=by
    rcases Nat.lt_or_ge k ws.length with h|h
    ·exact h
    ·rw [List.drop_eq_nil_of_le h] at hp1;cases hp1
   have hw:ws[k]=sk.data.toList∧k+1=ws.length:=by
    rw [List.drop_eq_getElem_cons hk] at hp1
    injection hp1 with q1 q2
    refine ⟨q1.symm,?_⟩
    have:=congrArg List.length q2
    simp at this
    omega
   have ew:(⟨ws[k].toArray⟩:ByteArray)=sk:=by rw [hw.1]
   have hYk:=HY.out k hk wr hJk
   rw [ew] at hYk
   obtain ⟨fn,tmps,assign,body,hy,hR⟩:=hYk
   have ix:=Tryz.strings_Index_one sk c wr
   rw [hx] at ix
   have IX:=hid ix
   have HK:=hid hw.2
   clear ix hx hp1 hp hw ew hk
   gi_wp2_with (refine ⟨trivial,?_⟩;gi_at_call 165;refine (callsIn_wide.2 (IX.out)).mono ?_;rintro e w' ⟨rfl,rfl⟩)
   refine hR.mono ?_
   rintro e W3 (⟨rfl,hJ3,_⟩|⟨rfl,hJx3⟩)
   ·gi_wp2
    go_end0
    exact ⟨⟨_,rfl⟩,.inl (by rw [←HK.out];exact hJ3)⟩
   ·gi_wp2
    go_end0
    exact ⟨⟨_,rfl⟩,.inr ⟨_,hJx3⟩⟩
  ·obtain ⟨i,hi⟩: ∃ i:Nat,Lib.indexByte sk.data.toList c=i:=⟨(Lib.indexByte sk.data.toList c).toNat,by have:=Lib.indexByte_ge sk.data.toList c;omega⟩
   have hil:i<sk.size:=by
    obtain ⟨hh,_⟩:=Lib.indexByte_some hi
    have:=(List.getElem?_eq_some_iff.1 hh).1
    rw [Lib.size_eq];exact this
   have hp1:=hp
   rw [zaL hi] at hp1
   have hk:k<ws.length:=by
    rcases Nat.lt_or_ge k ws.length with h|h
    ·exact h
    ·rw [List.drop_eq_nil_of_le h] at hp1;cases hp1
   have hw:ws[k]=sk.data.toList.take i∧zZ c (sk.data.toList.drop (i+1))=ws.drop (k+1):=by
    rw [List.drop_eq_getElem_cons hk] at hp1
    injection hp1 with q1 q2
    exact ⟨q1.symm,q2⟩
   have ew:(⟨ws[k].toArray⟩:ByteArray)=sk.extract 0 i:=by
    rw [hw.1]
    apply zaO
    rw [Lib.extract_data];simp
   have ex:(sk.extract (i+1) sk.size).data.toList=sk.data.toList.drop (i+1):=Lib.extract_to_end sk (i+1)
   have hYk:=HY.out k hk wr hJk
   rw [ew] at hYk
   obtain ⟨fn,tmps,assign,body,hy,hR⟩:=hYk
   have ix:=Tryz.strings_Index_one sk c wr
   rw [hi] at ix
   have IX:=hid ix
   have HP:Hid (zZ c (sk.extract (i+1) sk.size).data.toList=ws.drop (k+1)):=by rw [ex];exact hw.2
   have HE:Hid (_):=ex
   have hskz:sk.size≤1000000:=by omega
   clear ix hx hp1 hp hw ew hk hi ex
   gi_wp2_with (refine ⟨trivial,?_⟩;gi_at_call 165;refine (callsIn_wide.2 (IX.out)).mono ?_;rintro e w' ⟨rfl,rfl⟩)
   refine hR.mono ?_
   rintro e W3 (⟨rfl,hJ3,g1,g2,g3⟩|⟨rfl,hJx3⟩)
   ·have d1':Boxed W3 Bs 9 (.string sk):=g1.trans d1
    have d2':Boxed W3 Bp 9 (.string ⟨#[c]⟩):=g2.trans d2
    have d3':Boxed W3 Bv 3 (.int .i64 0):=g3.trans d3
    have e1':=d1'.cell
    have e2':=d2'.cell
    have f1':=d1'.frozen
    have HG:=hid hJ3
    clear g1 g2 g3 hJ3
    gi_wp2
    go_roundw
    case rel=>
     refine ⟨k+1,sk.extract (i+1) sk.size,HJ.out _ _ _ HG.out,⟨d1'.set _,d2'.other (Ne.symm hne1) _,d3'.other (Ne.symm hne2) _⟩,HP.out,?_⟩
     have:=congrArg List.length HE.out
     rw [List.length_drop,←Lib.size_eq,←Lib.size_eq] at this
     omega
    case measure=>
     rw [zdV (d1'.set _),zdV d1]
     have:=congrArg List.length HE.out
     rw [List.length_drop,←Lib.size_eq,←Lib.size_eq] at this
     omega
   ·gi_wp2
    refine bodyPost_ret (results_none rfl _ _ _) rfl ?_
    exact ⟨⟨_,rfl⟩,.inr ⟨_,hJx3⟩⟩
def pcO(ws:List (List UInt8)):Obj:= .cells (ws.map sv).toArray 9
def Wds(W:World)(v:Value)(ws:List (List UInt8)):Prop:=
 ∃ (a:Option Addr) (c:Nat),v= .slice a ws.length c∧ws.length≤c∧ ∀ (j:Nat) (h:j<ws.length),∃ b,a=some ⟨b,0,none⟩∧b<W.heap.size∧W.cell? ⟨b,j,none⟩=some (sv ws[j])
theorem Wds.step{W W':World}{v:Value}{ws:List (List UInt8)}(h:Wds W v ws)(hb:Below W.heap.size W W'):Wds W' v ws:=by
 obtain ⟨a,c,h1,h2,h3⟩:=h
 refine ⟨a,c,h1,h2,fun j hj=> ?_⟩
 obtain ⟨b,e,hl,hc⟩:=h3 j hj
 exact ⟨b,e,Nat.lt_of_lt_of_le hl hb.size,zD hc hb⟩
theorem Wds.nil(W:World)(c:Nat):Wds W (.slice none 0 c) []:=⟨none,c,rfl,by simp,fun j h=>absurd h (by simp)⟩
theorem Wds.new(w:World)(ws:List (List UInt8)):Wds (w.alloc (pcO ws)) (.slice (some ⟨w.heap.size,0,none⟩) ws.length ws.length) ws:=by
 refine ⟨_,_,rfl,Nat.le_refl _,fun j hj=>⟨w.heap.size,rfl,by rw [World.size_alloc];exact Nat.lt_succ_self _,?_⟩⟩
 unfold pcO
 rw [World.cell?_alloc_new]
 simp [List.getElem?_eq_getElem hj]
theorem zcZ(s:ByteArray)(c:UInt8)(w:World)(hs:s.size≤1000000):
  Calls Tryz.prog 127 #[.string s,.string ⟨#[c]⟩,.int .i64 0,.int .i64 (-1)] w fun r w'=>
   r= .returned (.slice (some ⟨w.heap.size,0,none⟩) (zZ c s.data.toList).length (zZ c s.data.toList).length)∧w'=w.alloc (pcO (zZ c s.data.toList)):=by
 have h1:1≤ByteArray.size ⟨#[c]⟩:=Nat.le_refl 1
 have hle:=Lib.countB_le ⟨#[c]⟩ h1 s.size s (Nat.le_refl _)
 have hlen:=Lib.splitB_all ⟨#[c]⟩ h1 0 _ s rfl
 have hp:=zfK c _ s rfl
 have k:=Any.strings_genSplit_core Tryz.lays221 (by kernel_rfl) s ⟨#[c]⟩ 0 (-1) (Lib.countB s ⟨#[c]⟩+1) w (by omega) h1 (Nat.zero_le _)
  (fun x cs _=>(Tryz.strings_Index_one x c _).mono (fun e w' h=>⟨by rw [h.1];exact congrArg (fun n=>Ending.returned (.int .i64 n)) (Lib.index_one x.data.toList c).symm,h.2⟩))
  ((Tryz.strings_Count_one s c w).mono (fun e w' h=>⟨by rw [h.1];exact congrArg (fun n:Nat=>Ending.returned (.int .i64 (n:Int))) (Lib.count_one c s.data.toList).symm,h.2⟩))
  (by decide) (by decide) (by rw [if_pos (by decide)];omega)
 rw [Nat.add_sub_cancel,hlen] at k
 have e1:(zZ c s.data.toList).length=Lib.countB s ⟨#[c]⟩+1:=by rw [←hp,List.length_map,hlen]
 have e2:Lib.cellsOf (Lib.splitB ⟨#[c]⟩ 0 (Lib.countB s ⟨#[c]⟩) s) (Lib.countB s ⟨#[c]⟩+1)=((zZ c s.data.toList).map sv).toArray:=by
  rw [←hlen,Lib.cellsOf_full,←hp,List.map_map]
  rfl
 rw [e2] at k
 unfold pcO
 rw [e1]
 exact k
theorem za7(s:ByteArray)(c:UInt8)(w:World)(hs:s.size≤1000000):
  Calls Tryz.prog 79 #[.string s,.string ⟨#[c]⟩] w fun r w'=>
   r= .returned (.slice (some ⟨w.heap.size,0,none⟩) (zZ c s.data.toList).length (zZ c s.data.toList).length)∧w'=w.alloc (pcO (zZ c s.data.toList)):=by
 have G:Hid (_):=zcZ s c w hs
 generalize zZ c s.data.toList=ws at G ⊢
 go_enter Tryz.func79,Tryz.ntmps79
 go_wp2_with (go_at_call 127;refine Calls.mono G.out ?_;rintro r w' ⟨rfl,rfl⟩)
 go_ret
 exact ⟨rfl,rfl⟩
theorem za8(ws:List (List UInt8))(w:World)(hn: ∀ x∈ws,(44:UInt8)∉x)(hx: ∀ x∈ws,x≠[])(hl:(Lib.join ws [44]).length≤100000):
  Calls Tryz.prog 167 #[.string (bs (Lib.join ws [44]))] w fun r w'=> ∃ v,r= .returned v∧Wds w' v ws∧Below w.heap.size w w':=by
 by_cases h0:ws=[]
 ·subst h0
  rw [join_nil]
  unfold bs
  go_enter Tryz.func167,Tryz.ntmps167
  go_wp2
  go_ret
  exact ⟨_,rfl,Wds.nil w 0,Below.refl _ _⟩
 ·have hp:=xy h0 hn
  have hj:=zcg h0 hx
  have S:=za7 (bs (Lib.join ws [44])) 44 w (by show (Lib.join ws [44]).toArray.size≤_;simp;omega)
  rw [show (bs (Lib.join ws [44])).data.toList=Lib.join ws [44] from rfl,hp] at S
  have hb:(bs (Lib.join ws [44])).toList.isEmpty=false:=by
   rw [ByteArray.toList_eq,zh]
   cases h:Lib.join ws [44] with
   |nil=>exact absurd h hj
   |cons _ _=>rfl
  generalize bs (Lib.join ws [44])=sb at S hb
  have HS:Hid (_):=S
  clear S hp hj
  go_enter Tryz.func167,Tryz.ntmps167
  go_wp2_with (go_at_call 79;refine Calls.mono HS.out ?_;rintro r w' ⟨rfl,rfl⟩)
  go_ret
  exact ⟨_,rfl,Wds.new w ws,zC _ _⟩
set_option maxHeartbeats 1000000 in
theorem zgM(m:Int×Int)(w:World):
  Calls Tryz.prog 197 #[.string (bs (mtx m)),.string ⟨#[62]⟩] w fun r w'=>r= .returned (.tuple #[.string (bs (dtx m.1)),.string (bs (dtx m.2)),.bool true])∧Below w.heap.size w w':=by
 have hi:=zgK m
 have hlen:(bs (mtx m)).size=(dtx m.1).length+(1+(dtx m.2).length):=by show (mtx m).toArray.size=_;unfold mtx;simp;omega
 have hl1:=yP m.1
 have e1:(bs (mtx m)).extract 0 (dtx m.1).length=bs (dtx m.1):=zaO (by rw [Lib.extract_from_zero,zh,zh];unfold mtx;simp)
 have e2:(bs (mtx m)).extract ((dtx m.1).length+1) (bs (mtx m)).size=bs (dtx m.2):=zaO (by rw [Lib.extract_to_end,zh,zh];unfold mtx;simp)
 have I:Hid (∀ W,Calls Tryz.prog 189 #[.string (bs (mtx m)),.string ⟨#[62]⟩] W fun r w'=>r= .returned (.int .i64 (dtx m.1).length)∧w'=W):=fun W=>by
  have:=Tryz.stringslite_Index_one (bs (mtx m)) 62 W
  rw [zh,hi] at this
  exact this
 generalize bs (mtx m)=s at hlen e1 e2 I ⊢
 generalize bs (dtx m.1)=s1 at e1 ⊢
 generalize bs (dtx m.2)=s2 at e2 ⊢
 generalize (dtx m.1).length=i at hlen hl1 e1 e2 I
 generalize (dtx m.2).length=j at hlen
 have c1:(0:Int)≤(i:Int):=by omega
 have c2:(i:Int)≤(s.size:Int):=by omega
 have c3:(0:Int)≤(i:Int)+1:=by omega
 have c4:(i:Int)+1≤(s.size:Int):=by omega
 have E1:Hid (_):=e1
 have E2:Hid (_):=e2
 clear e1 e2 hi hlen
 go_enter Tryz.func197,Tryz.ntmps197
 go_wp2_with (go_at_call 189;refine Calls.mono (I.out _) ?_;rintro r w' ⟨rfl,rfl⟩)
 go_region
 go_wp2
 go_ret3
 refine ⟨?_,zI _⟩
 simp
 exact ⟨E1.out,E2.out⟩
theorem zkb(m:Int×Int)(w:World):
  Calls Tryz.prog 174 #[.string (bs (mtx m)),.string ⟨#[62]⟩] w fun r w'=>r= .returned (.tuple #[.string (bs (dtx m.1)),.string (bs (dtx m.2)),.bool true])∧Below w.heap.size w w':=by
 have C:Hid (_):=zgM m w
 generalize bs (mtx m)=s at C ⊢
 generalize bs (dtx m.1)=s1 at C ⊢
 generalize bs (dtx m.2)=s2 at C ⊢
 go_enter Tryz.func174,Tryz.ntmps174
 go_wp2_with (go_at_call 197;refine Calls.mono C.out ?_;rintro r w' ⟨rfl,hb⟩)
 go_ret3
 exact ⟨rfl,hb⟩
end Go.Proofs.YtpeafgddbbojaaaGreatDoor
namespace Go.Proofs.YtpeafgddbbojaaaGreatDoor
open Go.RowKit Cal
set_option maxHeartbeats 400000 in
theorem zaw(s:ByteArray)(w:World)(hs:s.size≤4)(hd:zbN s.data.toList):
  Calls Tryz.prog 170 #[.string s] w fun e w'=>e= .returned (.int .i64 (val s.data.toList))∧w'=w:=by
 go_enter Tryz.func170,Tryz.ntmps170
 go_wp2
 go_loop [3,7] (fun n i=> ∃ k:Nat,k≤s.size∧i= .int .i64 k∧n= .int .i64 (val (s.data.toList.take k))) (fun _ i=>s.size - (intOf i).toNat)
 case atStart=>exact ⟨0,Nat.zero_le _,rfl,rfl⟩
 case round=>
  obtain ⟨k,hk,rfl,rfl⟩:=hrel
  have hb:=zfA _ (zij hd k) (by rw [List.length_take];omega)
  by_cases hlt:k<s.size
  ·have hc:=zle hd k hlt
   have HS:Hid (val (s.data.toList.take (k+1))=val (s.data.toList.take k)*10+((s[k].toNat:Int) - 48)):=by rw [vg s k hlt];exact jC _ _
   go_wp2
   go_round
   case rel=>exact ⟨k+1,by omega,by go_num,by rw [HS.out]⟩
   case measure=>simp [intOf];omega
  ·go_wp2
   go_ret
   exact ⟨ze (by rw [List.take_of_length_le (by simp;omega)]),rfl⟩
set_option maxHeartbeats 1000000 in
theorem zjx(s:ByteArray)(w:World)(b:Bool)(h:s.size=10)(hb:b=true↔zj8 s):
  Calls Tryz.prog 168 #[.string s] w fun e w'=>e= .returned (.bool b)∧w'=w:=by
 have HB:=hid hb
 clear hb
 have H10:=hid h
 have hlo:(10:Int)≤s.size:=by omega
 have hhi:(s.size:Int)≤10:=by omega
 clear h
 go_enter Tryz.func168,Tryz.ntmps168
 go_wp2
 go_loop [9] (fun i=> ∃ k:Nat,k≤10∧i= .int .i64 k∧ ∀ (j:Nat) (hj:j<s.size),j<k→sgn j s[j]) (fun i=>10 - (intOf i).toNat)
 case atStart=>exact ⟨0,Nat.zero_le _,rfl,fun j _ h=>absurd h (Nat.not_lt_zero _)⟩
 case round=>
  obtain ⟨k,hk,rfl,hall⟩:=hrel
  have HA:=hid hall
  clear hall
  by_cases hlt:k<10
  ·have hks:k<s.size:=by omega
   have HN:Hid (sgn k s[k]→ ∀ (j:Nat) (hj:j<s.size),j<k+1→sgn j s[j]):=fun hc j hj hjk=>by
    by_cases e:j=k
    ·subst e;exact hc
    ·exact HA.out j hj (by omega)
   have HF:Hid (¬ sgn k s[k]→b=false):=fun hc=>by
    cases b with
    |false=>rfl
    |true=>exact absurd ((HB.out.1 rfl).2 k hks) hc
   clear HA HB
   by_cases h47:k=4∨k=7
   ·have HL:Hid (sgn k s[k]↔(s[k].toNat:Int)=45):=za1 h47
    by_cases hc:(s[k].toNat:Int)=45
    ·have hc':((s[k].toNat:Int)==45)=true:=by simpa using hc
     have HG:Hid (∀ (j:Nat) (hj:j<s.size),j<k+1→sgn j s[j]):=HN.out (HL.out.2 hc)
     clear HN HF HL hc
     rcases h47 with e|e
     ·have e1:((k:Int)==4)=true:=by simp;omega
      clear e
      go_wp2
      go_round
      case rel=>exact ⟨k+1,by omega,by go_num,HG.out⟩
      case measure=>simp [intOf];omega
     ·have e1:((k:Int)==4)=false:=by simp;omega
      have e2:((k:Int)==7)=true:=by simp;omega
      clear e
      go_wp2
      go_round
      case rel=>exact ⟨k+1,by omega,by go_num,HG.out⟩
      case measure=>simp [intOf];omega
    ·have hc':((s[k].toNat:Int)==45)=false:=by simpa using hc
     have HG:Hid (b=false):=HF.out (fun x=>hc (HL.out.1 x))
     clear HN HF HL hc
     rcases h47 with e|e
     ·have e1:((k:Int)==4)=true:=by simp;omega
      clear e
      go_wp2
      go_ret
      exact ⟨zg HG.out.symm,rfl⟩
     ·have e1:((k:Int)==4)=false:=by simp;omega
      have e2:((k:Int)==7)=true:=by simp;omega
      clear e
      go_wp2
      go_ret
      exact ⟨zg HG.out.symm,rfl⟩
   ·have HL:Hid (sgn k s[k]↔(48≤(s[k].toNat:Int)∧(s[k].toNat:Int)≤57)):=yB h47
    have e1:((k:Int)==4)=false:=by simp;omega
    have e2:((k:Int)==7)=false:=by simp;omega
    clear h47
    by_cases hc:48≤(s[k].toNat:Int)∧(s[k].toNat:Int)≤57
    ·have HG:Hid (∀ (j:Nat) (hj:j<s.size),j<k+1→sgn j s[j]):=HN.out (HL.out.2 hc)
     clear HN HF HL
     obtain ⟨hc1,hc2⟩:=hc
     go_wp2
     go_round
     case rel=>exact ⟨u2,.int .i64 k,.int .i64 ((k:Int)+1),⟨k+1,by omega,by go_num,HG.out⟩,rfl,rfl,rfl⟩
     case measure=>simp [intOf];omega
    ·have HG:Hid (b=false):=HF.out (fun x=>hc (HL.out.1 x))
     clear HN HF HL
     by_cases hc1:(s[k].toNat:Int)<48
     ·clear hc
      go_wp2
      go_ret
      exact ⟨zg HG.out.symm,rfl⟩
     ·have hc2:57<(s[k].toNat:Int):=by omega
      clear hc
      go_wp2
      go_ret
      exact ⟨zg HG.out.symm,rfl⟩
  ·go_wp2
   go_ret
   refine ⟨zg ((HB.out.2 ⟨H10.out,fun j hj=>HA.out j hj (by have:=H10.out;omega)⟩).symm),rfl⟩
theorem zjy(s:ByteArray)(w:World)(h:zj8 s):
  Calls Tryz.prog 168 #[.string s] w fun e w'=>e= .returned (.bool true)∧w'=w:=
 zjx s w true h.1 ⟨fun _=>h,fun _=>rfl⟩
set_option maxHeartbeats 400000 in
theorem zik(s:ByteArray)(w:World)(h:zj8 s)(hv:vld (yS s) (mS s) (dS s)):
  Calls Tryz.prog 130 #[.string s] w fun e w'=>e= .returned (.tuple #[.int .i64 (num (yS s) (mS s) (dS s)),.nilIface])∧Below w.heap.size w w':=by
 obtain ⟨p0,p1,p2,z0,z1,z2⟩:=zgp h
 have n0:=fun w=>zaw (s.extract 0 4) w (by omega) p0
 have n1:=fun w=>zaw (s.extract 5 7) w (by omega) p1
 have n2:=fun w=>zaw (s.extract 8 s.size) w (by omega) p2
 have mk:=fun w=>zkj (yS s) (mS s) (dS s) w hv
 change ∀ w,Calls _ _ _ w fun e w'=>e= .returned (.int .i64 (yS s))∧w'=w at n0
 change ∀ w,Calls _ _ _ w fun e w'=>e= .returned (.int .i64 (mS s))∧w'=w at n1
 change ∀ w,Calls _ _ _ w fun e w'=>e= .returned (.int .i64 (dS s))∧w'=w at n2
 have N0:Hid (_):=n0
 have N1:Hid (_):=n1
 have N2:Hid (_):=n2
 have M:Hid (_):=mk
 have hlo:(10:Int)≤s.size:=by have:=h.1;omega
 have hhi:(s.size:Int)≤10:=by have:=h.1;omega
 clear n0 n1 n2 mk p0 p1 p2 z0 z1 z2 hv
 go_enter Tryz.func130,Tryz.ntmps130
 go_wp2_with (go_at_call 168;refine (zjy _ _ h).mono ?_;rintro e w' ⟨rfl,rfl⟩)
 go_quiet (first
  |(go_at_call_of 170 (Value.string (s.extract 0 4));exact Calls.quiet_of_same (N0.out _))
  |(go_at_call_of 170 (Value.string (s.extract 5 7));exact Calls.quiet_of_same (N1.out _))
  |(go_at_call_of 170 (Value.string (s.extract 8 s.size));exact Calls.quiet_of_same (N2.out _))
  |(go_at_call 169;exact Calls.quiet_of_same (M.out _)))
 go_wp2
 go_ret2
 exact ⟨rfl,zN _ _⟩
def Rd(w:World)(B:Nat)(f:ByteArray)(e:Int)(sl:Value)(c u p:Int):Prop:=
 w.heap[B]? =some (.cells #[.string f,.int .i64 e,sl,.int .i64 c,.int .i64 u,.int .i64 p] 206 (0,0))
theorem yK{w:World}{B:Nat}{f:ByteArray}{e:Int}{sl:Value}{c u p:Int}(h:Rd w B f e sl c u p):
  w.cell? ⟨B,0,none⟩=some (.string f)∧w.cell? ⟨B,1,none⟩=some (.int .i64 e)∧w.cell? ⟨B,2,none⟩=some sl∧w.cell? ⟨B,3,none⟩=some (.int .i64 c)∧w.cell? ⟨B,4,none⟩=some (.int .i64 u)∧w.cell? ⟨B,5,none⟩=some (.int .i64 p):=by
 refine ⟨?_,?_,?_,?_,?_,?_⟩<;>simp [World.cell?,show w.heap[B]? =_ from h]
theorem yC{w:World}{B:Nat}{f:ByteArray}{e:Int}{sl:Value}{c u p:Int}(h:Rd w B f e sl c u p)(i:Nat):w.frozen? ⟨B,i,none⟩=false:=by
 simp [World.frozen?,show w.heap[B]? =_ from h]
theorem zlp{w:World}{B:Nat}{f:ByteArray}{e:Int}{sl:Value}{c u p:Int}(h:Rd w B f e sl c u p):B<w.heap.size:=(Array.getElem?_eq_some_iff.1 h).1
theorem ziA{w:World}{B:Nat}{f:ByteArray}{e:Int}{sl:Value}{c u p:Int}(h:Rd w B f e sl c u p)(f':ByteArray):Rd (w.setCell ⟨B,0,none⟩ (.string f')) B f' e sl c u p:=zM _ h
theorem ziB{w:World}{B:Nat}{f:ByteArray}{e:Int}{sl:Value}{c u p:Int}(h:Rd w B f e sl c u p)(e':Int):Rd (w.setCell ⟨B,1,none⟩ (.int .i64 e')) B f e' sl c u p:=zM _ h
theorem zlq{w:World}{B:Nat}{f:ByteArray}{e:Int}{sl:Value}{c u p:Int}(h:Rd w B f e sl c u p)(sl':Value):Rd (w.setCell ⟨B,2,none⟩ sl') B f e sl' c u p:=zM _ h
theorem zlr{w:World}{B:Nat}{f:ByteArray}{e:Int}{sl:Value}{c u p:Int}(h:Rd w B f e sl c u p)(c':Int):Rd (w.setCell ⟨B,3,none⟩ (.int .i64 c')) B f e sl c' u p:=zM _ h
theorem zls{w:World}{B:Nat}{f:ByteArray}{e:Int}{sl:Value}{c u p:Int}(h:Rd w B f e sl c u p)(u':Int):Rd (w.setCell ⟨B,4,none⟩ (.int .i64 u')) B f e sl c u' p:=zM _ h
theorem vP{w:World}{B:Nat}{f:ByteArray}{e:Int}{sl:Value}{c u p:Int}(h:Rd w B f e sl c u p)(p':Int):Rd (w.setCell ⟨B,5,none⟩ (.int .i64 p')) B f e sl c u p':=zM _ h
theorem yW{w w':World}{B:Nat}{f:ByteArray}{e:Int}{sl:Value}{c u p:Int}(h:Rd w B f e sl c u p)(hb:Below w.heap.size w w'):Rd w' B f e sl c u p:=(hb.block B (zlp h)).trans h
theorem zdT(B:Nat)(x:ByteArray)(sl:Value)(w:World)(hx:isF x=true)(h:Rd w B ⟨#[]⟩ 0 sl 0 (-1) 0):
  Calls Tryz.prog 193 #[.pointer (some ⟨B,0,none⟩),.string x] w fun r w'=>r= .returned (.bool true)∧w.grownBy w' (some B)∧
   ((x.toList==[111,110,99,101])=true→Rd w' B x 1 sl 0 (-1) 7)∧((x.toList==[111,110,99,101])=false→Rd w' B x 0 sl 0 (-1) 1):=by
 have c1:=fun w=>zap x w
 rw [hx] at c1
 have C1:Hid (_):=c1
 clear c1 hx
 obtain ⟨x0,x1,x2,x3,x4,x5⟩:=yK h
 have z0:=yC h 0
 have z1:=yC h 1
 have z5:=yC h 5
 cases ho:(x.toList==[111,110,99,101]) with
 |false=>
  go_enter Tryz.func193,Tryz.ntmps193
  go_wp2_with (go_at_call 91;refine (C1.out _).mono ?_;rintro r w' ⟨rfl,rfl⟩)
  go_ret
  exact ⟨rfl,zL (zG _ _ _) (zG _ ⟨B,5,none⟩ _),fun e=>absurd e (by decide),fun _=>vP (ziA h x) 1⟩
 |true=>
  go_enter Tryz.func193,Tryz.ntmps193
  go_wp2_with (go_at_call 91;refine (C1.out _).mono ?_;rintro r w' ⟨rfl,rfl⟩)
  go_ret
  exact ⟨rfl,zL (zL (zL (zG _ _ _) (zG _ ⟨B,5,none⟩ _)) (zG _ ⟨B,1,none⟩ _)) (zG _ ⟨B,5,none⟩ _),fun _=>vP (ziB (vP (ziA h x) 1) 1) 7,fun e=>absurd e (by decide)⟩
theorem zbA(w:World)(b:TypeId)(t:ByteArray):Below w.heap.size w (Lib.bytesWorld w b t):=by
 have h:=zB (zI w) (zC w.drew (.cells (Lib.bytesCells w b t) b))
 refine ⟨rfl,rfl,rfl,?_,fun k hk=> ?_⟩
 ·show w.heap.size≤((w.heap.push _).modify _ _).size
  simp
 ·show ((w.heap.push _).modify w.heap.size _)[k]? =w.heap[k]?
  rw [Array.getElem?_modify,if_neg (by omega),Array.getElem?_push_lt hk,Array.getElem?_eq_getElem hk]
theorem zeO(m:Int)(w:World)(h0:0≤m)(h1:m≤100000)(ht:Tab w):
  Calls Tryz.prog 216 #[.string (bs (Lib.itoa m)),.int .i64 9] w fun r w'=>r= .returned (.tuple #[.int .i64 m,.bool true])∧Below w.heap.size w w':=by
 have hl:=yw m h0 (by omega)
 have hsz:(bs (Lib.itoa m)).size≤6:=by rw [Lib.size_eq,zh];exact hl
 have ha:=Tryz.strconv_Atoi (bs (Lib.itoa m)) m (by omega) (by rw [zh];exact zag m h0) w
 have A:Hid (Calls Tryz.prog 166 #[.string (bs (Lib.itoa m))] w fun e w'=>e= .returned (.tuple #[.int .i64 m,.nilIface])∧Below w.heap.size w w'):=by
  refine ha.mono ?_
  rintro e w' ⟨rfl,t,rfl⟩
  exact ⟨rfl,zbA _ _ _⟩
 have I:Hid (∀ w,Tab w→Calls Tryz.prog 119 #[.int .i64 m] w fun e w'=>e= .returned (.string (bs (Lib.itoa m)))∧Below w.heap.size w w'):=fun w t=>js m w h0 h1 t
 generalize bs (Lib.itoa m)=sb at hsz A I
 have T:=hid ht
 have hsz':(sb.size:Int)≤6:=by omega
 clear ha ht hl
 go_enter Tryz.func216,Tryz.ntmps216
 go_wp2_with (first
  |(go_at_call 166;refine Calls.mono A.out ?_;rintro r w1 ⟨rfl,hb1⟩)
  |(go_at_call 119;refine (I.out _ (T.out.step hb1)).mono ?_;rintro r w2 ⟨rfl,hb2⟩))
 go_ret2
 exact ⟨rfl,zB hb1 hb2⟩
theorem jI(B:Nat)(m p0:Int)(i:Nat)(w:World)(f:ByteArray)(e:Int)(sl:Value)(c u p:Int)(h0:0≤m)(h1:m≤100000)(hi:i=1∨i=3)(ht:Tab w)(h:Rd w B f e sl c u p):
  Calls Tryz.prog 194 #[.pointer (some ⟨B,0,none⟩),.string (bs (Lib.itoa m)),.pointer (some ⟨B,i,none⟩),.int .i64 p0] w fun r w'=>r= .returned (.bool true)∧w.grownBy w' (some B)∧
   (i=1→Rd w' B f m sl c u p0)∧(i=3→Rd w' B f e sl m u p0):=by
 have C:=zeO m w h0 h1 ht
 generalize bs (Lib.itoa m)=sb at C
 have CC:=hid C
 have H:=hid h
 clear C h ht
 rcases hi with rfl|rfl
 ·go_enter Tryz.func194,Tryz.ntmps194
  go_wp2_with (go_at_call 216;refine Calls.mono CC.out ?_;rintro r w1 ⟨rfl,hb1⟩;obtain ⟨x0,x1,x2,x3,x4,x5⟩:=yK (yW H.out hb1);have z1:=yC (yW H.out hb1) 1;have z5:=yC (yW H.out hb1) 5)
  go_ret
  exact ⟨rfl,zL (zL (zO hb1 _) (zG _ ⟨B,1,none⟩ _)) (zG _ ⟨B,5,none⟩ _),fun _=>vP (ziB (yW H.out hb1) m) p0,fun e=>absurd e (by decide)⟩
 ·go_enter Tryz.func194,Tryz.ntmps194
  go_wp2_with (go_at_call 216;refine Calls.mono CC.out ?_;rintro r w1 ⟨rfl,hb1⟩;obtain ⟨x0,x1,x2,x3,x4,x5⟩:=yK (yW H.out hb1);have z3:=yC (yW H.out hb1) 3;have z5:=yC (yW H.out hb1) 5)
  go_ret
  exact ⟨rfl,zL (zL (zO hb1 _) (zG _ ⟨B,3,none⟩ _)) (zG _ ⟨B,5,none⟩ _),fun e=>absurd e (by decide),fun _=>vP (zlr (yW H.out hb1) m) p0⟩
set_option maxRecDepth 100000 in
theorem ziC(q:Addr)(w:World):
  Calls Tryz.prog 217 #[.nilIface,.iface 269 (.pointer (some q))] w fun r w'=>r= .returned (.bool false)∧w'=w:=by
 have hbin:(binOp BinOp.eql 41 .nilIface (.iface 269 (.pointer (some q)))).run Tryz.prog w= .ok (.bool false) w:=by kernel_rfl
 go_enter Tryz.func217,Tryz.ntmps217
 go_wp2
 go_ret
 exact ⟨rfl,rfl⟩
theorem zcT(B:Nat)(n y m d:Int)(w:World)(f:ByteArray)(e:Int)(sl:Value)(c u p:Int)(hv:vld y m d)(hn:num y m d=n)(g:GlobR w)(h:Rd w B f e sl c u p):
  Calls Tryz.prog 195 #[.pointer (some ⟨B,0,none⟩),.string (bs (txt y m d))] w fun r w'=>r= .returned (.bool true)∧w.grownBy w' (some B)∧Rd w' B f e sl c n 7:=by
 have hv':=hv
 obtain ⟨h1,h2,h3,h4,h5,h6⟩:=hv
 have h7:=(yy y m).2
 have hD:=zcM y m d (by omega) (by omega) (by omega) (by omega) (by omega) (by omega)
 have hN:=zad y m d (by omega) (by omega) (by omega) (by omega) (by omega) (by omega)
 have C:=zik (bs (txt y m d)) w hD (by unfold bs;rw [hN.1,hN.2.1,hN.2.2];exact hv')
 unfold bs at C
 rw [hN.1,hN.2.1,hN.2.2,hn] at C
 change Calls _ _ #[.string (bs (txt y m d))] _ _ at C
 generalize bs (txt y m d)=sb at C
 have CC:=hid C
 have H:=hid h
 obtain ⟨q,hq⟩:=g.text
 clear C h hD hN hv' h1 h2 h3 h4 h5 h6 h7 hn g
 go_enter Tryz.func195,Tryz.ntmps195
 go_wp2_with (first
  |(go_at_call 130;refine Calls.mono CC.out ?_;rintro r w1 ⟨rfl,hb1⟩;obtain ⟨x0,x1,x2,x3,x4,x5⟩:=yK (yW H.out hb1);have z4:=yC (yW H.out hb1) 4;have z5:=yC (yW H.out hb1) 5;have q1:=zD hq hb1)
  |(go_at_call 217;refine (ziC _ _).mono ?_;rintro r w' ⟨rfl,rfl⟩))
 go_ret
 exact ⟨rfl,zL (zL (zO hb1 _) (zG _ ⟨B,4,none⟩ _)) (zG _ ⟨B,5,none⟩ _),vP (zls (yW H.out hb1) n) 7⟩
theorem zgy(B:Nat)(p:Int)(w:World)(f:ByteArray)(e:Int)(sl:Value)(c u:Int)(hp:p=2∨p=3∨p=5∨p=7)(h:Rd w B f e sl c u p):
  Calls Tryz.prog 173 #[.pointer (some ⟨B,0,none⟩)] w fun r w'=>r= .returned (.bool true)∧w'=w:=by
 obtain ⟨x0,x1,x2,x3,x4,x5⟩:=yK h
 clear h
 rcases hp with rfl|rfl|rfl|rfl
 all_goals
  go_enter Tryz.func173,Tryz.ntmps173
  go_wp2
  go_ret
  exact ⟨rfl,rfl⟩
end Go.Proofs.YtpeafgddbbojaaaGreatDoor
