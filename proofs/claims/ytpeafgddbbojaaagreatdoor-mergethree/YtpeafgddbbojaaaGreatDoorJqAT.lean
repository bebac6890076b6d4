import Derived.Test.YtpeafgddbbojaaaGreatDoorJqAA
import Derived.Test.YtpeafgddbbojaaaGreatDoorJqAS
import Derived.Test.YtpeafgddbbojaaaGreatDoorJqAO
import Derived.Test.YtpeafgddbbojaaaGreatDoorJqAP
import Derived.Test.YtpeafgddbbojaaaGreatDoorJqAF
import Derived.Deep.RegionHeld3
import Derived.Deep.RegionWith
import Derived.Lib.QuietBelow
import Derived.Test.YtpeafgddbbojaaaGreatDoorJqAN
import Derived.Test.YtpeafgddbbojaaaGreatDoorJqAD
import Derived.Deep.DeepCutAuto
import Derived.Test.YtpeafgddbbojaaaGreatDoorJqAE
import Derived.Deep.CutBlock
namespace Go.Proofs.YtpeafgddbbojaaaGreatDoor
open Go Go.RowKit Go.Sort Cal
attribute [local go_sem] Oper.semAt_some
theorem jW(n:Int)(w:World)(h0:0≤n)(h1:n≤9999):
  Calls Tryz.prog 86 #[.int .i64 n] w fun e w'=>e= .returned (.string (bs (Lib.itoa n)))∧Below w.heap.size w w':=by
 obtain ⟨u,rfl⟩: ∃ u:Nat,n=u:=⟨n.toNat,by omega⟩
 rw [Lib.itoa_nonneg]
 exact vK u w (by omega)
theorem xe(n:Int)(w:World)(h0:0≤n)(h1:n≤73048):
  Calls Tryz.prog 85 #[.int .i64 n] w fun e w'=>e= .returned (.string (bs (dtx n)))∧Below w.heap.size w w':=by
 obtain ⟨y,m,d,hv,hn,e⟩:=jG h0 h1
 rw [e]
 exact zca n y m d w hv hn
def wkO:Obj:= .cells #[.string ⟨#[109,111]⟩,.string ⟨#[116,117]⟩,.string ⟨#[119,101]⟩,.string ⟨#[116,104]⟩,.string ⟨#[102,114]⟩,.string ⟨#[115,97]⟩,.string ⟨#[115,117]⟩] 9
theorem zlk(w:World)(i:Nat)(h:i<7):(w.alloc wkO).cell? ⟨w.heap.size,i,none⟩=some (.string (bs (nm i))):=by
 unfold wkO
 rw [World.cell?_alloc_new]
 match i,h with
 |0,_=>rfl
 |1,_=>rfl
 |2,_=>rfl
 |3,_=>rfl
 |4,_=>rfl
 |5,_=>rfl
 |6,_=>rfl
theorem xF(w:World):Calls Tryz.prog 140 #[] w fun r w'=> ∃ B:Nat,r= .returned (.slice (some ⟨B,0,none⟩) 7 7)∧Below w.heap.size w w'∧ ∀ i,i<7→w'.cell? ⟨B,i,none⟩=some (.string (bs (nm i))):=by
 have hA:=zC w wkO
 have hC:=zlk w
 have HC:Hid (Below w.heap.size w (w.alloc wkO)∧ ∀ i,i<7→(w.alloc wkO).cell? ⟨w.heap.size,i,none⟩=some (.string (bs (nm i)))):=⟨hA,hC⟩
 clear hA hC
 unfold wkO at HC
 go_enter Tryz.func140,Tryz.ntmps140
 go_wp2
 go_ret
 exact ⟨_,rfl,HC.out.1,HC.out.2⟩
theorem jX(w:World):Calls Tryz.prog 51 #[] w fun r w'=>r= .returned (.slice (some ⟨w.heap.size,0,none⟩) 6 6)∧w'=w.alloc vD:=by
 unfold vD
 go_enter Tryz.func51,Tryz.ntmps51
 go_wp2
 go_ret
 exact ⟨rfl,rfl⟩
theorem yR(a b:List UInt8):bs a++bs b=bs (a++b):=by
 unfold bs
 exact ByteArray.mk_append_mk _ _
theorem yv(a:List UInt8):(bs a).size=a.length:=by
 show a.toArray.size=_
 simp
set_option maxHeartbeats 2000000 in
set_option maxRecDepth 100000 in
theorem zcP(f:ByteArray)(e:Int)(sl:Value)(c u:Int)(ds:List Int)(t:List UInt8)(w:World)(hg:Got w sl ds)(h20:ds.length≤20)(hw:Well (rd f e ds c u))(ht:UT (rd f e ds c u) t)
  (hne:(f.toList==[111,110,99,101])=false):
  Calls Tryz.prog 87 #[rv f e sl c u] w fun r w'=>r= .returned (.string (bs (yV (rd f e ds c u) t)))∧Below w.heap.size w w':=by
 have HF:Hid (bs (yV (rd f e ds c u) t)=bs (f.data.toList++32::Lib.itoa e++dP ds ds.length++cP c++uP u t)):=by
  show _=_
  rw [zgs _ _ (by rw [beq_eq_false_iff_ne] at hne;exact hne)]
  have e1:(rd f e ds c u).freq=f.data.toList:=ByteArray.toList_eq ..
  rw [e1]
  rfl
 obtain ⟨ra,rc,rfl⟩:=zx hg
 have he:=hw.ev
 have hco:=hw.co
 have hun:=hw.un
 obtain ⟨he0,he1⟩:1≤e∧e≤100:=he
 obtain ⟨hc0,hc1⟩:0≤c∧c≤1000:=hco
 obtain ⟨hu0,hu1⟩: -1≤u∧u≤73048:=hun
 have hcu:c=0∨u= -1:=hw.cu
 have hf7:f.size≤7:=by
  have h1:f.toList.length≤7:=by
   have h:=hw.fr
   have e1:(rd f e ds c u).freq=f.toList:=rfl
   rw [e1] at h
   rcases h with h|h|h|h|h<;>rw [h]<;>decide
  rw [ByteArray.toList_eq,Array.length_toList] at h1
  exact h1
 have ZS:=hid (zkw hg)
 have HD:Hid (∀ j,j<ds.length→0≤zS ds j∧zS ds j≤6):=fun j hj=>by
  have e1:zS ds j=ds[j]:=zbe hj
  have:=hw.ds ds[j] (List.getElem_mem hj)
  exact ⟨by rw [e1];exact this.1,by rw [e1];exact this.2⟩
 have DE:Hid (∀ W,Calls Tryz.prog 86 #[.int .i64 e] W fun r w'=>r= .returned (.string (bs (Lib.itoa e)))∧Below W.heap.size W w'):=fun W=>jW e W (by omega) (by omega)
 have DC:Hid (∀ W,Calls Tryz.prog 86 #[.int .i64 c] W fun r w'=>r= .returned (.string (bs (Lib.itoa c)))∧Below W.heap.size W w'):=fun W=>jW c W (by omega) (by omega)
 have DU:Hid (0≤u→ ∀ W,Calls Tryz.prog 85 #[.int .i64 u] W fun r w'=>r= .returned (.string (bs t))∧Below W.heap.size W w'):=fun h0 W=>by
  rcases ht with ⟨e1,_⟩|⟨_,y,m,d,hv,hn,rfl⟩
  ·have e2:u= -1:=e1
   omega
  ·exact zca u y m d W hv hn
 have htl:(bs t).size≤10:=by rw [yv];exact zka ht
 have hel:(bs (Lib.itoa e)).size≤6:=by rw [yv];exact yw e (by omega) (by omega)
 have hcl:(bs (Lib.itoa c)).size≤6:=by rw [yv];exact yw c (by omega) (by omega)
 have HB0:Hid (∀ j,bs (f.data.toList++32::Lib.itoa e++dP ds j)=f++⟨#[32]⟩++bs (Lib.itoa e)++bs (dP ds j)):=fun j=>by
  show _=bs f.data.toList++bs [32]++bs _++bs _
  rw [yR,yR,yR]
  simp
 have HCP:Hid (cP c=if c=0 then [] else 32::(xf++32::Lib.itoa c)):=rfl
 have HUP:Hid (uP u t=if u= -1 then [] else 32::(vh++32::t)):=rfl
 have HDL:Hid (∀ j,(bs (dP ds j)).size≤100):=fun j=>by rw [yv];exact zmA ds j h20
 have HD1:Hid (∀ (j:Nat) (h:j<ds.length),dP ds (j+1)=dP ds j++(if j=0 then [32] else [44])++nm (zS ds j)):=fun j h=>by
  rw [zbe h]
  cases j with
  |zero=>rw [zmz ds h,if_pos rfl];rfl
  |succ j=>rw [zlh ds (j+1) (by omega) h,if_neg (by omega)];simp
 have hA:=zC w (.cells #[.string f,.int .i64 e,.slice ra ds.length rc,.int .i64 c,.int .i64 u] 45)
 have k0:(w.alloc (.cells #[.string f,.int .i64 e,.slice ra ds.length rc,.int .i64 c,.int .i64 u] 45)).heap[w.heap.size]? =some (.cells #[.string f,.int .i64 e,.slice ra ds.length rc,.int .i64 c,.int .i64 u] 45 (0,0)):=zJ _ rfl
 have HA:Hid (_):=hA
 clear hg hw ht hA
 unfold rv
 generalize hw0:w.alloc (.cells #[.string f,.int .i64 e,.slice ra ds.length rc,.int .i64 c,.int .i64 u] 45)=w0 at HA k0
 have BX:Hid (∀ W,Below w0.heap.size w0 W→W.heap[w.heap.size]? =some (.cells #[.string f,.int .i64 e,.slice ra ds.length rc,.int .i64 c,.int .i64 u] 45 (0,0))):=fun W h=>(h.block _ (Array.getElem?_eq_some_iff.1 k0).1).trans k0
 obtain ⟨x0,x1,x2,x3,x4⟩:=zbE k0
 clear k0
 generalize hL:ds.length=L at ZS HD HD1 h20 x2 BX HF hw0 ⊢
 generalize bs (yV (rd f e ds c u) t)=fin at HF ⊢
 clear hL
 have X0:=cell_regrown x0
 have X1:=cell_regrown x1
 have T1:Hid (∀ d os,Calls Tryz.prog 86 #[.int .i64 e] (grow (redrawn w0 d) os) fun r w''=>r= .returned (.string (bs (Lib.itoa e)))∧ ∃ p:Regrown,w''=grow (redrawn w0 p.d) p.os):=fun d os=>Calls.regrown_of (DE.out _)
 generalize hEB:bs (Lib.itoa e)=eb at T1 hel HB0
 have q1: ¬ 9223372036854775807<f.size+1:=by omega
 have q2: ¬ 9223372036854775807<f.size+1+eb.size:=by omega
 go_enter Tryz.func87,Tryz.ntmps87
 go_upto_region 3 with (fail)
 refine wp_region_quiet_below (by kernel_rfl) (by kernel_rfl) ?_
 repeat (quiet_step ((go_at_call 86;exact T1.out _ _)))
 refine wpQuiet_nil ?_
 intro w2 hw'
 have hb2:Below w0.heap.size w0 w2:=by
  obtain ⟨⟨dq,osq⟩,hw''⟩:=hw'
  subst hw''
  exact below_regrown _ _ _
 clear hw' X0 X1 x0 x1 x2 x3 x4 T1
 go_wp2
 go_loopw [3,4] (fun o i wr=> ∃ (m:Nat) (os:ByteArray),m≤L∧i= .int .i64 m∧o= .string os∧os.size≤150∧Hid (os=f++⟨#[32]⟩++eb++bs (dP ds m))∧Hid (Below w2.heap.size w2 wr)) (fun _ i _=>L - (intOf i).toNat)
 case atStart=>
  refine ⟨0,_,Nat.zero_le _,rfl,rfl,?_,?_,Below.refl _ _⟩
  ·simp only [ByteArray.size_append]
   show f.size+1+eb.size≤150
   omega
  ·show _=_++bs []
   show _=_++ByteArray.empty
   rw [ByteArray.append_empty]
 case round=>
  obtain ⟨m,os,hm,rfl,rfl,hos,HO,HBr⟩:=hrel
  obtain ⟨x0,x1,x2,x3,x4⟩:=zbE (BX.out wr (zB hb2 HBr.out))
  by_cases hlt:m<L
  ·obtain ⟨ad,rfl,hc⟩:=ZS.out m hlt
   have c1:=hc wr (zB HA.out (zB hb2 HBr.out))
   have J1:=hid (HD1.out m hlt)
   obtain ⟨hd0,hd6⟩:=HD.out m hlt
   have JL1:=HDL.out (m+1)
   obtain ⟨k,hk⟩: ∃ k:Nat,zS ds m=k:=⟨(zS ds m).toNat,by omega⟩
   rw [hk] at c1 J1
   have hk7:k<7:=by omega
   have hk7':(k:Int)<7:=by omega
   have hl0:(m:Int)<L:=by omega
   have hnl:(bs (nm k)).size=2:=by rw [yv];exact nm_len _
   clear hc hd0 hd6 hk
   cases m with
   |zero=>
    have hc0:wr.cell? ad=some (.int .i64 k):=c1
    have hl1:0<L:=by omega
    have q3: ¬ 9223372036854775807<os.size+1:=by omega
    have q4: ¬ 9223372036854775807<os.size+1+(bs (nm k)).size:=by omega
    go_upto_region 10 with (fail)
    go_region_with (go_at_call 140;refine Calls.mono (xF _) ?_;rintro r w20 ⟨B,rfl,hb20,hc20⟩;have zc:=hc20 k hk7;have hw20:Below wr.heap.size wr w20:=zB (zI _) hb20;have y2:=zD x2 hw20;have y0:=zj hc0 hw20)
    all_goals
     go_wp2
     go_roundw
     case rel=>
      have hj:f++⟨#[32]⟩++eb++bs (dP ds (0+1))=os++⟨#[32]⟩++bs (nm k):=by
       rw [J1.out,if_pos True.intro,HO.out]
       show _=_++bs [32]++_
       rw [←yR,←yR,ByteArray.append_assoc,ByteArray.append_assoc,ByteArray.append_assoc]
       simp only [ByteArray.append_assoc]
      refine ⟨0+1,_,by omega,by go_num,rfl,?_,hj.symm,zB HBr.out hw20⟩
      rw [←hj]
      simp only [ByteArray.size_append]
      show f.size+1+eb.size+_≤150
      omega
     case measure=>simp [intOf];omega
   |succ m=>
    have hc0:wr.cell? ⟨ad.block,ad.off+(m+1),none⟩=some (.int .i64 k):=c1
    have hl1:(m:Int)+1<L:=by omega
    have hl2:m+1<L:=by omega
    have hq0:0≤(m:Int)+1:=by omega
    have hq1:((m:Int)+1).toNat=m+1:=by omega
    have hq2:((m:Int)+1==0)=false:=by rw [beq_eq_false_iff_ne];omega
    have q3: ¬ 9223372036854775807<os.size+1:=by omega
    have q4: ¬ 9223372036854775807<os.size+1+(bs (nm k)).size:=by omega
    go_upto_region 10 with (fail)
    go_region_with (go_at_call 140;refine Calls.mono (xF _) ?_;rintro r w20 ⟨B,rfl,hb20,hc20⟩;have zc:=hc20 k hk7;have hw20:Below wr.heap.size wr w20:=zB (zI _) hb20;have y2:=zD x2 hw20;have y0:=zj hc0 hw20)
    all_goals
     go_wp2
     go_roundw
     case rel=>
      have hj:f++⟨#[32]⟩++eb++bs (dP ds (m+1+1))=os++⟨#[44]⟩++bs (nm k):=by
       rw [J1.out,if_neg (Nat.succ_ne_zero m),HO.out]
       show _=_++bs [44]++_
       rw [←yR,←yR,ByteArray.append_assoc,ByteArray.append_assoc,ByteArray.append_assoc]
       simp only [ByteArray.append_assoc]
      refine ⟨m+1+1,_,by omega,by go_num,rfl,?_,hj.symm,zB HBr.out hw20⟩
      rw [←hj]
      simp only [ByteArray.size_append]
      show f.size+1+eb.size+_≤150
      omega
     case measure=>simp [intOf];omega
  ·have hml:m=L:=by omega
   have HO2:Hid (os=bs (f.data.toList++32::Lib.itoa e++dP ds L)):=by
    show _=_
    rw [HB0.out,HO.out,hml]
   have hz2:Below w.heap.size w wr:=zB HA.out (zB hb2 HBr.out)
   have hf1:Hid (fin=os++bs (cP c)++bs (uP u t)):=by
    show _=_
    rw [HF.out,HO2.out,yR,yR]
   clear HO HB0 ZS HD HD1 HO2 HF BX hm hlt
   by_cases hcz:c=0
   ·have hcn: ¬ 0<c:=by omega
    have e1:bs (cP c)=⟨#[]⟩:=by unfold cP;rw [if_pos hcz];rfl
    by_cases huz:u= -1
    ·have hun: ¬ 0≤u:=by omega
     have HE:Hid (fin=os):=by
      show _=_
      rw [hf1.out,e1]
      unfold uP
      rw [if_pos huz]
      show os++ByteArray.empty++ByteArray.empty=_
      rw [ByteArray.append_empty,ByteArray.append_empty]
     clear hf1 e1 huz hcz
     go_wp2
     go_ret
     exact ⟨yi HE.out.symm,hz2⟩
    ·have hun:0≤u:=by omega
     have D1:=hid (DU.out hun)
     have HE:Hid (fin=os++⟨#[32,117,110,116,105,108,32]⟩++bs t):=by
      show _=_
      rw [hf1.out,e1]
      unfold uP
      rw [if_neg huz]
      show os++ByteArray.empty++_=_++bs [32,117,110,116,105,108,32]++_
      rw [ByteArray.append_empty,ByteArray.append_assoc,yR]
      rfl
     clear hf1 e1 huz hcz DU
     generalize bs t=bt at D1 HE htl
     have q3: ¬ 9223372036854775807<os.size+7:=by omega
     have q4: ¬ 9223372036854775807<os.size+7+bt.size:=by omega
     go_wp2_with (go_at_call 85;refine Calls.mono (D1.out _) ?_;rintro r w3 ⟨rfl,hb3⟩)
     go_ret
     exact ⟨yi HE.out.symm,zB hz2 hb3⟩
   ·have hcn:0<c:=by omega
    have huz:u= -1:=by rcases hcu with h|h<;>omega
    have hun: ¬ 0≤u:=by omega
    have HE:Hid (fin=os++⟨#[32,99,111,117,110,116,32]⟩++bs (Lib.itoa c)):=by
     show _=_
     rw [hf1.out]
     unfold uP cP
     rw [if_neg hcz,if_pos huz]
     show _++ByteArray.empty=_++bs [32,99,111,117,110,116,32]++_
     rw [ByteArray.append_empty,ByteArray.append_assoc,yR]
     rfl
    clear hf1 huz hcz DU
    generalize bs (Lib.itoa c)=bt at DC HE hcl
    have q3: ¬ 9223372036854775807<os.size+7:=by omega
    have q4: ¬ 9223372036854775807<os.size+7+bt.size:=by omega
    go_wp2_with (go_at_call 86;refine Calls.mono (DC.out _) ?_;rintro r w3 ⟨rfl,hb3⟩;have y4:=zD x4 hb3)
    go_ret
    exact ⟨yi HE.out.symm,zB hz2 hb3⟩
theorem zcQ(f:ByteArray)(e:Int)(sl:Value)(c u:Int)(ds:List Int)(t:List UInt8)(w:World)(hg:Got w sl ds)
  (hne:(f.toList==[111,110,99,101])=true):
  Calls Tryz.prog 87 #[rv f e sl c u] w fun r w'=>r= .returned (.string (bs (yV (rd f e ds c u) t)))∧Below w.heap.size w w':=by
 obtain ⟨ra,rc,rfl⟩:=zx hg
 have HR:Hid (bs (yV (rd f e ds c u) t)=⟨#[111,110,99,101]⟩):=by
  unfold yV yh
  rw [if_pos (show (rd f e ds c u).freq=xO by rw [beq_iff_eq] at hne;exact hne),Lib.join_one]
  exact rfl
 rw [HR.out]
 clear hg HR
 unfold rv
 go_enter Tryz.func87,Tryz.ntmps87
 go_wp2
 go_ret
 exact ⟨rfl,zC _ _⟩
theorem zdK(f:ByteArray)(e:Int)(sl:Value)(c u:Int)(ds:List Int)(t:List UInt8)(w:World)(hg:Got w sl ds)(h20:ds.length≤20)(hw:Well (rd f e ds c u))(ht:UT (rd f e ds c u) t):
  Calls Tryz.prog 87 #[rv f e sl c u] w fun r w'=>r= .returned (.string (bs (yV (rd f e ds c u) t)))∧Below w.heap.size w w':=by
 cases hne:(f.toList==[111,110,99,101]) with
 |true=>exact zcQ f e sl c u ds t w hg hne
 |false=>exact zcP f e sl c u ds t w hg h20 hw ht hne
theorem fo_title(E:EV)(ra:Option Addr)(rn rc:Nat)(sa:Option Addr)(sn sc:Nat)(ma:Option Addr)(mn mc:Nat)(w:World):
  Calls Tryz.prog 53 #[ev E (.slice ra rn rc) (.slice sa sn sc) (.slice ma mn mc),.string (zt 0)] w fun r w'=>r= .returned (.string E.ti)∧Below w.heap.size w w':=by
 obtain ⟨idn,ti,st,lg,f,e,ds,c,u,sk,mv⟩:=E
 unfold ev zt
 dsimp only
 go_enter Tryz.func53,Tryz.ntmps53
 go_wp2
 go_ret
 exact ⟨rfl,zC _ _⟩
theorem fo_start(E:EV)(ra:Option Addr)(rn rc:Nat)(sa:Option Addr)(sn sc:Nat)(ma:Option Addr)(mn mc:Nat)(b:ByteArray)(w:World)
  (h: ∀ W,Below w.heap.size w W→Calls Tryz.prog 85 #[.int .i64 E.st] W fun r w'=>r= .returned (.string b)∧Below W.heap.size W w'):
  Calls Tryz.prog 53 #[ev E (.slice ra rn rc) (.slice sa sn sc) (.slice ma mn mc),.string (zt 1)] w fun r w'=>r= .returned (.string b)∧Below w.heap.size w w':=by
 obtain ⟨idn,ti,st,lg,f,e,ds,c,u,sk,mv⟩:=E
 unfold ev zt
 dsimp only at h ⊢
 have H:Hid (_):=h _ (zC w (.cells (eW idn ti st lg f e ra rn rc c u sa sn sc ma mn mc) 48))
 clear h
 go_enter Tryz.func53,Tryz.ntmps53
 go_wp2_with (go_at_call 85;refine Calls.mono H.out ?_;rintro r w1 ⟨rfl,hb1⟩)
 go_ret
 exact ⟨rfl,zB (zC _ _) hb1⟩
theorem fo_long(E:EV)(ra:Option Addr)(rn rc:Nat)(sa:Option Addr)(sn sc:Nat)(ma:Option Addr)(mn mc:Nat)(b:ByteArray)(w:World)
  (h: ∀ W,Below w.heap.size w W→Calls Tryz.prog 86 #[.int .i64 E.lg] W fun r w'=>r= .returned (.string b)∧Below W.heap.size W w'):
  Calls Tryz.prog 53 #[ev E (.slice ra rn rc) (.slice sa sn sc) (.slice ma mn mc),.string (zt 2)] w fun r w'=>r= .returned (.string b)∧Below w.heap.size w w':=by
 obtain ⟨idn,ti,st,lg,f,e,ds,c,u,sk,mv⟩:=E
 unfold ev zt
 dsimp only at h ⊢
 have H:Hid (_):=h _ (zC w (.cells (eW idn ti st lg f e ra rn rc c u sa sn sc ma mn mc) 48))
 clear h
 go_enter Tryz.func53,Tryz.ntmps53
 go_wp2_with (go_at_call 86;refine Calls.mono H.out ?_;rintro r w1 ⟨rfl,hb1⟩)
 go_ret
 exact ⟨rfl,zB (zC _ _) hb1⟩
theorem fo_rule(E:EV)(ra:Option Addr)(rn rc:Nat)(sa:Option Addr)(sn sc:Nat)(ma:Option Addr)(mn mc:Nat)(b:ByteArray)(w:World)
  (h0: ∀ W,Below w.heap.size w W→Calls Tryz.prog 70 #[.agg #[.string E.f,.int .i64 E.e,.slice ra rn rc,.int .i64 E.c,.int .i64 E.u]] W fun r w'=>r= .returned (.int .i64 0)∧Below W.heap.size W w')
  (h: ∀ W,Below w.heap.size w W→Calls Tryz.prog 87 #[.agg #[.string E.f,.int .i64 E.e,.slice ra rn rc,.int .i64 E.c,.int .i64 E.u]] W fun r w'=>r= .returned (.string b)∧Below W.heap.size W w'):
  Calls Tryz.prog 53 #[ev E (.slice ra rn rc) (.slice sa sn sc) (.slice ma mn mc),.string (zt 3)] w fun r w'=>r= .returned (.string b)∧Below w.heap.size w w':=by
 obtain ⟨idn,ti,st,lg,f,e,ds,c,u,sk,mv⟩:=E
 unfold ev zt
 dsimp only at h h0 ⊢
 have hA:=zC w (.cells (eW idn ti st lg f e ra rn rc c u sa sn sc ma mn mc) 48)
 have kE:(w.alloc (.cells (eW idn ti st lg f e ra rn rc c u sa sn sc ma mn mc) 48)).heap[w.heap.size]? =some (.cells (eW idn ti st lg f e ra rn rc c u sa sn sc ma mn mc) 48 (0,0)):=zJ _ rfl
 have H0:Hid (_):=h0 _ hA
 have H1:=hid h
 have HA:Hid (_):=hA
 clear h h0 hA
 generalize hw0:w.alloc (.cells (eW idn ti st lg f e ra rn rc c u sa sn sc ma mn mc) 48)=w0 at H0 HA kE
 obtain ⟨x0,x1,x2,x3,x4,x5,x6,x7,x8,x9,x10⟩:=zK kE
 have BX:Hid (∀ W,Below w0.heap.size w0 W→_):=fun W h=>zK ((h.block _ (Array.getElem?_eq_some_iff.1 kE).1).trans kE)
 clear kE
 go_enter Tryz.func53,Tryz.ntmps53
 go_wp2_with (first
  |(go_at_call 87;refine Calls.mono H2.out ?_;rintro r w2 ⟨rfl,hb2⟩)
  |(go_at_call 70;refine Calls.mono H0.out ?_;rintro r w1 ⟨rfl,hb1⟩;have H2:=hid (H1.out w1 (zB HA.out hb1));clear x0 x1 x2 x3 x4 x5 x6 x7 x8 x9 x10;obtain ⟨x0,x1,x2,x3,x4,x5,x6,x7,x8,x9,x10⟩:=BX.out _ hb1))
 go_ret
 exact ⟨rfl,zB HA.out (zB hb1 hb2)⟩
set_option maxHeartbeats 2000000 in
set_option maxRecDepth 100000 in
theorem fo_skips(E:EV)(sl skv mvv:Value)(w:World)(hd:Got w sl E.ds)(hs:Got w skv E.sk)(hm:GotM w mvv E.mv)(hw:EW E):
  Calls Tryz.prog 53 #[ev E sl skv mvv,.string (zt 4)] w fun r w'=>r= .returned (.string (bs (fT E 4)))∧Below w.heap.size w w':=by
 obtain ⟨k20,m20,_,_,kd,md,_⟩:=yX hw.ls
 obtain ⟨ra,rc,rfl⟩:=zx hd
 obtain ⟨sa,sc,rfl⟩:=zx hs
 obtain ⟨ma,mc,rfl⟩:=zo hm
 have ZS:=hid (zkw hs)
 have DT:Hid (∀ j,j<E.sk.length→ ∀ W,Calls Tryz.prog 85 #[.int .i64 (zS E.sk j)] W fun r w'=>r= .returned (.string (bs (dtx (zS E.sk j))))∧Below W.heap.size W w'):=fun j hj W=>by
  have:=kd _ (List.getElem_mem hj)
  rw [zbe hj]
  exact xe _ W this.1 this.2
 have JT:Hid (∀ j,j<E.sk.length→bs (yO (E.sk.map dtx) (j+1))=(if j=0 then bs (yO (E.sk.map dtx) j) else bs (yO (E.sk.map dtx) j)++⟨#[44]⟩)++bs (dtx (zS E.sk j))):=fun j hj=>by
  rw [zbe hj]
  cases j with
  |zero=>rw [if_pos rfl,yR,zax _ (by simpa using hj),List.getElem_map];rfl
  |succ j=>
   rw [if_neg (by omega),jV _ (j+1) (by omega) (by simpa using hj),List.getElem_map]
   show _=bs _++bs [44]++bs _
   rw [yR,yR]
   simp
 have JL:Hid (∀ j,(bs (yO (E.sk.map dtx) j)).size≤10000):=fun j=>by
  rw [yv]
  have:=zaz (E.sk.map dtx) j 10 (fun x hx=>by obtain ⟨d,_,rfl⟩:=List.mem_map.1 hx;exact yP d)
  rw [List.length_map] at this
  omega
 have JA:Hid (∀ j,E.sk.length≤j→yO (E.sk.map dtx) j=fT E 4):=fun j hj=>zay _ _ (by simpa using hj)
 have DL:Hid (∀ x,(bs (dtx x)).size≤10):=fun x=>by rw [yv];exact yP x
 have hA:=zC w (.cells (eW E.id E.ti E.st E.lg E.f E.e ra E.ds.length rc E.c E.u sa E.sk.length sc ma E.mv.length mc) 48)
 have hB:=EB.new w E (.slice ra E.ds.length rc) (.slice sa E.sk.length sc) (.slice ma E.mv.length mc)
 unfold EB at hB
 unfold ev zt
 have HA:Hid (_):=hA
 clear hA hd hs hm hw kd md
 generalize hw0:w.alloc (.cells (eW E.id E.ti E.st E.lg E.f E.e ra E.ds.length rc E.c E.u sa E.sk.length sc ma E.mv.length mc) 48)=w0 at HA hB
 generalize hL:E.sk.length=L at ZS DT JT JA hB k20 hw0 ⊢
 have BX:Hid (∀ W,Below w0.heap.size w0 W→_):=fun W h=>zK ((h.block _ (Array.getElem?_eq_some_iff.1 hB).1).trans hB)
 obtain ⟨x0,x1,x2,x3,x4,x5,x6,x7,x8,x9,x10⟩:=zK hB
 clear hB hL
 generalize fT E 4=fin at JA ⊢
 go_enter Tryz.func53,Tryz.ntmps53
 go_wp2
 go_loopw [5,6] (fun o i wr=> ∃ (m:Nat) (os:ByteArray),m≤L∧i= .int .i64 m∧o= .string os∧os.size≤10000∧Hid (os=bs (yO (E.sk.map dtx) m))∧Hid (Below w0.heap.size w0 wr)) (fun _ i _=>L - (intOf i).toNat)
 case atStart=>exact ⟨0,⟨#[]⟩,Nat.zero_le _,rfl,rfl,by show (0:Nat)≤_;omega,rfl,Below.refl _ _⟩
 case round=>
  obtain ⟨m,os,hm,rfl,rfl,hos,HO,HBr⟩:=hrel
  clear x0 x1 x2 x3 x4 x5 x6 x7 x8 x9 x10
  obtain ⟨x0,x1,x2,x3,x4,x5,x6,x7,x8,x9,x10⟩:=BX.out wr HBr.out
  by_cases hlt:m<L
  ·obtain ⟨ad,rfl,hc⟩:=ZS.out m hlt
   have c1:=hc wr (zB HA.out HBr.out)
   have D1:=hid (DT.out m hlt)
   have J1:Hid (_):=JT.out m hlt
   have JL1:=JL.out (m+1)
   have dl:=DL.out (zS E.sk m)
   generalize zS E.sk m=x at c1 D1 J1 dl
   generalize bs (dtx x)=bx at D1 J1 dl
   have hl0:(m:Int)<L:=by omega
   clear hc
   cases m with
   |zero=>
    have hc0:wr.cell? ad=some (.int .i64 x):=c1
    have hl1:0<L:=by omega
    have q1: ¬ 9223372036854775807<os.size+bx.size:=by omega
    go_wp2_with (go_at_call 85;refine Calls.mono (D1.out _) ?_;rintro r w2 ⟨rfl,hb2⟩)
    go_roundw
    case rel=>
     have hj:bs (yO (E.sk.map dtx) (0+1))=os++bx:=by
      rw [J1.out,if_pos True.intro,←HO.out]
     refine ⟨0+1,_,by omega,by go_num,rfl,?_,hj.symm,zB HBr.out hb2⟩
     rw [←hj];exact JL1
    case measure=>simp [intOf];omega
   |succ m=>
    have hc0:wr.cell? ⟨ad.block,ad.off+(m+1),none⟩=some (.int .i64 x):=c1
    have hl1:(m:Int)+1<L:=by omega
    have hl2:m+1<L:=by omega
    have hq0:0≤(m:Int)+1:=by omega
    have hq1:((m:Int)+1).toNat=m+1:=by omega
    have q0: ¬ 9223372036854775807<os.size+1:=by omega
    have q1: ¬ 9223372036854775807<os.size+1+bx.size:=by omega
    have hpos:(0:Int)<(m:Int)+1:=by omega
    go_wp2_with (go_at_call 85;refine Calls.mono (D1.out _) ?_;rintro r w2 ⟨rfl,hb2⟩)
    go_roundw
    case rel=>
     have hj:bs (yO (E.sk.map dtx) (m+1+1))=os++⟨#[44]⟩++bx:=by
      rw [J1.out,if_neg (by omega),←HO.out]
     refine ⟨m+1+1,_,by omega,by go_num,rfl,?_,hj.symm,zB HBr.out hb2⟩
     rw [←hj];exact JL1
    case measure=>simp [intOf];omega
  ·have hml:L≤m:=by omega
   have J2:Hid (os=bs fin):=by
    show _=_
    rw [HO.out,JA.out m hml]
   clear HO
   go_wp2
   go_ret
   exact ⟨yi J2.out,zB HA.out HBr.out⟩
set_option maxHeartbeats 4000000 in
set_option maxRecDepth 100000 in
theorem fo_moves(E:EV)(sl skv mvv:Value)(w:World)(hd:Got w sl E.ds)(hs:Got w skv E.sk)(hm:GotM w mvv E.mv)(hw:EW E):
  Calls Tryz.prog 53 #[ev E sl skv mvv,.string (zt 5)] w fun r w'=>r= .returned (.string (bs (fT E 5)))∧Below w.heap.size w w':=by
 obtain ⟨k20,m20,_,_,kd,md,_⟩:=yX hw.ls
 obtain ⟨ra,rc,rfl⟩:=zx hd
 obtain ⟨sa,sc,rfl⟩:=zx hs
 obtain ⟨ma,mc,rfl⟩:=zo hm
 have ZM:=hid (zjS hm)
 have DT:Hid (∀ j,j<E.mv.length→(∀ W,Calls Tryz.prog 85 #[.int .i64 (pM' E.mv j)] W fun r w'=>r= .returned (.string (bs (dtx (pM' E.mv j))))∧Below W.heap.size W w')∧(∀ W,Calls Tryz.prog 85 #[.int .i64 (qM' E.mv j)] W fun r w'=>r= .returned (.string (bs (dtx (qM' E.mv j))))∧Below W.heap.size W w')):=fun j hj=>by
  have:=md _ (List.getElem_mem hj)
  rw [pM_at hj,zg9 hj]
  exact ⟨fun W=>xe _ W this.1.1 this.1.2,fun W=>xe _ W this.2.1 this.2.2⟩
 have JT:Hid (∀ j,j<E.mv.length→bs (yO (E.mv.map mtx) (j+1))=(if j=0 then bs (yO (E.mv.map mtx) j) else bs (yO (E.mv.map mtx) j)++⟨#[44]⟩)++bs (dtx (pM' E.mv j))++⟨#[62]⟩++bs (dtx (qM' E.mv j))):=fun j hj=>by
  rw [pM_at hj,zg9 hj]
  cases j with
  |zero=>
   rw [if_pos rfl,zax _ (by simpa using hj),List.getElem_map]
   show _=bs _++bs _++bs [62]++bs _
   rw [yR,yR,yR]
   unfold mtx
   rw [zeM]
   simp
  |succ j=>
   rw [if_neg (by omega),jV _ (j+1) (by omega) (by simpa using hj),List.getElem_map]
   show _=bs _++bs [44]++bs _++bs [62]++bs _
   rw [yR,yR,yR,yR]
   unfold mtx
   simp
 have JL:Hid (∀ j,(bs (yO (E.mv.map mtx) j)).size≤10000):=fun j=>by
  rw [yv]
  have:=zaz (E.mv.map mtx) j 21 (fun x hx=>by obtain ⟨d,_,rfl⟩:=List.mem_map.1 hx;exact jJ d)
  rw [List.length_map] at this
  omega
 have JA:Hid (∀ j,E.mv.length≤j→yO (E.mv.map mtx) j=fT E 5):=fun j hj=>zay _ _ (by simpa using hj)
 have DL:Hid (∀ x,(bs (dtx x)).size≤10):=fun x=>by rw [yv];exact yP x
 have hA:=zC w (.cells (eW E.id E.ti E.st E.lg E.f E.e ra E.ds.length rc E.c E.u sa E.sk.length sc ma E.mv.length mc) 48)
 have hB:=EB.new w E (.slice ra E.ds.length rc) (.slice sa E.sk.length sc) (.slice ma E.mv.length mc)
 unfold EB at hB
 unfold ev zt
 have HA:Hid (_):=hA
 clear hA hd hs hm hw kd md
 generalize hw0:w.alloc (.cells (eW E.id E.ti E.st E.lg E.f E.e ra E.ds.length rc E.c E.u sa E.sk.length sc ma E.mv.length mc) 48)=w0 at HA hB
 generalize hL:E.mv.length=L at ZM DT JT JA hB m20 hw0 ⊢
 have BX:Hid (∀ W,Below w0.heap.size w0 W→_):=fun W h=>zK ((h.block _ (Array.getElem?_eq_some_iff.1 hB).1).trans hB)
 obtain ⟨x0,x1,x2,x3,x4,x5,x6,x7,x8,x9,x10⟩:=zK hB
 clear hB hL
 generalize fT E 5=fin at JA ⊢
 go_enter Tryz.func53,Tryz.ntmps53
 go_wp2
 go_loopw [5,7] (fun o i wr=> ∃ (m:Nat) (os:ByteArray),m≤L∧i= .int .i64 m∧o= .string os∧os.size≤10000∧Hid (os=bs (yO (E.mv.map mtx) m))∧Hid (Below w0.heap.size w0 wr)) (fun _ i _=>L - (intOf i).toNat)
 case atStart=>exact ⟨0,⟨#[]⟩,Nat.zero_le _,rfl,rfl,by show (0:Nat)≤_;omega,rfl,Below.refl _ _⟩
 case round=>
  obtain ⟨m,os,hm,rfl,rfl,hos,HO,HBr⟩:=hrel
  clear x0 x1 x2 x3 x4 x5 x6 x7 x8 x9 x10
  obtain ⟨x0,x1,x2,x3,x4,x5,x6,x7,x8,x9,x10⟩:=BX.out wr HBr.out
  by_cases hlt:m<L
  ·obtain ⟨ad,rfl,hc⟩:=ZM.out m hlt
   obtain ⟨c1,c2⟩:=hc wr (zB HA.out HBr.out)
   have D1:Hid (_):=DT.out m hlt
   have J1:Hid (_):=JT.out m hlt
   have JL1:=JL.out (m+1)
   have dl1:=DL.out (pM' E.mv m)
   have dl2:=DL.out (qM' E.mv m)
   generalize pM' E.mv m=d1 at c1 D1 J1 dl1
   generalize qM' E.mv m=d2 at c2 D1 J1 dl2
   have T1:Hid (∀ d oo,Calls Tryz.prog 85 #[.int .i64 d1] (grow (redrawn wr d) oo) fun r w''=>r= .returned (.string (bs (dtx d1)))∧ ∃ p:Regrown,w''=grow (redrawn wr p.d) p.os):=fun d oo=>Calls.regrown_of (D1.out.1 _)
   have T2:Hid (∀ d oo,Calls Tryz.prog 85 #[.int .i64 d2] (grow (redrawn wr d) oo) fun r w''=>r= .returned (.string (bs (dtx d2)))∧ ∃ p:Regrown,w''=grow (redrawn wr p.d) p.os):=fun d oo=>Calls.regrown_of (D1.out.2 _)
   generalize bs (dtx d1)=b1 at T1 J1 dl1
   generalize bs (dtx d2)=b2 at T2 J1 dl2
   have hl0:(m:Int)<L:=by omega
   clear hc D1
   cases m with
   |zero=>
    have hc0:wr.cell? ad=some (.int .i64 d1):=c1
    have hc1:wr.cell? ⟨ad.block,ad.off+1,none⟩=some (.int .i64 d2):=c2
    have hl1:0<L:=by omega
    have X10:=cell_regrown x10
    have Xc0:=cell_regrown hc0
    have Xc1:=cell_regrown hc1
    have q1: ¬ 9223372036854775807<os.size+b1.size:=by omega
    have q2: ¬ 9223372036854775807<os.size+b1.size+1:=by omega
    have q3: ¬ 9223372036854775807<os.size+b1.size+1+b2.size:=by omega
    go_wp2_with (fail)
    refine wp_region_quiet_below (by kernel_rfl) (by kernel_rfl) ?_
    repeat (quiet_step (first|(go_at_call_of 85 (Value.int .i64 d1);exact T1.out _ _)|(go_at_call_of 85 (Value.int .i64 d2);exact T2.out _ _)))
    refine wpQuiet_nil ?_
    intro w2 hw'
    have hb2:Below wr.heap.size wr w2:=by
     obtain ⟨⟨dq,osq⟩,hw''⟩:=hw'
     subst hw''
     exact below_regrown _ _ _
    clear hw' X10 Xc0 Xc1
    go_wp2
    go_roundw
    case rel=>
     have hj:bs (yO (E.mv.map mtx) (0+1))=os++b1++⟨#[62]⟩++b2:=by
      rw [J1.out,if_pos True.intro,←HO.out]
     refine ⟨0+1,_,by omega,by go_num,rfl,?_,hj.symm,zB HBr.out hb2⟩
     rw [←hj];exact JL1
    case measure=>simp [intOf];omega
   |succ m=>
    have hc0:wr.cell? ⟨ad.block,ad.off+(m+1)*2,none⟩=some (.int .i64 d1):=c1
    have hc1:wr.cell? ((ad.add ((m+1)*2)).add 1)=some (.int .i64 d2):=by
     have e:(ad.add ((m+1)*2)).add 1=ad.add ((m+1)*2+1):=Deep.add_add _ _ _
     rw [e];exact c2
    have hc2:wr.cell? ⟨ad.block,ad.off+(m+1)*2+1,none⟩=some (.int .i64 d2):=hc1
    have hc3:wr.cell? ⟨(ad.add ((m+1)*2)).block,(ad.add ((m+1)*2)).off+1,none⟩=some (.int .i64 d2):=hc1
    have hl1:(m:Int)+1<L:=by omega
    have hl2:m+1<L:=by omega
    have hq0:0≤(m:Int)+1:=by omega
    have hq1:((m:Int)+1).toNat=m+1:=by omega
    have hpos:(0:Int)<(m:Int)+1:=by omega
    have X10:=cell_regrown x10
    have Xc0:=cell_regrown hc0
    have Xc4:=cell_regrown c1
    have Xc1:=cell_regrown hc1
    have Xc2:=cell_regrown hc2
    have Xc3:=cell_regrown hc3
    have q0: ¬ 9223372036854775807<os.size+1:=by omega
    have q1: ¬ 9223372036854775807<os.size+1+b1.size:=by omega
    have q2: ¬ 9223372036854775807<os.size+1+b1.size+1:=by omega
    have q3: ¬ 9223372036854775807<os.size+1+b1.size+1+b2.size:=by omega
    go_wp2_with (fail)
    refine wp_region_quiet_below (by kernel_rfl) (by kernel_rfl) ?_
    repeat (quiet_step (first|(go_at_call_of 85 (Value.int .i64 d1);exact T1.out _ _)|(go_at_call_of 85 (Value.int .i64 d2);exact T2.out _ _)))
    refine wpQuiet_nil ?_
    intro w2 hw'
    have hb2:Below wr.heap.size wr w2:=by
     obtain ⟨⟨dq,osq⟩,hw''⟩:=hw'
     subst hw''
     exact below_regrown _ _ _
    clear hw' X10 Xc0 Xc1 Xc2 Xc3 Xc4
    go_wp2
    go_roundw
    case rel=>
     have hj:bs (yO (E.mv.map mtx) (m+1+1))=os++⟨#[44]⟩++b1++⟨#[62]⟩++b2:=by
      rw [J1.out,if_neg (by omega),←HO.out]
     refine ⟨m+1+1,_,by omega,by go_num,rfl,?_,hj.symm,zB HBr.out hb2⟩
     rw [←hj];exact JL1
    case measure=>simp [intOf];omega
  ·have hml:L≤m:=by omega
   have J2:Hid (os=bs fin):=by
    show _=_
    rw [HO.out,JA.out m hml]
   clear HO
   go_wp2
   go_ret
   exact ⟨yi J2.out,zB HA.out HBr.out⟩
theorem vL(E:EV)(sl skv mvv:Value)(k:Nat)(hk:k<6)(w:World)(hd:Got w sl E.ds)(hs:Got w skv E.sk)(hm:GotM w mvv E.mv)(h20:E.ds.length≤20)(hw:EW E):
  Calls Tryz.prog 53 #[ev E sl skv mvv,.string (zt k)] w fun r w'=>r= .returned (.string (bs (fT E k)))∧Below w.heap.size w w':=by
 match k,hk with
 |4,_=>exact fo_skips E sl skv mvv w hd hs hm hw
 |5,_=>exact fo_moves E sl skv mvv w hd hs hm hw
 |0,_=>
  obtain ⟨ra,rc,rfl⟩:=zx hd
  obtain ⟨sa,sc,rfl⟩:=zx hs
  obtain ⟨ma,mc,rfl⟩:=zo hm
  exact fo_title E ra _ rc sa _ sc ma _ mc w
 |1,_=>
  obtain ⟨ra,rc,rfl⟩:=zx hd
  obtain ⟨sa,sc,rfl⟩:=zx hs
  obtain ⟨ma,mc,rfl⟩:=zo hm
  exact fo_start E ra _ rc sa _ sc ma _ mc _ w (fun W _=>xe E.st W hw.bd.1.1 hw.bd.1.2)
 |2,_=>
  obtain ⟨ra,rc,rfl⟩:=zx hd
  obtain ⟨sa,sc,rfl⟩:=zx hs
  obtain ⟨ma,mc,rfl⟩:=zo hm
  exact fo_long E ra _ rc sa _ sc ma _ mc _ w (fun W _=>jW E.lg W (by have:=hw.bd.2.1;omega) (by have:=hw.bd.2.2;omega))
 |3,_=>
  obtain ⟨ra,rc,rfl⟩:=zx hd
  obtain ⟨sa,sc,rfl⟩:=zx hs
  obtain ⟨ma,mc,rfl⟩:=zo hm
  obtain ⟨t,ht,e⟩:=jH hw.rl
  show Calls _ _ _ _ fun r w'=>r= .returned (.string (bs (ruT _)))∧_
  rw [e]
  have hk:zbX E.f E.e E.ds E.c E.u 0:=by
   obtain ⟨k,hk⟩:=jP E.f E.e E.ds E.c E.u
   have:=(jq hk).2 hw.rl
   subst this
   exact hk
  exact fo_rule E ra _ rc sa _ sc ma _ mc _ w (fun W hW=>yf E.f E.e _ E.c E.u E.ds 0 W (hd.step hW) h20 hk) (fun W hW=>zdK E.f E.e _ E.c E.u E.ds t W (hd.step hW) h20 hw.rl ht)
set_option maxHeartbeats 2000000 in
set_option maxRecDepth 100000 in
theorem zae(E:EV)(sl skv mvv:Value)(w:World)(hd:Got w sl E.ds)(hs:Got w skv E.sk)(hm:GotM w mvv E.mv)(h20:E.ds.length≤20)(hw:EW E):
  Calls Tryz.prog 49 #[ev E sl skv mvv] w fun r w'=>r= .returned (.string (bs (eT E)))∧Below w.heap.size w w':=by
 obtain ⟨i12,t40,k20,m20⟩:E.id.size≤12∧E.ti.size≤40∧E.sk.length≤20∧E.mv.length≤20:=⟨hw.id.2.2,hw.ti.2,(yX hw.ls).1,(yX hw.ls).2.1⟩
 have hk:zbX E.f E.e E.ds E.c E.u 0:=by
  obtain ⟨k,hk⟩:=jP E.f E.e E.ds E.c E.u
  have:=(jq hk).2 hw.rl
  subst this
  exact hk
 have hk0:EvK E 0:=by
  obtain ⟨k,hk⟩:=vV E
  have:=(jM hk).2 hw
  subst this
  exact hk
 have EE:Hid (∀ W,Below w.heap.size w W→Calls Tryz.prog 39 #[ev E sl skv mvv] W fun r w'=>r= .returned (.int .i64 0)∧Below W.heap.size W w'):=fun W hW=>yx E sl skv mvv 0 0 W (hd.step hW) (hs.step hW) (hm.step hW) (by omega) (by omega) (by omega) (by omega) hk hk0 (fun W' hG=>yf E.f E.e _ E.c E.u E.ds 0 W' hG h20 hk)
 have FO:Hid (∀ k,k<6→ ∀ W,Below w.heap.size w W→Calls Tryz.prog 53 #[ev E sl skv mvv,.string (zt k)] W fun r w'=>r= .returned (.string (bs (fT E k)))∧Below W.heap.size W w'):=fun k hk W hW=>vL E sl skv mvv k hk W (hd.step hW) (hs.step hW) (hm.step hW) h20 hw
 have FL:Hid (∀ k,(bs (fT E k)).size≤1000):=fun k=>by rw [yv];exact za9 hw h20 k
 have TL:Hid (∀ k,k≤6→(bs (eTo E k)).size≤10000):=fun k hk=>by rw [yv];exact zlj hw h20 k hk
 have T0:Hid (E.id=bs (eTo E 0)):=by
  show _=_
  rw [zfC]
  rfl
 have TS:Hid (∀ k,k<6→bs (eTo E (k+1))=bs (eTo E k)++⟨#[124]⟩++bs (fT E k)):=fun k hk=>by
  rw [zfD E k hk]
  show _=bs _++bs [124]++bs _
  rw [yR,yR]
  simp
 rw [←zli]
 obtain ⟨ra,rc,rfl⟩:=zx hd
 obtain ⟨sa,sc,rfl⟩:=zx hs
 obtain ⟨ma,mc,rfl⟩:=zo hm
 have hA:=zC w (.cells (eW E.id E.ti E.st E.lg E.f E.e ra E.ds.length rc E.c E.u sa E.sk.length sc ma E.mv.length mc) 48)
 have hB:=EB.new w E (.slice ra E.ds.length rc) (.slice sa E.sk.length sc) (.slice ma E.mv.length mc)
 unfold EB at hB
 unfold ev at EE FO ⊢
 have HA:Hid (_):=hA
 have EE1:Hid (Calls _ _ _ _ _):=EE.out _ hA
 clear hA hd hs hm hw hk hk0 EE
 generalize hw0:w.alloc (.cells (eW E.id E.ti E.st E.lg E.f E.e ra E.ds.length rc E.c E.u sa E.sk.length sc ma E.mv.length mc) 48)=w0 at HA hB EE1
 have BX:Hid (∀ W,Below w0.heap.size w0 W→_):=fun W h=>zK ((h.block _ (Array.getElem?_eq_some_iff.1 hB).1).trans hB)
 obtain ⟨x0,x1,x2,x3,x4,x5,x6,x7,x8,x9,x10⟩:=zK hB
 clear hB
 go_enter Tryz.func49,Tryz.ntmps49
 go_wp2_with (first
  |(go_at_call 51;refine (jX _).mono ?_;rintro r w' ⟨rfl,rfl⟩)
  |(go_at_call 39;refine Calls.mono EE1.out ?_;rintro r w1 ⟨rfl,hb1⟩;clear x0 x1 x2 x3 x4 x5 x6 x7 x8 x9 x10;obtain ⟨x0,x1,x2,x3,x4,x5,x6,x7,x8,x9,x10⟩:=BX.out _ hb1))
 have FC:Hid (∀ (i:Nat),i<6→(w1.alloc vD).cell? ⟨w1.heap.size,i,none⟩=some (.string (zt i))):=fun i hi=>vE w1 i hi
 have B3:Hid (Below w0.heap.size w0 (w1.alloc vD)):=zB hb1 (zC _ _)
 clear x0 x1 x2 x3 x4 x5 x6 x7 x8 x9 x10
 generalize w1.alloc vD=w3 at FC B3 ⊢
 generalize w1.heap.size=nf at FC ⊢
 go_loopw [3,5] (fun o i wr=> ∃ (m:Nat) (os:ByteArray),m≤6∧i= .int .i64 m∧o= .string os∧os.size≤10000∧Hid (os=bs (eTo E m))∧Hid (Below w3.heap.size w3 wr)) (fun _ i _=>6 - (intOf i).toNat)
 case atStart=>exact ⟨0,E.id,Nat.zero_le _,rfl,rfl,by omega,T0.out,Below.refl _ _⟩
 case round=>
  obtain ⟨m,os,hm,rfl,rfl,hos,HO,HBr⟩:=hrel
  by_cases hlt:m<6
  ·obtain ⟨x0,x1,x2,x3,x4,x5,x6,x7,x8,x9,x10⟩:=BX.out wr (zB B3.out HBr.out)
   have hc1:=zD (FC.out m hlt) HBr.out
   have J1:Hid (_):=TS.out m hlt
   have JL1:=TL.out (m+1) (by omega)
   have dl:=FL.out m
   have T1:Hid (∀ d oo,Calls Tryz.prog 53 #[.agg (eW E.id E.ti E.st E.lg E.f E.e ra E.ds.length rc E.c E.u sa E.sk.length sc ma E.mv.length mc),.string (zt m)] (grow (redrawn wr d) oo) fun r w''=>r= .returned (.string (bs (fT E m)))∧ ∃ p:Regrown,w''=grow (redrawn wr p.d) p.os):=fun d oo=>Calls.regrown_of (FO.out m hlt _ (zB HA.out (zB B3.out (zB HBr.out (below_regrown _ _ _)))))
   generalize bs (fT E m)=b1 at T1 J1 dl
   generalize zt m=fb at hc1 T1
   have X0:=cell_regrown x0
   have X1:=cell_regrown x1
   have X2:=cell_regrown x2
   have X3:=cell_regrown x3
   have X4:=cell_regrown x4
   have X5:=cell_regrown x5
   have X6:=cell_regrown x6
   have X7:=cell_regrown x7
   have X8:=cell_regrown x8
   have X9:=cell_regrown x9
   have X10:=cell_regrown x10
   have Xc:=cell_regrown hc1
   have q0: ¬ 9223372036854775807<os.size+1:=by omega
   have q1: ¬ 9223372036854775807<os.size+1+b1.size:=by omega
   clear x0 x1 x2 x3 x4 x5 x6 x7 x8 x9 x10 hc1
   go_wp2_with (fail)
   refine wp_region_quiet_below (by kernel_rfl) (by kernel_rfl) ?_
   repeat (quiet_step ((go_at_call 53;exact T1.out _ _)))
   refine wpQuiet_nil ?_
   intro w2 hw'
   have hb2:Below wr.heap.size wr w2:=by
    obtain ⟨⟨dq,osq⟩,hw''⟩:=hw'
    subst hw''
    exact below_regrown _ _ _
   clear hw' X0 X1 X2 X3 X4 X5 X6 X7 X8 X9 X10 Xc
   go_wp2
   go_roundw
   case rel=>
    have hj:bs (eTo E (m+1))=os++⟨#[124]⟩++b1:=by
     rw [J1.out,←HO.out]
    refine ⟨m+1,_,by omega,by go_num,rfl,?_,hj.symm,zB HBr.out hb2⟩
    rw [←hj];exact JL1
   case measure=>simp [intOf];omega
  ·have hm6:m=6:=by omega
   have J2:Hid (os=bs (eTo E 6)):=by
    show _=_
    rw [HO.out,hm6]
   clear HO
   go_wp2
   go_ret
   exact ⟨yi J2.out,zB HA.out (zB B3.out HBr.out)⟩
end Go.Proofs.YtpeafgddbbojaaaGreatDoor
namespace Go.Proofs.YtpeafgddbbojaaaGreatDoor
open Go.RowKit Cal
end Go.Proofs.YtpeafgddbbojaaaGreatDoor
namespace Go.Proofs.YtpeafgddbbojaaaGreatDoor
open Go Go.RowKit Go.Sort Cal
attribute [local go_sem] Oper.semAt_some
end Go.Proofs.YtpeafgddbbojaaaGreatDoor
namespace Go.Proofs.YtpeafgddbbojaaaGreatDoor
open Go Go.RowKit Cal
end Go.Proofs.YtpeafgddbbojaaaGreatDoor
namespace Go.Proofs.YtpeafgddbbojaaaGreatDoor
open Go Go.RowKit Go.Sort Cal
attribute [local go_sem] Oper.semAt_some
end Go.Proofs.YtpeafgddbbojaaaGreatDoor
namespace Go.Proofs.YtpeafgddbbojaaaGreatDoor
open Go Go.RowKit Go.Maps Go.Sort Cal
attribute [local go_sem] Oper.semAt_some
theorem zlw{W0 W:World}{v:Value}{l:List ByteArray}(h:TR W0 W v (l.map fun x=>x.data.toList))(h8:l.length≤80000):Txs W v l:=by
 have h1:=zcl (xs:=l.map fun x=>x.data.toList) h.own
 have e:(l.map fun x=>x.data.toList).map bs=l:=by
  rw [List.map_map]
  exact List.map_id' l
 rw [e] at h1
 exact h1.txs h8
set_option maxHeartbeats 1000000 in
theorem zgD(base:Nat)(x:ByteArray)(v:Value)(Xs:List EX)(w:World)(hR:MR base w v Xs)(h8:Xs.length≤1000):
  Calls Tryz.prog 28 #[.agg #[v],.string x] w fun r w'=> ∃ k:Int,r= .returned (.int .i64 k)∧((k= -1∧ ¬ ∃ X∈Xs,X.E.id=x)∨ ∃ (m:Nat) (h:m<Xs.length),k=m∧Xs[m].E.id=x)∧Below w.heap.size w w':=by
 obtain ⟨a,cap,rfl,hcap,hc⟩:=hR.form
 have HC:Hid (_):=hc
 have hA:=zC w (.cells #[.slice a Xs.length cap] 27)
 have HA0:Hid (_):=hA
 have cB:=zR (zJ (W:=w) (.cells #[.slice a Xs.length cap] 27) rfl)
 clear hc hR hA
 go_enter Tryz.func28,Tryz.ntmps28
 generalize hw0:w.alloc (.cells #[.slice a Xs.length cap] 27)=w0 at HA0 cB
 have HCB:Hid (_):=cB
 clear cB
 go_wp2
 go_loopw [5] (fun i wr=> ∃ m:Nat,m≤Xs.length∧i= .int .i64 m∧Hid (Below w0.heap.size w0 wr)∧Hid (∀ (j:Nat) (h:j<Xs.length),j<m→Xs[j].E.id≠x)) (fun i _=>Xs.length - (intOf i).toNat)
 case atStart=>exact ⟨0,Nat.zero_le _,rfl,Below.refl _ _,fun j _ h=>absurd h (Nat.not_lt_zero _)⟩
 case round=>
  obtain ⟨m,hm,rfl,hB,HA⟩:=hrel
  have cB:=zD HCB.out hB.out
  by_cases hlt:m<Xs.length
  ·obtain ⟨b,rfl,hE⟩:=HC.out m hlt
   have x0:=zD (zD hE.c0 HA0.out) hB.out
   by_cases hx:Xs[m].E.id=x
   ·have HT:Hid (∃ (j:Nat) (h:j<Xs.length),(m:Int)=j∧Xs[j].E.id=x):=⟨m,hlt,rfl,hx⟩
    rw [hx] at x0
    clear HA HC hE hx HCB
    go_wp2
    go_ret
    exact ⟨_,rfl,.inr HT.out,zB HA0.out hB.out⟩
   ·have HN:Hid (∀ (j:Nat) (h:j<Xs.length),j<m+1→Xs[j].E.id≠x):=fun j hj hjk=>by
     by_cases ej:j=m
     ·subst ej;exact hx
     ·exact HA.out j hj (by omega)
    clear HA HC hE HCB
    generalize Xs[m].E.id=y at x0 hx
    have hq:=zgT hx
    clear hx
    go_wp2
    go_roundw
    case rel=>exact ⟨m+1,by omega,by go_num,hB.out,HN.out⟩
    case measure=>simp [intOf];omega
  ·have HR:Hid (¬ ∃ X∈Xs,X.E.id=x):=fun ⟨X,hX,q⟩=>by
    obtain ⟨j,hj,rfl⟩:=List.mem_iff_getElem.1 hX
    exact HA.out j hj (by omega) q
   clear HA HC HCB
   go_wp2
   go_ret
   exact ⟨-1,rfl,.inl ⟨rfl,HR.out⟩,zB HA0.out hB.out⟩
set_option maxHeartbeats 2000000 in
set_option maxRecDepth 100000 in
theorem zeQ(base:Nat)(v:Value)(Xs:List EX)(w:World)(hR:MR base w v Xs)(h8:Xs.length≤1000):
  Calls Tryz.prog 29 #[.agg #[v]] w fun r w'=> ∃ v',r= .returned v'∧Txs w' v' (Xs.map fun X=>X.E.id)∧Below w.heap.size w w':=by
 obtain ⟨a,cap,rfl,hcap,hc⟩:=hR.form
 obtain ⟨i0,hi,hz0,hz1,hz2⟩:=info_parts ye
 have HC:Hid (_):=hc
 have hA:=zC w (.cells #[.slice a Xs.length cap] 27)
 have HA0:Hid (_):=hA
 have cB:=zR (zJ (W:=w) (.cells #[.slice a Xs.length cap] 27) rfl)
 clear hc hR hA
 go_enter Tryz.func29,Tryz.ntmps29
 generalize hw0:w.alloc (.cells #[.slice a Xs.length cap] 27)=w0 at HA0 cB
 have HCB:Hid (_):=cB
 clear cB
 go_wp2
 go_loopw [3,4] (fun v i wr=> ∃ m:Nat,m≤Xs.length∧i= .int .i64 m∧Hid (TR w0 wr v (((Xs.take m).map fun X=>X.E.id).map fun x=>x.data.toList))) (fun _ i _=>Xs.length - (intOf i).toNat)
 case atStart=>exact ⟨0,Nat.zero_le _,rfl,TR.nil w0⟩
 case round=>
  obtain ⟨m,hm,rfl,HO⟩:=hrel
  have cB:=zD HCB.out HO.out.below
  by_cases hlt:m<Xs.length
  ·obtain ⟨b,rfl,hE⟩:=HC.out m hlt
   have x0:=zD (zD hE.c0 HA0.out) HO.out.below
   have HN:Hid ((((Xs.take (m+1)).map fun X=>X.E.id).map fun x=>x.data.toList)=(((Xs.take m).map fun X=>X.E.id).map fun x=>x.data.toList)++[Xs[m].E.id.data.toList]):=by
    show _=_
    rw [List.take_succ_eq_append_getElem hlt,List.map_append,List.map_append];rfl
   have hlen:(((Xs.take m).map fun X=>X.E.id).map fun x=>x.data.toList).length=m:=by simp;omega
   clear HC hE HCB
   generalize Xs[m].E.id=bt at x0 HN
   generalize (((Xs.take m).map fun X=>X.E.id).map fun x=>x.data.toList)=L at HO HN hlen
   obtain ⟨oa,oc,rfl⟩:=HO.out.form
   rw [hlen] at HO
   have HLN:=hid hlen
   have NC:Hid (_):=xQ wr bt
   have hz2':w0.heap.size≤wr.heap.size:=HO.out.below.size
   clear hlen
   rw [HLN.out]
   go_wp2_with (first
    |(at_builtin;refine wpList_append_own _ rfl _ _ 51 rfl w0.heap.size 9 i0 (.string ⟨#[]⟩) 1 16 Tryz.underlying51 hi hz0 hz1 hz2 rfl (by decide) _ _ _ rfl (show World.ownsRow _ _ _ _ _ m (L.map sv) by have:=HO.out.own.alloc (.cells #[.string bt] 9);rwa [HLN.out] at this) ⟨wr.heap.size,0,none⟩ 1 1 [.string bt] rfl rfl NC.out (fun v hv=>by rw [List.mem_singleton.1 hv];rfl) (by unfold maxLen;omega) (by omega) (by simp;omega) ?_;intro v' w3 hown' hgrow _;have T3:Hid (TR w0 w3 v' (L++[bt.data.toList])):=TR.app [bt.data.toList] HO.out (by rw [List.length_append,HLN.out];rfl) (by rw [List.map_append];rfl) hown' hgrow;obtain ⟨g',cap',rfl⟩:=ownsRow_succ hown';clear hown' hgrow)
    |go_in)
   go_roundw
   case rel=>exact ⟨m+1,by omega,by go_num,by rw [HN.out];exact T3.out⟩
   case measure=>simp [intOf];omega
  ·have HE:Hid (Xs.take m=Xs):=List.take_of_length_le (by omega)
   rw [HE.out] at HO
   have HT:Hid (Txs wr u3 (Xs.map fun X=>X.E.id)):=zlw HO.out (by simp;omega)
   have HB:Hid (Below w0.heap.size w0 wr):=HO.out.below
   clear HC HCB HO HE
   go_wp2
   go_ret
   exact ⟨_,rfl,HT.out,zB HA0.out HB.out⟩
theorem ziM(Xs:List EX)(m:Nat)(h:m<Xs.length):bkT ((Xs.take (m+1)).map EX.E)=bkT ((Xs.take m).map EX.E)++eT Xs[m].E++[10]:=by
 rw [List.take_succ_eq_append_getElem h,List.map_append]
 exact ze4 _ _
set_option maxHeartbeats 2000000 in
set_option maxRecDepth 100000 in
theorem zgE(base:Nat)(v:Value)(Xs:List EX)(w w0:World)(hB0:Below w0.heap.size w0 w)(hR:MR base w v Xs)(h60:Xs.length≤60)(hg: ∀ X∈Xs,XGot w0 X)(hw: ∀ X∈Xs,EW X.E):
  Calls Tryz.prog 31 #[.agg #[v]] w fun r w'=>r= .returned (.string (bs (bkT (Xs.map EX.E))))∧Below w.heap.size w w':=by
 have hds: ∀ X∈Xs,X.E.ds.length≤20:=fun X hX=>(zg8 (hg X hX).2.2.2).2.1
 have ET:Hid (∀ X∈Xs,∀ W,Below w.heap.size w W→Calls Tryz.prog 49 #[ev X.E X.sl X.skv X.mvv] W fun r w'=>r= .returned (.string (bs (eT X.E)))∧Below W.heap.size W w'):=fun X hX W hW=>zae X.E X.sl X.skv X.mvv W ((hg X hX).1.step (zB hB0 hW)) ((hg X hX).2.1.step (zB hB0 hW)) ((hg X hX).2.2.1.step (zB hB0 hW)) (hds X hX) (hw X hX)
 have HF:Hid (∀ X∈Xs,(∃ a n c,X.sl= .slice a n c)∧(∃ a n c,X.skv= .slice a n c)∧(∃ a n c,X.mvv= .slice a n c)):=fun X hX=>by
  obtain ⟨a1,c1,e1⟩:=zx (hg X hX).1
  obtain ⟨a2,c2,e2⟩:=zx (hg X hX).2.1
  obtain ⟨a3,c3,e3⟩:=zo (hg X hX).2.2.1
  exact ⟨⟨_,_,_,e1⟩,⟨_,_,_,e2⟩,⟨_,_,_,e3⟩⟩
 have TL:Hid (∀ m,(bs (bkT ((Xs.take m).map EX.E))).size≤700000):=fun m=>by
  rw [yv]
  have h1:=zd4 (C:=(Xs.take m).map EX.E) (fun E hE=>by
   obtain ⟨X,hX,rfl⟩:=List.mem_map.1 hE
   have hX':=List.mem_of_mem_take hX
   exact ⟨hw X hX',hds X hX'⟩)
  rw [List.length_map,List.length_take] at h1
  have h2:min m Xs.length≤60:=by omega
  have h3:=Nat.mul_le_mul_right 10001 h2
  omega
 have EL:Hid (∀ X∈Xs,(bs (eT X.E)).size≤10000):=fun X hX=>by rw [yv];exact zeY (hw X hX) (hds X hX)
 have TS:Hid (∀ (m:Nat) (h:m<Xs.length),bs (bkT ((Xs.take (m+1)).map EX.E))=bs (bkT ((Xs.take m).map EX.E))++bs (eT Xs[m].E)++⟨#[10]⟩):=fun m h=>by
  rw [ziM Xs m h]
  show _=bs _++bs _++bs [10]
  rw [yR,yR]
 obtain ⟨a,cap,rfl,hcap,hc⟩:=hR.form
 have HC:Hid (_):=hc
 have hA:=zC w (.cells #[.slice a Xs.length cap] 27)
 have HA0:Hid (_):=hA
 have cB:=zR (zJ (W:=w) (.cells #[.slice a Xs.length cap] 27) rfl)
 clear hc hR hA hg hw hds
 go_enter Tryz.func31,Tryz.ntmps31
 generalize hw0:w.alloc (.cells #[.slice a Xs.length cap] 27)=w1 at HA0 cB
 have HCB:Hid (_):=cB
 clear cB
 go_wp2
 go_loopw [3,4] (fun o i wr=> ∃ (m:Nat) (os:ByteArray),m≤Xs.length∧i= .int .i64 m∧o= .string os∧os.size≤700000∧Hid (os=bs (bkT ((Xs.take m).map EX.E)))∧Hid (Below w1.heap.size w1 wr)) (fun _ i _=>Xs.length - (intOf i).toNat)
 case atStart=>exact ⟨0,⟨#[]⟩,Nat.zero_le _,rfl,rfl,by show (0:Nat)≤_;omega,rfl,Below.refl _ _⟩
 case round=>
  obtain ⟨m,os,hm,rfl,rfl,hos,HO,HB⟩:=hrel
  have cB:=zD HCB.out HB.out
  by_cases hlt:m<Xs.length
  ·obtain ⟨b,rfl,hE⟩:=HC.out m hlt
   have hX:Xs[m]∈Xs:=List.getElem_mem hlt
   have ET1:Hid (Calls _ _ _ _ _):=ET.out _ hX wr (zB HA0.out HB.out)
   have el:=EL.out _ hX
   have J1:Hid (_):=TS.out m hlt
   have JL:=TL.out (m+1)
   obtain ⟨⟨a1,n1,c1,e1⟩,⟨a2,n2,c2,e2⟩,⟨a3,n3,c3,e3⟩⟩:=HF.out _ hX
   have hE2:=hE.step (zB HA0.out HB.out)
   clear HC hE hX HF
   generalize Xs[m]=X at ET1 el J1 e1 e2 e3 hE2
   obtain ⟨E,sl,skv,mvv⟩:=X
   dsimp only at ET1 el J1 e1 e2 e3 hE2
   subst e1 e2 e3
   obtain ⟨x0,x1,x2,x3,x4,x5,x6,x7,x8,x9,x10⟩:=hE2
   unfold ev at ET1
   generalize bs (eT E)=bt at ET1 el J1
   have q0: ¬ 9223372036854775807<os.size+bt.size:=by omega
   have q1: ¬ 9223372036854775807<os.size+bt.size+1:=by omega
   go_wp2_with (go_at_call 49;refine Calls.mono ET1.out ?_;rintro r w2 ⟨rfl,hb2⟩)
   go_roundw
   case rel=>
    have hj:bs (bkT ((Xs.take (m+1)).map EX.E))=os++bt++⟨#[10]⟩:=by rw [J1.out,←HO.out]
    refine ⟨m+1,_,by omega,by go_num,rfl,?_,hj.symm,zB HB.out hb2⟩
    rw [←hj];exact JL
   case measure=>simp [intOf];omega
  ·have HE:Hid (os=bs (bkT (Xs.map EX.E))):=by
    show _=_
    rw [HO.out,List.take_of_length_le (by omega)]
   clear HC HCB HO
   go_wp2
   go_ret
   exact ⟨yi HE.out,zB HA0.out HB.out⟩
def XRd(w:World)(X:EX):Prop:=Got w X.sl X.E.ds∧Got w X.skv X.E.sk∧GotM w X.mvv X.E.mv∧X.E.ds.length≤20∧EW X.E
theorem XRd.step{w w':World}{X:EX}(h:XRd w X)(hb:Below w.heap.size w w'):XRd w' X:=⟨h.1.step hb,h.2.1.step hb,h.2.2.1.step hb,h.2.2.2⟩
set_option maxHeartbeats 2000000 in
set_option maxRecDepth 100000 in
theorem zeE(base:Nat)(x:ByteArray)(v:Value)(Xs:List EX)(w:World)(hR:MR base w v Xs)(h8:Xs.length≤1000)(hg: ∀ X∈Xs,XRd w X):
  Calls Tryz.prog 24 #[.agg #[v],.string x] w fun r w'=>((∃ (m:Nat) (h:m<Xs.length),Xs[m].E.id=x∧r= .returned (.string (bs (eT Xs[m].E))))∨((¬ ∃ X∈Xs,X.E.id=x)∧r= .returned (.string ⟨#[]⟩)))∧Below w.heap.size w w':=by
 have HG:Hid (∀ X∈Xs,XRd w X):=hg
 have FA:Hid (∀ W,Below w.heap.size w W→Calls Tryz.prog 28 #[.agg #[v],.string x] W fun r w'=> ∃ k:Int,r= .returned (.int .i64 k)∧((k= -1∧ ¬ ∃ X∈Xs,X.E.id=x)∨ ∃ (m:Nat) (h:m<Xs.length),k=m∧Xs[m].E.id=x)∧Below W.heap.size W w'):=fun W hW=>zgD base x v Xs W (hR.far (fun k _ hk=>hW.block k hk)) h8
 have HR:Hid (MR base w v Xs):=hR
 obtain ⟨a,cap,rfl,hcap,_⟩:=hR.form
 have hA:=zC w (.cells #[.slice a Xs.length cap] 27)
 have HA:Hid (Below w.heap.size w (w.alloc (.cells #[.slice a Xs.length cap] 27))):=hA
 have HBK:Hid ((w.alloc (.cells #[.slice a Xs.length cap] 27)).heap[w.heap.size]? =some (.cells #[.slice a Xs.length cap] 27 (0,0))):=zJ _ rfl
 have cB:=zR (zJ (W:=w) (.cells #[.slice a Xs.length cap] 27) rfl)
 have hli:(Xs.length:Int)≤1000:=by omega
 clear hR hA hg
 go_enter Tryz.func24,Tryz.ntmps24
 go_upto_region 2 with (go_at_call 28;refine Calls.mono (FA.out _ HA.out) ?_;rintro r w2 ⟨kk,rfl,hk,hb2⟩;have HB2:Hid (Below w.heap.size w w2):=zB HA.out hb2;have HBK2:Hid (w2.heap[w.heap.size]? =some (.cells #[.slice a Xs.length cap] 27 (0,0))):=(hb2.block _ (Array.getElem?_eq_some_iff.1 HBK.out).1).trans HBK.out;clear hb2)
 clear cB HBK FA HA
 rcases hk with ⟨rfl,hno⟩|⟨m,hm,rfl,hid⟩
 ·have HNO:Hid (¬ ∃ X∈Xs,X.E.id=x):=hno
  clear hno
  go_wp2
  go_ret
  exact ⟨.inr ⟨HNO.out,rfl⟩,HB2.out⟩
 ·have HID:Hid (Xs[m].E.id=x):=hid
  have HM:Hid (m<Xs.length):=hm
  have hx0:=(HG.out _ (List.getElem_mem hm)).step HB2.out
  obtain ⟨a2,c2,e2,_,h3⟩:=(HR.out.far (W':=w2) (fun k _ hk=>HB2.out.block k hk)).form
  injection e2 with e1 _ _
  obtain ⟨b,q1,q2⟩:=h3 m hm
  rw [q1] at e1
  subst e1
  obtain ⟨X,hX⟩: ∃ X,Xs[m]=X:=⟨_,rfl⟩
  have HX:Hid (Xs[m]=X):=hX
  have hx:XRd w2 X:=by rw [←hX];exact hx0
  have hidX:X.E.id=x:=by rw [←hX];exact hid
  have q2:EvAt w2 b (m*11) X.E X.sl X.skv X.mvv:=by rw [←hX];exact q2
  obtain ⟨k0,k1,k2,k3,k4,k5,k6,k7,k8,k9,k10⟩:=q2
  have HIX:Hid (X.E.id=x):=hidX
  have ET:Hid (Calls Tryz.prog 49 #[.agg #[.string X.E.id,.string X.E.ti,.int .i64 X.E.st,.int .i64 X.E.lg,.string X.E.f,.int .i64 X.E.e,X.sl,.int .i64 X.E.c,.int .i64 X.E.u,X.skv,X.mvv]] w2 fun r w'=>r= .returned (.string (bs (eT X.E)))∧Below w2.heap.size w2 w'):=zae X.E _ _ _ w2 hx.1 hx.2.1 hx.2.2.1 hx.2.2.2.1 hx.2.2.2.2
  have cB2:w2.cell? ⟨w.heap.size,0,none⟩=some (.slice (some ⟨b,0,none⟩) Xs.length cap):=zR HBK2.out
  have g1:(0:Int)≤(m:Int):=by omega
  have g2:(m:Int)<(Xs.length:Int):=by omega
  clear hx hx0 h3 q1 HG HR hidX hid HID hX
  obtain ⟨tx,htx⟩: ∃ tx,bs (eT X.E)=tx:=⟨_,rfl⟩
  have HTX:Hid (tx=bs (eT Xs[m].E)):=by show _=_;rw [HX.out];exact htx.symm
  rw [htx] at ET
  clear htx
  go_wp2_with (go_at_call 49;refine Calls.mono ET.out ?_;rintro r w3 ⟨rfl,hb3⟩;have HB3:Hid (Below w2.heap.size w2 w3):=hb3;clear hb3)
  go_ret
  exact ⟨.inl ⟨m,HM.out,(congrArg (fun Y:EX=>Y.E.id) HX.out).trans HIX.out,congrArg (fun b=>Ending.returned (.string b)) HTX.out⟩,zB HB2.out HB3.out⟩
end Go.Proofs.YtpeafgddbbojaaaGreatDoor
