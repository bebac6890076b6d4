import Derived.Test.YtpeafgddbbojaaaGreatDoorJqAA
import Derived.Test.YtpeafgddbbojaaaGreatDoorJqAO
import Derived.Test.YtpeafgddbbojaaaGreatDoorJqAB
import Derived.Test.YtpeafgddbbojaaaGreatDoorJqAN
import Derived.Deep.DeepCutAuto
import Derived.Test.YtpeafgddbbojaaaGreatDoorJqAK
import Derived.Test.YtpeafgddbbojaaaGreatDoorJqAM
import Derived.Maps.RangeWalk
import Derived.Maps.Ext
namespace Go.Proofs.YtpeafgddbbojaaaGreatDoor
open Go.RowKit Cal
theorem jp(n a b:Int)(w:World):Calls Tryz.prog 69 #[.int .i64 n,.int .i64 a,.int .i64 b] w fun r w'=>r= .returned (.bool (decide (a≤n∧n≤b)))∧w'=w:=by
 by_cases h:a≤n∧n≤b
 ·rw [decide_eq_true h];exact in_yes n a b w h.1 h.2
 ·rw [decide_eq_false h];exact in_no n a b w (by omega)
structure ErrZ(f:ByteArray)(e c u:Int)(L:Nat)(z:Nat→Int)(k:Int):Prop where
 f1:isF f=false→k=4
 f2:isF f=true→ ¬ bN e c u=true→k=2
 f3:isF f=true→ ∀ j,j<L→ ¬ (0≤z j∧z j≤6)→k=2
 f4:isF f=true→bN e c u=true→(∀ j,j<L→0≤z j∧z j≤6)→ ¬ shp (f.toList==[111,110,99,101]) (f.toList==[119,101,101,107,108,121]) e c u L→k=3
 f5:isF f=true→bN e c u=true→(∀ j,j<L→0≤z j∧z j≤6)→shp (f.toList==[111,110,99,101]) (f.toList==[119,101,101,107,108,121]) e c u L→ ∀ t,t+1<L→z (t+1)≤z t→k=8
 f0:isF f=true→bN e c u=true→(∀ j,j<L→0≤z j∧z j≤6)→shp (f.toList==[111,110,99,101]) (f.toList==[119,101,101,107,108,121]) e c u L→(∀ t,t+1<L→z t<z (t+1))→k=0
theorem zky{f:ByteArray}{e:Int}{ds:List Int}{c u k:Int}(h:zbX f e ds c u k):ErrZ f e c u ds.length (fun j=>ds.getD j 0) k:=by
 have hz: ∀ (j:Nat) (hj:j<ds.length),ds.getD j 0=ds[j]:=fun j hj=>zhj hj
 have hbd:(∀ j,j<ds.length→0≤ds.getD j 0∧ds.getD j 0≤6)→bD ds:=fun q d hd=>by
  obtain ⟨j,hj,rfl⟩:=List.mem_iff_getElem.1 hd
  have:=q j hj
  rw [hz j hj] at this
  exact this
 refine ⟨zfg h,fun h1 h2=>zds h h1 (fun q=>h2 q.1),fun h1 j hj h2=> ?_,fun h1 h2 h3 h4=>zfh h h1 ⟨h2,hbd h3⟩ h4,fun h1 h2 h3 h4 t ht h5=>zfi h h1 ⟨h2,hbd h3⟩ h4 (fun hr=> ?_),fun h1 h2 h3 h4 h5=>(jq h).2 (zbg h1 h2 (hbd h3) h4 (fun t ht=> ?_))⟩
 ·rw [hz j hj] at h2
  exact zds h h1 (fun q=>h2 (q.2 ds[j] (List.getElem_mem hj)))
 ·have h6:=hr t ht
  have h7:ds.getD (t+1) 0≤ds.getD t 0:=h5
  rw [hz t (by omega),hz (t+1) ht] at h7
  omega
 ·have:=h5 t ht
  rw [hz t (by omega),hz (t+1) ht] at this
  exact this
set_option maxHeartbeats 4000000 in
set_option maxRecDepth 100000 in
theorem zei(f:ByteArray)(e:Int)(a:Option Addr)(L cap:Nat)(z:Nat→Int)(c u k:Int)(w:World)(h20:L≤20)(hk:ErrZ f e c u L z k)
  (hc: ∀ j,j<L→ ∃ ad,a=some ad∧(w.alloc (.cells #[.string f,.int .i64 e,.slice a L cap,.int .i64 c,.int .i64 u] 45)).cell? (ad.add j)=some (.int .i64 (z j))):
  Calls Tryz.prog 70 #[rv f e (.slice a L cap) c u] w fun r w'=>r= .returned (.int .i64 k)∧Below w.heap.size w w':=by
 have HC:Hid (_):=hc
 obtain ⟨f1,f2,f3,f4,f5,f0⟩:=hk
 have F2:Hid (_):=f2
 have F3:Hid (_):=f3
 have F4:Hid (_):=f4
 have F5:Hid (_):=f5
 have F0:Hid (_):=f0
 clear hc f2 f3 f4 f5 f0
 unfold rv
 cases h1:isF f with
 |false=>
  have K4:=hid (f1 h1)
  have hb:(f.toList==[111,110,99,101])=false∧(f.toList==[100,97,105,108,121])=false∧(f.toList==[119,101,101,107,108,121])=false∧(f.toList==[109,111,110,116,104,108,121])=false∧(f.toList==[121,101,97,114,108,121])=false:=by
   unfold isF at h1
   simp only [Bool.or_eq_false_iff] at h1
   exact ⟨h1.1.1.1.1,h1.1.1.1.2,h1.1.1.2,h1.1.2,h1.2⟩
  obtain ⟨b1,b2,b3,b4,b5⟩:=hb
  clear f1
  go_enter Tryz.func70,Tryz.ntmps70
  go_wp2
  go_ret
  exact ⟨ze K4.out.symm,zC _ _⟩
 |true=>
  have H1:=hid h1
  have hfive:((f.toList==[111,110,99,101])=true∧(f.toList==[119,101,101,107,108,121])=false)∨((f.toList==[111,110,99,101])=false∧(f.toList==[119,101,101,107,108,121])=true)∨
    ((f.toList==[111,110,99,101])=false∧(f.toList==[119,101,101,107,108,121])=false∧(f.toList==[100,97,105,108,121])=true)∨
    ((f.toList==[111,110,99,101])=false∧(f.toList==[119,101,101,107,108,121])=false∧(f.toList==[100,97,105,108,121])=false∧(f.toList==[109,111,110,116,104,108,121])=true)∨
    ((f.toList==[111,110,99,101])=false∧(f.toList==[119,101,101,107,108,121])=false∧(f.toList==[100,97,105,108,121])=false∧(f.toList==[109,111,110,116,104,108,121])=false∧(f.toList==[121,101,97,114,108,121])=true):=by
   rw [zeh] at h1
   unfold xO zdv vY jr zbh at h1
   rcases h1 with h|h|h|h|h<;>rw [h]<;>decide
  clear h1 f1
  rcases hfive with ⟨b1,b3⟩|⟨b1,b3⟩|⟨b1,b3,b2⟩|⟨b1,b3,b2,b4⟩|⟨b1,b3,b2,b4,b5⟩
  case inl=>
   go_enter Tryz.func70,Tryz.ntmps70
   go_upto_region 5 with (fail)
   by_cases hbn:bN e c u=true
   case neg=>
    have K2:=hid (F2.out H1.out hbn)
    have hex: ¬ (1≤e∧e≤100∧0≤c∧c≤1000∧ -1≤u∧u≤73048):=fun h=>hbn ((zaG e c u).2 h)
    have hc3: ¬ (1≤e∧e≤100)∨((1≤e∧e≤100)∧ ¬ (0≤c∧c≤1000))∨((1≤e∧e≤100)∧(0≤c∧c≤1000)∧ ¬ (-1≤u∧u≤73048)):=by omega
    clear hbn hex
    have J1:=fun w=>jp e 1 100 w
    have J2:=fun w=>jp c 0 1000 w
    have J3:=fun w=>jp u (-1) 73048 w
    rcases hc3 with g1|⟨g1,g2⟩|⟨g1,g2,g3⟩
    case' inl=>
     simp only [decide_eq_false g1] at J1
     generalize decide (0≤c∧c≤1000)=B2 at J2
     generalize decide (-1≤u∧u≤73048)=B3 at J3
    case' inr.inl=>
     simp only [decide_eq_true g1] at J1
     simp only [decide_eq_false g2] at J2
     generalize decide (-1≤u∧u≤73048)=B3 at J3
    case' inr.inr=>
     simp only [decide_eq_true g1] at J1
     simp only [decide_eq_true g2] at J2
     simp only [decide_eq_false g3] at J3
    all_goals
     have L1:Hid (_):=J1
     have L2:Hid (_):=J2
     have L3:Hid (_):=J3
     clear J1 J2 J3
     go_wp2_with (first
       |(go_at_call_of 69 (Value.int .i64 e);refine (L1.out _).mono ?_;rintro r w' ⟨rfl,rfl⟩)
       |(go_at_call_of 69 (Value.int .i64 c);refine (L2.out _).mono ?_;rintro r w' ⟨rfl,rfl⟩)
       |(go_at_call_of 69 (Value.int .i64 u);refine (L3.out _).mono ?_;rintro r w' ⟨rfl,rfl⟩))
     go_ret
     exact ⟨ze K2.out.symm,zC _ _⟩
   case pos=>
    obtain ⟨g1,g2,g3,g4,g5,g6⟩:=(zaG e c u).1 hbn
    have HBN:Hid (_):=hbn
    have L1:Hid (∀ w,_):=fun w=>in_yes e 1 100 w g1 g2
    have L2:Hid (∀ w,_):=fun w=>in_yes c 0 1000 w g3 g4
    have L3:Hid (∀ w,_):=fun w=>in_yes u (-1) 73048 w g5 g6
    clear hbn
    go_upto_region 10 with (first
      |(go_at_call_of 69 (Value.int .i64 e);refine (L1.out _).mono ?_;rintro r w' ⟨rfl,rfl⟩)
      |(go_at_call_of 69 (Value.int .i64 c);refine (L2.out _).mono ?_;rintro r w' ⟨rfl,rfl⟩)
      |(go_at_call_of 69 (Value.int .i64 u);refine (L3.out _).mono ?_;rintro r w' ⟨rfl,rfl⟩))
    clear L1 L2 L3
    go_wp2
    go_loop [8] (fun i=> ∃ j:Nat,j≤L∧i= .int .i64 j∧Hid (∀ t,t<j→0≤z t∧z t≤6)) (fun i=>L - (intOf i).toNat)
    case atStart=>exact ⟨0,Nat.zero_le _,rfl,fun t h=>absurd h (Nat.not_lt_zero _)⟩
    case round=>
     obtain ⟨j,hj,rfl,HA⟩:=hrel
     by_cases hlt:j<L
     ·obtain ⟨ad,rfl,hcell⟩:=HC.out j hlt
      have HN:Hid (0≤z j→z j≤6→ ∀ t,t<j+1→0≤z t∧z t≤6):=fun q0 q6 t htj=>by
       by_cases et:t=j
       ·subst et;exact ⟨q0,q6⟩
       ·exact HA.out t (by omega)
      have HF:Hid (¬ (0≤z j∧z j≤6)→k=2):=fun hx=>F3.out H1.out j hlt hx
      clear HA
      generalize z j=d at hcell HN HF
      by_cases q0:d<0
      ·have HF':Hid (k=2):=HF.out (by omega)
       clear HF HN
       go_wp2
       go_ret
       exact ⟨ze HF'.out.symm,zC _ _⟩
      ·by_cases q6:6<d
       ·have HF':Hid (k=2):=HF.out (by omega)
        clear HF HN
        go_wp2
        go_ret
        exact ⟨ze HF'.out.symm,zC _ _⟩
       ·have HN':Hid (_):=HN.out (by omega) (by omega)
        clear HF HN
        go_wp2
        go_round
        case rel=>exact ⟨j+1,by omega,by go_num,HN'.out⟩
        case measure=>simp [intOf];omega
     ·have HBD:Hid (∀ t,t<L→0≤z t∧z t≤6):=fun t ht=>HA.out t (by omega)
      have F4':Hid (¬ shp (f.toList==[111,110,99,101]) (f.toList==[119,101,101,107,108,121]) e c u L→k=3):=F4.out H1.out HBN.out HBD.out
      have F0':Hid (shp (f.toList==[111,110,99,101]) (f.toList==[119,101,101,107,108,121]) e c u L→(∀ t,t+1<L→z t<z (t+1))→k=0):=F0.out H1.out HBN.out HBD.out
      have F5':Hid (shp (f.toList==[111,110,99,101]) (f.toList==[119,101,101,107,108,121]) e c u L→ ∀ t,t+1<L→z (t+1)≤z t→k=8):=F5.out H1.out HBN.out HBD.out
      clear HA F0 F2 F3 F4 F5
      by_cases r1:e=1
      ·have b_e:(e != 1)=false:=by rw [r1];rfl
       by_cases r2:c=0
       ·have b_c:(c != 0)=false:=by rw [r2];rfl
        have c_le:c≤0:=by omega
        by_cases r3:u= -1
        ·have b_u:(u != -1)=false:=by rw [r3];rfl
         by_cases r4:L=0
         ·have K0:Hid (k=0):=F0'.out ⟨fun _=>⟨r1,r2,r3⟩,fun _=>r4,.inl r2⟩ (fun t ht=>by omega)
          subst r4
          clear r1 r2 r3
          go_wp2
          go_loop [9] (fun i=>i= .int .i64 1) (fun _=>0)
          case atStart=>rfl
          case round=>
           subst hrel
           go_wp2
           go_ret
           exact ⟨ze K0.out.symm,zC _ _⟩
         ·have hl:(0:Int)<L:=by omega
          have hl':0<L:=by omega
          have K3:Hid (k=3):=F4'.out (fun h=>r4 (h.2.1 b3))
          clear r1 r2 r3 r4
          go_wp2
          go_ret
          exact ⟨ze K3.out.symm,zC _ _⟩
        ·have b_u:(u != -1)=true:=by rw [bne_iff_ne];exact r3
         have K3:Hid (k=3):=F4'.out (fun h=>r3 (h.1 b1).2.2)
         clear r1 r2 r3
         go_wp2
         go_ret
         exact ⟨ze K3.out.symm,zC _ _⟩
       ·have b_c:(c != 0)=true:=by rw [bne_iff_ne];exact r2
        have K3:Hid (k=3):=F4'.out (fun h=>r2 (h.1 b1).2.1)
        clear r1 r2
        go_wp2
        go_ret
        exact ⟨ze K3.out.symm,zC _ _⟩
      ·have b_e:(e != 1)=true:=by rw [bne_iff_ne];exact r1
       have K3:Hid (k=3):=F4'.out (fun h=>r1 (h.1 b1).1)
       clear r1
       go_wp2
       go_ret
       exact ⟨ze K3.out.symm,zC _ _⟩
  case inr.inl=>
   go_enter Tryz.func70,Tryz.ntmps70
   go_upto_region 5 with (fail)
   by_cases hbn:bN e c u=true
   case neg=>
    have K2:=hid (F2.out H1.out hbn)
    have hex: ¬ (1≤e∧e≤100∧0≤c∧c≤1000∧ -1≤u∧u≤73048):=fun h=>hbn ((zaG e c u).2 h)
    have hc3: ¬ (1≤e∧e≤100)∨((1≤e∧e≤100)∧ ¬ (0≤c∧c≤1000))∨((1≤e∧e≤100)∧(0≤c∧c≤1000)∧ ¬ (-1≤u∧u≤73048)):=by omega
    clear hbn hex
    have J1:=fun w=>jp e 1 100 w
    have J2:=fun w=>jp c 0 1000 w
    have J3:=fun w=>jp u (-1) 73048 w
    rcases hc3 with g1|⟨g1,g2⟩|⟨g1,g2,g3⟩
    case' inl=>
     simp only [decide_eq_false g1] at J1
     generalize decide (0≤c∧c≤1000)=B2 at J2
     generalize decide (-1≤u∧u≤73048)=B3 at J3
    case' inr.inl=>
     simp only [decide_eq_true g1] at J1
     simp only [decide_eq_false g2] at J2
     generalize decide (-1≤u∧u≤73048)=B3 at J3
    case' inr.inr=>
     simp only [decide_eq_true g1] at J1
     simp only [decide_eq_true g2] at J2
     simp only [decide_eq_false g3] at J3
    all_goals
     have L1:Hid (_):=J1
     have L2:Hid (_):=J2
     have L3:Hid (_):=J3
     clear J1 J2 J3
     go_wp2_with (first
       |(go_at_call_of 69 (Value.int .i64 e);refine (L1.out _).mono ?_;rintro r w' ⟨rfl,rfl⟩)
       |(go_at_call_of 69 (Value.int .i64 c);refine (L2.out _).mono ?_;rintro r w' ⟨rfl,rfl⟩)
       |(go_at_call_of 69 (Value.int .i64 u);refine (L3.out _).mono ?_;rintro r w' ⟨rfl,rfl⟩))
     go_ret
     exact ⟨ze K2.out.symm,zC _ _⟩
   case pos=>
    obtain ⟨g1,g2,g3,g4,g5,g6⟩:=(zaG e c u).1 hbn
    have HBN:Hid (_):=hbn
    have L1:Hid (∀ w,_):=fun w=>in_yes e 1 100 w g1 g2
    have L2:Hid (∀ w,_):=fun w=>in_yes c 0 1000 w g3 g4
    have L3:Hid (∀ w,_):=fun w=>in_yes u (-1) 73048 w g5 g6
    clear hbn
    go_upto_region 10 with (first
      |(go_at_call_of 69 (Value.int .i64 e);refine (L1.out _).mono ?_;rintro r w' ⟨rfl,rfl⟩)
      |(go_at_call_of 69 (Value.int .i64 c);refine (L2.out _).mono ?_;rintro r w' ⟨rfl,rfl⟩)
      |(go_at_call_of 69 (Value.int .i64 u);refine (L3.out _).mono ?_;rintro r w' ⟨rfl,rfl⟩))
    clear L1 L2 L3
    go_wp2
    go_loop [8] (fun i=> ∃ j:Nat,j≤L∧i= .int .i64 j∧Hid (∀ t,t<j→0≤z t∧z t≤6)) (fun i=>L - (intOf i).toNat)
    case atStart=>exact ⟨0,Nat.zero_le _,rfl,fun t h=>absurd h (Nat.not_lt_zero _)⟩
    case round=>
     obtain ⟨j,hj,rfl,HA⟩:=hrel
     by_cases hlt:j<L
     ·obtain ⟨ad,rfl,hcell⟩:=HC.out j hlt
      have HN:Hid (0≤z j→z j≤6→ ∀ t,t<j+1→0≤z t∧z t≤6):=fun q0 q6 t htj=>by
       by_cases et:t=j
       ·subst et;exact ⟨q0,q6⟩
       ·exact HA.out t (by omega)
      have HF:Hid (¬ (0≤z j∧z j≤6)→k=2):=fun hx=>F3.out H1.out j hlt hx
      clear HA
      generalize z j=d at hcell HN HF
      by_cases q0:d<0
      ·have HF':Hid (k=2):=HF.out (by omega)
       clear HF HN
       go_wp2
       go_ret
       exact ⟨ze HF'.out.symm,zC _ _⟩
      ·by_cases q6:6<d
       ·have HF':Hid (k=2):=HF.out (by omega)
        clear HF HN
        go_wp2
        go_ret
        exact ⟨ze HF'.out.symm,zC _ _⟩
       ·have HN':Hid (_):=HN.out (by omega) (by omega)
        clear HF HN
        go_wp2
        go_round
        case rel=>exact ⟨j+1,by omega,by go_num,HN'.out⟩
        case measure=>simp [intOf];omega
     ·have HBD:Hid (∀ t,t<L→0≤z t∧z t≤6):=fun t ht=>HA.out t (by omega)
      have F4':Hid (¬ shp (f.toList==[111,110,99,101]) (f.toList==[119,101,101,107,108,121]) e c u L→k=3):=F4.out H1.out HBN.out HBD.out
      have F0':Hid (shp (f.toList==[111,110,99,101]) (f.toList==[119,101,101,107,108,121]) e c u L→(∀ t,t+1<L→z t<z (t+1))→k=0):=F0.out H1.out HBN.out HBD.out
      have F5':Hid (shp (f.toList==[111,110,99,101]) (f.toList==[119,101,101,107,108,121]) e c u L→ ∀ t,t+1<L→z (t+1)≤z t→k=8):=F5.out H1.out HBN.out HBD.out
      clear HA F0 F2 F3 F4 F5
      by_cases r2:0<c
      ·by_cases r3:u= -1
       ·have b_u:(u != -1)=false:=by rw [r3];rfl
        have HSH:Hid (shp (f.toList==[111,110,99,101]) (f.toList==[119,101,101,107,108,121]) e c u L):=⟨fun q=>(by rw [b1] at q;exact absurd q (by decide)),fun q=>(by rw [b3] at q;exact absurd q (by decide)),.inr r3⟩
        clear r3
        go_wp2
        go_loopw [9] (fun i wr=> ∃ m q:Nat,(m+1≤L∨m=0)∧i= .int .i64 ((m:Int)+1)∧wr=(w.alloc (.cells #[.string f,.int .i64 e,.slice a L cap,.int .i64 c,.int .i64 u] 45)).drewN q∧Hid (∀ t,t<m→z t<z (t+1))) (fun i _=>L - (intOf i).toNat)
        case atStart=>exact ⟨0,0,Or.inr rfl,rfl,rfl,fun t h=>absurd h (by omega)⟩
        case round=>
         obtain ⟨m,q,hk,rfl,rfl,HA⟩:=hrel
         by_cases hlt2:m+1<L
         ·obtain ⟨ad,rfl,hcell⟩:=HC.out (m+1) hlt2
          obtain ⟨ad',ea,hcell'⟩:=HC.out m (by omega)
          have ea':ad'=ad:=by simpa using ea.symm
          subst ea'
          have HN:Hid (z m<z (m+1)→ ∀ t,t<m+1→z t<z (t+1)):=fun hx t htj=>by
           by_cases et:t=m
           ·subst et;exact hx
           ·exact HA.out t (by omega)
          have HF:Hid (¬ z m<z (m+1)→k=8):=fun hx=>F5'.out HSH.out m hlt2 (by omega)
          clear HA ea
          generalize z (m+1)=d at hcell HN HF
          generalize z m=d' at hcell' HN HF
          have hlt':(m:Int)+1<L:=by omega
          cases m with
          |zero=>
           have hc1:(w.alloc (.cells #[.string f,.int .i64 e,.slice (some ad') L cap,.int .i64 c,.int .i64 u] 45)).cell? ⟨ad'.block,ad'.off+1,none⟩=some (.int .i64 d):=hcell
           have hc0:(w.alloc (.cells #[.string f,.int .i64 e,.slice (some ad') L cap,.int .i64 c,.int .i64 u] 45)).cell? ad'=some (.int .i64 d'):=hcell'
           have hl1:1<L:=by omega
           have hl2:(1:Int)<L:=by omega
           clear hcell hcell'
           by_cases hx:d'<d
           ·have HN':Hid (_):=HN.out hx
            clear HF HN
            go_wp2_with (fail)
            go_quiet (fail)
            go_wp2
            go_roundw
            case rel=>exact ⟨0+1,_,by omega,by go_num,rfl,HN'.out⟩
            case measure=>simp [intOf];omega
           ·have HF':Hid (k=8):=HF.out hx
            clear HF HN
            have hx':d≤d':=by omega
            go_wp2_with (fail)
            go_quiet (fail)
            go_wp2
            go_ret
            exact ⟨ze HF'.out.symm,zB (zC _ _) (zB (zN _ _) (zN _ _))⟩
          |succ m=>
           have hp1:0≤((m+1:Nat):Int)+1:=by omega
           have hp2:0≤(m:Int)+1+1:=by omega
           have hp3:0≤(m:Int)+1:=by omega
           have hl1:(m:Int)+1+1<L:=by omega
           have hl2:(m:Int)+1<L:=by omega
           have hl3:m+1<L:=by omega
           have hl4:m+1+1<L:=by omega
           have hc1:(w.alloc (.cells #[.string f,.int .i64 e,.slice (some ad') L cap,.int .i64 c,.int .i64 u] 45)).cell? ⟨ad'.block,ad'.off+(m+1+1),none⟩=some (.int .i64 d):=hcell
           have hc0:(w.alloc (.cells #[.string f,.int .i64 e,.slice (some ad') L cap,.int .i64 c,.int .i64 u] 45)).cell? ⟨ad'.block,ad'.off+(m+1),none⟩=some (.int .i64 d'):=hcell'
           clear hcell hcell'
           by_cases hx:d'<d
           ·have HN':Hid (_):=HN.out hx
            clear HF HN
            go_wp2_with (fail)
            go_quiet (fail)
            go_wp2
            go_roundw
            case rel=>exact ⟨m+1+1,_,by omega,by go_num,rfl,HN'.out⟩
            case measure=>simp [intOf];omega
           ·have HF':Hid (k=8):=HF.out hx
            clear HF HN
            have hx':d≤d':=by omega
            go_wp2_with (fail)
            go_quiet (fail)
            go_wp2
            go_ret
            exact ⟨ze HF'.out.symm,zB (zC _ _) (zB (zN _ _) (zN _ _))⟩
         ·have K0:Hid (k=0):=F0'.out HSH.out (fun t ht=>HA.out t (by omega))
          clear HA
          have hlt': ¬ (m:Int)+1<L:=by omega
          go_wp2
          go_ret
          exact ⟨ze K0.out.symm,zB (zC _ _) (zN _ _)⟩
       ·have b_u:(u != -1)=true:=by rw [bne_iff_ne];exact r3
        have K3:Hid (k=3):=F4'.out (fun h=>by rcases h.2.2 with q|q<;>omega)
        clear r3
        go_wp2
        go_ret
        exact ⟨ze K3.out.symm,zC _ _⟩
      ·have HSH:Hid (shp (f.toList==[111,110,99,101]) (f.toList==[119,101,101,107,108,121]) e c u L):=⟨fun q=>(by rw [b1] at q;exact absurd q (by decide)),fun q=>(by rw [b3] at q;exact absurd q (by decide)),.inl (by omega)⟩
       have r2':c≤0:=by omega
       clear r2
       go_wp2
       go_loopw [9] (fun i wr=> ∃ m q:Nat,(m+1≤L∨m=0)∧i= .int .i64 ((m:Int)+1)∧wr=(w.alloc (.cells #[.string f,.int .i64 e,.slice a L cap,.int .i64 c,.int .i64 u] 45)).drewN q∧Hid (∀ t,t<m→z t<z (t+1))) (fun i _=>L - (intOf i).toNat)
       case atStart=>exact ⟨0,0,Or.inr rfl,rfl,rfl,fun t h=>absurd h (by omega)⟩
       case round=>
        obtain ⟨m,q,hk,rfl,rfl,HA⟩:=hrel
        by_cases hlt2:m+1<L
        ·obtain ⟨ad,rfl,hcell⟩:=HC.out (m+1) hlt2
         obtain ⟨ad',ea,hcell'⟩:=HC.out m (by omega)
         have ea':ad'=ad:=by simpa using ea.symm
         subst ea'
         have HN:Hid (z m<z (m+1)→ ∀ t,t<m+1→z t<z (t+1)):=fun hx t htj=>by
          by_cases et:t=m
          ·subst et;exact hx
          ·exact HA.out t (by omega)
         have HF:Hid (¬ z m<z (m+1)→k=8):=fun hx=>F5'.out HSH.out m hlt2 (by omega)
         clear HA ea
         generalize z (m+1)=d at hcell HN HF
         generalize z m=d' at hcell' HN HF
         have hlt':(m:Int)+1<L:=by omega
         cases m with
         |zero=>
          have hc1:(w.alloc (.cells #[.string f,.int .i64 e,.slice (some ad') L cap,.int .i64 c,.int .i64 u] 45)).cell? ⟨ad'.block,ad'.off+1,none⟩=some (.int .i64 d):=hcell
          have hc0:(w.alloc (.cells #[.string f,.int .i64 e,.slice (some ad') L cap,.int .i64 c,.int .i64 u] 45)).cell? ad'=some (.int .i64 d'):=hcell'
          have hl1:1<L:=by omega
          have hl2:(1:Int)<L:=by omega
          clear hcell hcell'
          by_cases hx:d'<d
          ·have HN':Hid (_):=HN.out hx
           clear HF HN
           go_wp2_with (fail)
           go_quiet (fail)
           go_wp2
           go_roundw
           case rel=>exact ⟨0+1,_,by omega,by go_num,rfl,HN'.out⟩
           case measure=>simp [intOf];omega
          ·have HF':Hid (k=8):=HF.out hx
           clear HF HN
           have hx':d≤d':=by omega
           go_wp2_with (fail)
           go_quiet (fail)
           go_wp2
           go_ret
           exact ⟨ze HF'.out.symm,zB (zC _ _) (zB (zN _ _) (zN _ _))⟩
         |succ m=>
          have hp1:0≤((m+1:Nat):Int)+1:=by omega
          have hp2:0≤(m:Int)+1+1:=by omega
          have hp3:0≤(m:Int)+1:=by omega
          have hl1:(m:Int)+1+1<L:=by omega
          have hl2:(m:Int)+1<L:=by omega
          have hl3:m+1<L:=by omega
          have hl4:m+1+1<L:=by omega
          have hc1:(w.alloc (.cells #[.string f,.int .i64 e,.slice (some ad') L cap,.int .i64 c,.int .i64 u] 45)).cell? ⟨ad'.block,ad'.off+(m+1+1),none⟩=some (.int .i64 d):=hcell
          have hc0:(w.alloc (.cells #[.string f,.int .i64 e,.slice (some ad') L cap,.int .i64 c,.int .i64 u] 45)).cell? ⟨ad'.block,ad'.off+(m+1),none⟩=some (.int .i64 d'):=hcell'
          clear hcell hcell'
          by_cases hx:d'<d
          ·have HN':Hid (_):=HN.out hx
           clear HF HN
           go_wp2_with (fail)
           go_quiet (fail)
           go_wp2
           go_roundw
           case rel=>exact ⟨m+1+1,_,by omega,by go_num,rfl,HN'.out⟩
           case measure=>simp [intOf];omega
          ·have HF':Hid (k=8):=HF.out hx
           clear HF HN
           have hx':d≤d':=by omega
           go_wp2_with (fail)
           go_quiet (fail)
           go_wp2
           go_ret
           exact ⟨ze HF'.out.symm,zB (zC _ _) (zB (zN _ _) (zN _ _))⟩
        ·have K0:Hid (k=0):=F0'.out HSH.out (fun t ht=>HA.out t (by omega))
         clear HA
         have hlt': ¬ (m:Int)+1<L:=by omega
         go_wp2
         go_ret
         exact ⟨ze K0.out.symm,zB (zC _ _) (zN _ _)⟩
  all_goals
   go_enter Tryz.func70,Tryz.ntmps70
   go_upto_region 5 with (fail)
   by_cases hbn:bN e c u=true
   case neg=>
    have K2:=hid (F2.out H1.out hbn)
    have hex: ¬ (1≤e∧e≤100∧0≤c∧c≤1000∧ -1≤u∧u≤73048):=fun h=>hbn ((zaG e c u).2 h)
    have hc3: ¬ (1≤e∧e≤100)∨((1≤e∧e≤100)∧ ¬ (0≤c∧c≤1000))∨((1≤e∧e≤100)∧(0≤c∧c≤1000)∧ ¬ (-1≤u∧u≤73048)):=by omega
    clear hbn hex
    have J1:=fun w=>jp e 1 100 w
    have J2:=fun w=>jp c 0 1000 w
    have J3:=fun w=>jp u (-1) 73048 w
    rcases hc3 with g1|⟨g1,g2⟩|⟨g1,g2,g3⟩
    case' inl=>
     simp only [decide_eq_false g1] at J1
     generalize decide (0≤c∧c≤1000)=B2 at J2
     generalize decide (-1≤u∧u≤73048)=B3 at J3
    case' inr.inl=>
     simp only [decide_eq_true g1] at J1
     simp only [decide_eq_false g2] at J2
     generalize decide (-1≤u∧u≤73048)=B3 at J3
    case' inr.inr=>
     simp only [decide_eq_true g1] at J1
     simp only [decide_eq_true g2] at J2
     simp only [decide_eq_false g3] at J3
    all_goals
     have L1:Hid (_):=J1
     have L2:Hid (_):=J2
     have L3:Hid (_):=J3
     clear J1 J2 J3
     go_wp2_with (first
       |(go_at_call_of 69 (Value.int .i64 e);refine (L1.out _).mono ?_;rintro r w' ⟨rfl,rfl⟩)
       |(go_at_call_of 69 (Value.int .i64 c);refine (L2.out _).mono ?_;rintro r w' ⟨rfl,rfl⟩)
       |(go_at_call_of 69 (Value.int .i64 u);refine (L3.out _).mono ?_;rintro r w' ⟨rfl,rfl⟩))
     go_ret
     exact ⟨ze K2.out.symm,zC _ _⟩
   case pos=>
    obtain ⟨g1,g2,g3,g4,g5,g6⟩:=(zaG e c u).1 hbn
    have HBN:Hid (_):=hbn
    have L1:Hid (∀ w,_):=fun w=>in_yes e 1 100 w g1 g2
    have L2:Hid (∀ w,_):=fun w=>in_yes c 0 1000 w g3 g4
    have L3:Hid (∀ w,_):=fun w=>in_yes u (-1) 73048 w g5 g6
    clear hbn
    go_upto_region 10 with (first
      |(go_at_call_of 69 (Value.int .i64 e);refine (L1.out _).mono ?_;rintro r w' ⟨rfl,rfl⟩)
      |(go_at_call_of 69 (Value.int .i64 c);refine (L2.out _).mono ?_;rintro r w' ⟨rfl,rfl⟩)
      |(go_at_call_of 69 (Value.int .i64 u);refine (L3.out _).mono ?_;rintro r w' ⟨rfl,rfl⟩))
    clear L1 L2 L3
    go_wp2
    go_loop [8] (fun i=> ∃ j:Nat,j≤L∧i= .int .i64 j∧Hid (∀ t,t<j→0≤z t∧z t≤6)) (fun i=>L - (intOf i).toNat)
    case atStart=>exact ⟨0,Nat.zero_le _,rfl,fun t h=>absurd h (Nat.not_lt_zero _)⟩
    case round=>
     obtain ⟨j,hj,rfl,HA⟩:=hrel
     by_cases hlt:j<L
     ·obtain ⟨ad,rfl,hcell⟩:=HC.out j hlt
      have HN:Hid (0≤z j→z j≤6→ ∀ t,t<j+1→0≤z t∧z t≤6):=fun q0 q6 t htj=>by
       by_cases et:t=j
       ·subst et;exact ⟨q0,q6⟩
       ·exact HA.out t (by omega)
      have HF:Hid (¬ (0≤z j∧z j≤6)→k=2):=fun hx=>F3.out H1.out j hlt hx
      clear HA
      generalize z j=d at hcell HN HF
      by_cases q0:d<0
      ·have HF':Hid (k=2):=HF.out (by omega)
       clear HF HN
       go_wp2
       go_ret
       exact ⟨ze HF'.out.symm,zC _ _⟩
      ·by_cases q6:6<d
       ·have HF':Hid (k=2):=HF.out (by omega)
        clear HF HN
        go_wp2
        go_ret
        exact ⟨ze HF'.out.symm,zC _ _⟩
       ·have HN':Hid (_):=HN.out (by omega) (by omega)
        clear HF HN
        go_wp2
        go_round
        case rel=>exact ⟨j+1,by omega,by go_num,HN'.out⟩
        case measure=>simp [intOf];omega
     ·have HBD:Hid (∀ t,t<L→0≤z t∧z t≤6):=fun t ht=>HA.out t (by omega)
      have F4':Hid (¬ shp (f.toList==[111,110,99,101]) (f.toList==[119,101,101,107,108,121]) e c u L→k=3):=F4.out H1.out HBN.out HBD.out
      have F0':Hid (shp (f.toList==[111,110,99,101]) (f.toList==[119,101,101,107,108,121]) e c u L→(∀ t,t+1<L→z t<z (t+1))→k=0):=F0.out H1.out HBN.out HBD.out
      have F5':Hid (shp (f.toList==[111,110,99,101]) (f.toList==[119,101,101,107,108,121]) e c u L→ ∀ t,t+1<L→z (t+1)≤z t→k=8):=F5.out H1.out HBN.out HBD.out
      clear HA F0 F2 F3 F4 F5
      by_cases r4:L=0
      ·subst r4
       by_cases r2:0<c
       ·by_cases r3:u= -1
        ·have b_u:(u != -1)=false:=by rw [r3];rfl
         have K0:Hid (k=0):=F0'.out ⟨fun q=>(by rw [b1] at q;exact absurd q (by decide)),fun _=>rfl,.inr r3⟩ (fun t ht=>by omega)
         clear r3
         go_wp2
         go_loop [9] (fun i=>i= .int .i64 1) (fun _=>0)
         case atStart=>rfl
         case round=>
          subst hrel
          go_wp2
          go_ret
          exact ⟨ze K0.out.symm,zC _ _⟩
        ·have b_u:(u != -1)=true:=by rw [bne_iff_ne];exact r3
         have K3:Hid (k=3):=F4'.out (fun h=>by rcases h.2.2 with q|q<;>omega)
         clear r3
         go_wp2
         go_ret
         exact ⟨ze K3.out.symm,zC _ _⟩
       ·have K0:Hid (k=0):=F0'.out ⟨fun q=>(by rw [b1] at q;exact absurd q (by decide)),fun _=>rfl,.inl (by omega)⟩ (fun t ht=>by omega)
        have r2':c≤0:=by omega
        clear r2
        go_wp2
        go_loop [9] (fun i=>i= .int .i64 1) (fun _=>0)
        case atStart=>rfl
        case round=>
         subst hrel
         go_wp2
         go_ret
         exact ⟨ze K0.out.symm,zC _ _⟩
      ·have hl:(0:Int)<L:=by omega
       have hl':0<L:=by omega
       have K3:Hid (k=3):=F4'.out (fun h=>r4 (h.2.1 b3))
       clear r4
       go_wp2
       go_ret
       exact ⟨ze K3.out.symm,zC _ _⟩
theorem yf(f:ByteArray)(e:Int)(sl:Value)(c u:Int)(ds:List Int)(k:Int)(w:World)(hg:Got w sl ds)(h20:ds.length≤20)(hk:zbX f e ds c u k):
  Calls Tryz.prog 70 #[rv f e sl c u] w fun r w'=>r= .returned (.int .i64 k)∧Below w.heap.size w w':=by
 obtain ⟨a,cap,rfl,hn,hs⟩:=hg
 refine zei f e a ds.length cap (fun j=>ds.getD j 0) c u k w h20 (zky hk) (fun j hj=> ?_)
 cases a with
 |none=>exact absurd (hn rfl).1 (by omega)
 |some ad=>
  obtain ⟨p1,p2⟩:=hs ad rfl j hj
  refine ⟨ad,rfl,?_⟩
  show _=some (Value.int .i64 (ds.getD j 0))
  rw [zhj hj]
  exact (World.cell?_of_block (a:=ad.add j) ((zC w _).block _ (by rw [zi];exact p1))).trans p2
end Go.Proofs.YtpeafgddbbojaaaGreatDoor
namespace Go.Proofs.YtpeafgddbbojaaaGreatDoor
open Go Go.RowKit Go.Maps Cal
attribute [local go_sem] Oper.semAt_some
def zdh(C:List EV)(E:EV):Prop:=(¬ ∃ F∈C,F.id=E.id)∧60≤C.length
open Classical in
noncomputable def zcU(C:List EV)(E:EV):List EV:=if EW E∧ ¬ zdh C E then jL E C else C
noncomputable def yr(Es:List EV):List EV:=Es.foldl zcU []
theorem ze1{C:List EV}{E:EV}(h: ¬ EW E):zcU C E=C:=by unfold zcU;exact if_neg (fun q=>h q.1)
theorem zdi{C:List EV}{E:EV}(h:zdh C E):zcU C E=C:=by unfold zcU;exact if_neg (fun q=>q.2 h)
theorem ze2{C:List EV}{E:EV}(h:EW E)(h2: ¬ zdh C E):zcU C E=jL E C:=by unfold zcU;exact if_pos ⟨h,h2⟩
theorem zfO{C:List EV}{E:EV}(h:Rises C):Rises (zcU C E):=by
 unfold zcU
 split
 ·exact xo h
 ·exact h
theorem ziT{C:List EV}{E:EV}(hC:Rises C)(h:C.length≤60):(zcU C E).length≤60:=by
 unfold zcU
 split
 ·rename_i hq
  unfold jL
  rw [jl]
  by_cases hx: ∃ F∈C,F.id=E.id
  ·obtain ⟨F,hF,e⟩:=hx
   rw [←e,zg2 hC hF]
   exact h
  ·rw [zcq (fun F hF q=>hx ⟨F,hF,q⟩)]
   have: ¬ 60≤C.length:=fun q=>hq.2 ⟨hx,q⟩
   omega
 ·exact h
theorem zfP(Es:List EV)(E:EV):yr (Es++[E])=zcU (yr Es) E:=by
 unfold yr
 rw [List.foldl_append]
 rfl
theorem fold_ok: ∀ (Es C:List EV),Rises C→C.length≤60→Rises (Es.foldl zcU C)∧(Es.foldl zcU C).length≤60
 |[],_,h1,h2=>⟨h1,h2⟩
 |_::r,_,h1,h2=>fold_ok r _ (zfO h1) (ziT h1 h2)
theorem zaS(Es:List EV):Rises (yr Es)∧(yr Es).length≤60:=fold_ok Es [] List.Pairwise.nil (Nat.zero_le _)
theorem zgW(X:EX): ∀ Xs:List EX,(ins X Xs).map EX.E=zgZ X.E (Xs.map EX.E)
 |[]=>rfl
 |Y::r=>by
  unfold ins
  rw [List.map_cons,zgZ]
  have:X.lt Y=ltE X.E Y.E:=rfl
  rw [this]
  split
  ·rfl
  ·rw [List.map_cons,zgW X r]
theorem zaT(X:EX)(Xs:List EX):(ins X (Xs.filter fun Y=>decide (Y.E.id≠X.E.id))).map EX.E=jL X.E (Xs.map EX.E):=by
 rw [zgW]
 unfold jL woC
 rw [List.filter_map]
 rfl
theorem ze3(X:EX)(Xs:List EX):(∃ Y∈Xs,Y.E.id=X.E.id)↔ ∃ F∈Xs.map EX.E,F.id=X.E.id:=by
 constructor
 ·rintro ⟨Y,hY,q⟩;exact ⟨Y.E,List.mem_map_of_mem hY,q⟩
 ·rintro ⟨F,hF,q⟩
  obtain ⟨Y,hY,rfl⟩:=List.mem_map.1 hF
  exact ⟨Y,hY,q⟩
def XGot(w:World)(X:EX):Prop:=Got w X.sl X.E.ds∧Got w X.skv X.E.sk∧GotM w X.mvv X.E.mv∧zaV X.E=0
theorem XGot.ok{w:World}{X:EX}(h:XGot w X):X.ok:=by
 obtain ⟨a1,c1,e1⟩:=zx h.1
 obtain ⟨a2,c2,e2⟩:=zx h.2.1
 obtain ⟨a3,c3,e3⟩:=zo h.2.2.1
 exact ⟨⟨_,_,_,e1⟩,⟨_,_,_,e2⟩,⟨_,_,_,e3⟩⟩
structure BM(lo:Nat)(w wr:World)(bb bm:Nat)(mo:Option Nat)(n base:Nat)(C:List EV)(vm:Value)(Xs:List EX):Prop where
 book:BookAt lo wr bb mo n C
 cell:wr.heap[bm]? =some (.cells #[vm] 27 (0,0))
 row:MR base wr vm Xs
 hbm:bm<lo
 hbb:bb<bm
 hlo:lo≤base
 map: ∀ mb,mo=some mb→mb<base
 nil:mo=none→vm= .slice none 0 0
 got: ∀ X∈Xs,XGot w X
theorem BM.step{lo:Nat}{w wr w':World}{bb bm:Nat}{mo:Option Nat}{n base:Nat}{C:List EV}{vm:Value}{Xs:List EX}(h:BM lo w wr bb bm mo n base C vm Xs)(hb:Below wr.heap.size wr w'):BM lo w w' bb bm mo n base C vm Xs:=
 ⟨h.book.step hb,(hb.block _ (Array.getElem?_eq_some_iff.1 h.cell).1).trans h.cell,h.row.far (fun k _ hk=>hb.block k hk),h.hbm,h.hbb,h.hlo,h.map,h.nil,h.got⟩
theorem BM.store{lo:Nat}{w W:World}{bb bm:Nat}{mo:Option Nat}{n base base':Nat}{C:List EV}{vm v':Value}{Xs Xs':List EX}(h:BM lo w W bb bm mo n base C vm Xs)(hm:MR base' W v' Xs')(hl:lo≤base')(hmap: ∀ mb,mo=some mb→mb<base')(hne:mo≠none)(hg: ∀ X∈Xs',XGot w X):
  BM lo w (W.setCell ⟨bm,0,none⟩ v') bb bm mo n base' C v' Xs':=
 ⟨h.book.grown (B:=bm) (zG W ⟨bm,0,none⟩ v') h.hbm (by have:=h.hbb;omega),zM (i:=0) _ h.cell,MR.far hm (fun k hk _=>Below.heap_setCell _ _ _ k (by intro q;have q':k=bm:=q;have:=h.hbm;omega)),h.hbm,h.hbb,hl,hmap,fun q=>absurd q hne,hg⟩
theorem BM.put{lo:Nat}{w wr w3 w4:World}{bb bm:Nat}{mo:Option Nat}{n base:Nat}{C C':List EV}{vm:Value}{Xs:List EX}(h:BM lo w wr bb bm mo n base C vm Xs)(hs:Xs.map EX.E=C)(hB:Below w.heap.size w wr)(hwb:w.heap.size≤bb)(hb3:Below wr.heap.size wr w3)(hp:PutTo lo w3 w4 bb mo n C'):
  ∃ mo' base',BM lo w w4 bb bm mo' (n+1) base' C' vm Xs∧Kept wr w4 bb mo∧Below w.heap.size w w4∧w4.heap.size≥wr.heap.size:=by
 obtain ⟨mo',q1,q2,q3⟩:=hp
 have hK:=ji hb3 q2
 have hmo: ∀ mb,mo=some mb→lo≤mb:=by
  obtain ⟨D,_,_,h3,_⟩:=h.book
  exact h3
 have hbm:=h.hbm
 have hbb:=h.hbb
 have hlo:=h.hlo
 have hcell:w4.heap[bm]? =some (.cells #[vm] 27 (0,0)):=(hK.block bm (Array.getElem?_eq_some_iff.1 h.cell).1 (by omega) (fun q=>by have:=hmo bm q.symm;omega)).trans h.cell
 have hBw:Below w.heap.size w w4:=hK.below hB hwb (fun m e=>by have:=hmo m e;omega)
 have hlow:lo≤w4.heap.size:=by
  obtain ⟨D,_,h2,_,_⟩:=q1
  exact h2
 by_cases hn:mo=none
 ·subst hn
  have hC:=h.book.nil
  have hXs:Xs=[]:=by rw [hC] at hs;simpa using hs
  subst hXs
  have hv:=h.nil rfl
  subst hv
  exact ⟨mo',w4.heap.size,⟨q1,hcell,MR.nil _ _,hbm,hbb,hlow,fun mb e=>q1.lt.2 mb e,fun _=>rfl,h.got⟩,hK,hBw,hK.size⟩
 ·have hmm:mo'=mo:=by
   rcases q3 with q|q
   ·exact q
   ·exact absurd q.1 hn
  subst hmm
  exact ⟨mo',base,⟨q1,hcell,h.row.far (fun k hk hlt=>hK.block k hlt (by omega) (fun q=>by have:=h.map k q.symm;omega)),hbm,hbb,hlo,h.map,fun q=>absurd q hn,h.got⟩,hK,hBw,hK.size⟩
theorem jj{w W:World}{B:Nat}{v:Value}(h:Below w.heap.size w W)(hB:w.heap.size≤B):Below w.heap.size w (W.setCell ⟨B,0,none⟩ v):=by
 have g1:=zG W ⟨B,0,none⟩ v
 exact ⟨g1.os.trans h.os,g1.tape.trans h.tape,g1.output.trans h.output,Nat.le_trans h.size g1.size,fun k hk=>(g1.block k (Nat.lt_of_lt_of_le hk h.size) (fun q=>by have:k=B:=Option.some.inj q;omega)).trans (h.block k hk)⟩
theorem MPutIs.move{b b0:Nat}{v v':Value}{Xs:List EX}{X:EX}{k k':Int}{W W':World}(h:MPutIs b v Xs X k v' k' W)(hb:b0≤b)(hk: ∀ j,b≤j→j<W.heap.size→W'.heap[j]? =W.heap[j]?):MPutIs b0 v Xs X k v' k' W':=by
 rcases h with h|h|⟨h1,h2,h3,h4⟩
 ·exact .inl h
 ·exact .inr (.inl h)
 ·exact .inr (.inr ⟨h1,h2,h3,zW (MR.far h4 hk) hb⟩)
theorem BookAt.low{lo lo':Nat}{W:World}{bb:Nat}{mo:Option Nat}{n:Nat}{C:List EV}(h:BookAt lo W bb mo n C)(hl:lo'≤lo):BookAt lo' W bb mo n C:=by
 obtain ⟨D,h1,h2,h3,h4⟩:=h
 refine ⟨D,h1,Nat.le_trans hl h2,fun mb e=>Nat.le_trans hl (h3 mb e),h4.up,h4.tidy,h4.size,h4.has,fun E hE=> ?_⟩
 obtain ⟨q,sl,skv,mvv,q1,q2⟩:=h4.at_ E hE
 exact ⟨q,sl,skv,mvv,q1,q2.mono (fun k hk=>hk.imp (fun z=>Nat.lt_of_lt_of_le z hl) id)⟩
theorem zgX(lo bb n:Nat)(mo:Option Nat)(C:List EV)(E:EV)(sl skv mvv:Value)(k:Int)(s:Nat→Addr)(w:World)(g:GlobK s w)(h:BookAt lo w bb mo n C)(hn:n≤90000)(hi:E.id.size≤60)(ht:E.ti.size≤60)(hL:Ls w E sl skv mvv)(hk:EvK E k):
  Calls Tryz.prog 12 #[.pointer (some ⟨bb,0,none⟩),ev E sl skv mvv] w fun r w'=> ∃ v,r= .returned v∧PutTo lo w w' bb mo n (zcU C E):=by
 refine Calls.mono (zkg lo bb n mo C E sl skv mvv k s w g h hn hi ht hL hk) ?_
 rintro r w' (⟨q0,rfl,hb⟩|⟨q0,q1,rfl,hb⟩|⟨q0,q1,rfl,hb⟩)
 ·refine ⟨_,rfl,mo,?_,⟨hb.os,hb.tape,hb.output,hb.size,fun k hk _ _=>hb.block k hk⟩,.inl rfl⟩
  rw [ze1 (fun q=>q0 ((jM hk).2 q))]
  obtain ⟨D,h1,h2,h3,h4⟩:=h.step hb
  exact ⟨D,zaR h1 (by omega),h2,h3,h4⟩
 ·refine ⟨_,rfl,mo,?_,⟨hb.os,hb.tape,hb.output,hb.size,fun k hk _ _=>hb.block k hk⟩,.inl rfl⟩
  rw [zdi q1]
  obtain ⟨D,h1,h2,h3,h4⟩:=h.step hb
  exact ⟨D,zaR h1 (by omega),h2,h3,h4⟩
 ·refine ⟨_,rfl,?_⟩
  rw [ze2 ((jM hk).1 q0) q1]
  exact hb
set_option maxHeartbeats 4000000 in
set_option maxRecDepth 100000 in
theorem zfQ(Es:List EV)(v:Value)(s:Nat→Addr)(w:World)(g:GlobK s w)(hE:EvsL w v Es)(h70:Es.length≤70)(hl: ∀ E∈Es,zaV E=0):
  Calls Tryz.prog 6 #[v] w fun r w'=> ∃ bb mo n vm Xs,r= .returned (.tuple #[.pointer (some ⟨bb,0,none⟩),.agg #[vm]])∧w.heap.size≤bb∧BookAt w.heap.size w' bb mo n (yr Es)∧n≤70∧MR w.heap.size w' vm Xs∧Xs.map EX.E=yr Es∧(∀ X∈Xs,XGot w X)∧Below w.heap.size w w':=by
 obtain ⟨a,cap,rfl,hlE,hcap,hc⟩:=hE
 have HC:Hid (_):=hc
 have HG:=hid g
 have HL:=hid hl
 clear hc g hl
 have hA0:=zC w (.cells #[.slice none 0 0] 27)
 have k3:(w.alloc (.cells #[.slice none 0 0] 27)).heap[w.heap.size]? =some (.cells #[.slice none 0 0] 27 (0,0)):=zJ _ rfl
 have hz0:(w.alloc (.cells #[.slice none 0 0] 27)).heap.size=w.heap.size+1:=World.size_alloc _ _
 have NW:=hid (zal (w.alloc (.cells #[.slice none 0 0] 27)))
 rw [hz0] at NW
 go_enter Tryz.func6,Tryz.ntmps6
 generalize hw0:w.alloc (.cells #[.slice none 0 0] 27)=w0 at hA0 k3 hz0 NW
 go_upto_region 2 with (go_at_call 11;refine Calls.mono NW.out ?_;rintro r w1 ⟨rfl,hbk1,hb1⟩)
 have hb1':Below w0.heap.size w0 w1:=by rw [hz0];exact hb1
 have s1:w.heap.size+1<w1.heap.size:=hbk1.lt.1
 have BK2:Hid (BookAt (w1.heap.size+1) (w1.alloc (.cells #[.slice none 0 0] 27)) (w.heap.size+1) none 0 []):=(hbk1.step (zC _ _)).lift (by rw [World.size_alloc];omega)
 have K3:Hid ((w1.alloc (.cells #[.slice none 0 0] 27)).heap[w.heap.size]? =some (.cells #[.slice none 0 0] 27 (0,0))):=zH _ ((hb1'.block _ (by omega)).trans k3)
 have K5:Hid ((w1.alloc (.cells #[.slice none 0 0] 27)).heap[w1.heap.size]? =some (.cells #[.slice none 0 0] 27 (0,0))):=zJ _ rfl
 have B2:Hid (Below w.heap.size w (w1.alloc (.cells #[.slice none 0 0] 27))):=zB (zB hA0 hb1') (zC _ _)
 have hz2:(w1.alloc (.cells #[.slice none 0 0] 27)).heap.size=w1.heap.size+1:=World.size_alloc _ _
 clear hA0 k3 hz0 NW hbk1 hb1 hb1' hw0
 go_wp2
 generalize hw2:w1.alloc (.cells #[.slice none 0 0] 27)=w2 at BK2 K3 K5 B2 hz2 ⊢
 clear hw2
 go_loopw [6] (fun i wr=> ∃ m:Nat,m≤Es.length∧i= .int .i64 m∧Hid (∃ mo n base vm Xs,BM (w1.heap.size+1) w wr (w.heap.size+1) w1.heap.size mo n base (yr (Es.take m)) vm Xs∧Xs.map EX.E=yr (Es.take m)∧n≤m∧wr.heap[w.heap.size]? =some (.cells #[.slice none 0 0] 27 (0,0))∧Below w.heap.size w wr)) (fun i _=>Es.length - (intOf i).toNat)
 case atStart=>exact ⟨0,Nat.zero_le _,rfl,none,0,w1.heap.size+1,.slice none 0 0,[],⟨BK2.out,K5.out,MR.nil _ _,Nat.lt_succ_self _,s1,Nat.le_refl _,(fun mb e=>by cases e),fun _=>rfl,fun X hX=>absurd hX (by simp)⟩,rfl,Nat.le_refl _,K3.out,B2.out⟩
 case round=>
  obtain ⟨m,hm,rfl,HV⟩:=hrel
  by_cases hlt:m<Es.length
  ·obtain ⟨mo,n,base,vm,Xs,hBM,hsm,hn,hk3,hB⟩:=HV.out
   obtain ⟨ad,rfl,_,_,_,ra,rc,sa,sc,ma,mc,hEA,hgd,hgs,hgm⟩:=HC.out m hlt
   have hlg:zaV Es[m]=0:=HL.out _ (List.getElem_mem hlt)
   have htk:yr (Es.take (m+1))=zcU (yr (Es.take m)) Es[m]:=by rw [List.take_succ_eq_append_getElem hlt,zfP]
   have hXG:XGot w ⟨Es[m],.slice ra Es[m].ds.length rc,.slice sa Es[m].sk.length sc,.slice ma Es[m].mv.length mc⟩:=⟨hgd,hgs,hgm,hlg⟩
   have HTK:=hid htk
   clear htk HV
   generalize Es[m]=E at hEA hgd hgs hgm hlg HTK hXG
   have HSZ:Hid (w2.heap.size≤wr.heap.size):=by
    show w2.heap.size≤wr.heap.size
    rw [hz2]
    exact (Array.getElem?_eq_some_iff.1 hBM.cell).1
   have HC60:Hid ((yr (Es.take m)).length≤60):=(zaS _).2
   generalize yr (Es.take m)=C at HC60 hBM HTK hsm
   have HSM:=hid hsm
   clear hsm
   obtain ⟨k,hk⟩:=vV E
   obtain ⟨kr,hkr⟩:=jP E.f E.e E.ds E.c E.u
   obtain ⟨l1,l2,l3,l4,l5,l6⟩:=zg8 hlg
   have hEAr:=hEA.step hB
   have HOE:=hid (zdn E (.slice ra E.ds.length rc) (.slice sa E.sk.length sc) (.slice ma E.mv.length mc) wr (hgd.step hB) (hgs.step hB) (hgm.step hB) l2 (by omega) (by omega))
   have HPUT:Hid (∀ (W:World) (sl skv mvv:Value),Below wr.heap.size wr W→Lists W E sl skv mvv→Calls Tryz.prog 12 #[.pointer (some ⟨w.heap.size+1,0,none⟩),ev E sl skv mvv] W fun r w'=> ∃ v,r= .returned v∧PutTo (w1.heap.size+1) W w' (w.heap.size+1) mo n (zcU C E)):=fun W sl skv mvv hW hLs=>zgX _ _ n mo C E sl skv mvv k s W (HG.out.step (zB hB hW)) (hBM.book.step hW) (by omega) (by omega) (by omega) ⟨hLs.d,hLs.s,hLs.m⟩ hk
   have HEE:Hid (∀ W,Below w.heap.size w W→Calls Tryz.prog 39 #[ev E (.slice ra E.ds.length rc) (.slice sa E.sk.length sc) (.slice ma E.mv.length mc)] W fun r w'=>r= .returned (.int .i64 k)∧Below W.heap.size W w'):=fun W hW=>yx E (.slice ra E.ds.length rc) (.slice sa E.sk.length sc) (.slice ma E.mv.length mc) k kr W (hgd.step hW) (hgs.step hW) (hgm.step hW) (by omega) (by omega) (by omega) (by omega) hkr hk (fun W' hG=>yf E.f E.e _ E.c E.u E.ds kr W' hG l2 hkr)
   have hkb:=zjR hk
   have HK0:=hid (jM hk)
   have HXG:=hid hXG
   have HEA:=hid hEA
   have HBM:Hid (_):=hBM
   have HK3:Hid (_):=hk3
   have HB:=hid hB
   unfold ev at HOE HPUT
   obtain ⟨x0,x1,x2,x3,x4,x5,x6,x7,x8,x9,x10⟩:=hEAr
   clear hBM hk3 hB hXG hEA hgd hgs hgm hk hkr HC HL HG
   go_upto_region 7 with (first
    |(go_at_call 17;refine Calls.mono HOE.out ?_;rintro r w3 ⟨sl3,sk3,mv3,rfl,hLs3,hb3⟩;have PT:=hid (HPUT.out w3 sl3 sk3 mv3 hb3 hLs3);obtain ⟨r3,rc3,rfl⟩:=zx hLs3.gd;obtain ⟨s3,sc3,rfl⟩:=zx hLs3.gs;obtain ⟨m3,mc3,rfl⟩:=zo hLs3.gm)
    |(go_at_call 12;refine Calls.mono PT.out ?_;rintro r w4 ⟨v4,rfl,hPT⟩))
   obtain ⟨mo4,base4,hBM4,_,hB4,hs4⟩:=HBM.out.put HSM.out HB.out (Nat.le_succ _) hb3 hPT
   have hk34:w4.heap[w.heap.size]? =some (.cells #[.slice none 0 0] 27 (0,0)):=by
    refine (Kept.block (bb:=w.heap.size+1) (mo:=mo) (ji hb3 ?_) w.heap.size ?_ (by omega) (fun q=> ?_)).trans HK3.out
    ·obtain ⟨_,_,q,_⟩:=hPT;exact q
    ·exact (Array.getElem?_eq_some_iff.1 HK3.out).1
    ·obtain ⟨D,_,_,h3,_⟩:=HBM.out.book
     have:=h3 _ q.symm
     omega
   have HBM4:Hid (_):=hBM4
   have HMB4:Hid (∀ mb,mo4=some mb→mb<w4.heap.size):=fun mb e=>hBM4.book.lt.2 mb e
   have HB4:=hid hB4
   have HK34:Hid (_):=hk34
   obtain ⟨oa,oc,rfl,_,_⟩:=hBM4.row.form
   have hXl:Xs.length≤1000:=by
    have h1:=congrArg List.length HSM.out
    have h2:=HBM.out.book
    rw [List.length_map] at h1
    have:C.length≤60:=HC60.out
    omega
   have HMP:Hid (∀ W,Below w4.heap.size w4 W→Calls Tryz.prog 18 #[.agg #[.slice oa Xs.length oc],ev E (.slice ra E.ds.length rc) (.slice sa E.sk.length sc) (.slice ma E.mv.length mc)] W fun r w'=> ∃ a' n' c' k',r= .returned (.tuple #[.agg #[.slice a' n' c'],.int .i64 k'])∧Below W.heap.size W w'∧MPutIs W.heap.size (.slice oa Xs.length oc) Xs ⟨E,.slice ra E.ds.length rc,.slice sa E.sk.length sc,.slice ma E.mv.length mc⟩ k (.slice a' n' c') k' w'):=fun W hW=>zco base4 E ra _ rc sa _ sc ma _ mc _ Xs k W (hBM4.row.far (fun k _ hk=>hW.block k hk)) hXl (fun X hX=>(HBM.out.got X hX).ok) hkb (fun W' hW'=>HEE.out W' (zB hB4 (zB hW hW')))
   unfold ev at HMP
   have cM:=zR hBM4.cell
   clear x0 x1 x2 x3 x4 x5 x6 x7 x8 x9 x10 HOE HPUT PT HEE hPT hLs3
   obtain ⟨x0,x1,x2,x3,x4,x5,x6,x7,x8,x9,x10⟩:=HEA.out.step hB4
   have KS:Hid (∀ W,Below w4.heap.size w4 W→Below w4.heap.size w4 W∧W.cell? ⟨w1.heap.size,0,none⟩=some (.slice oa Xs.length oc)∧W.cell? (ad.add (m*11))=some (.string E.id)∧W.cell? ⟨(ad.add (m*11)).block,(ad.add (m*11)).off+1,none⟩=some (.string E.ti)∧W.cell? ⟨(ad.add (m*11)).block,(ad.add (m*11)).off+2,none⟩=some (.int .i64 E.st)∧W.cell? ⟨(ad.add (m*11)).block,(ad.add (m*11)).off+3,none⟩=some (.int .i64 E.lg)∧W.cell? ⟨(ad.add (m*11)).block,(ad.add (m*11)).off+4,none⟩=some (.string E.f)∧W.cell? ⟨(ad.add (m*11)).block,(ad.add (m*11)).off+5,none⟩=some (.int .i64 E.e)∧W.cell? ⟨(ad.add (m*11)).block,(ad.add (m*11)).off+6,none⟩=some (.slice ra E.ds.length rc)∧W.cell? ⟨(ad.add (m*11)).block,(ad.add (m*11)).off+7,none⟩=some (.int .i64 E.c)∧W.cell? ⟨(ad.add (m*11)).block,(ad.add (m*11)).off+8,none⟩=some (.int .i64 E.u)∧W.cell? ⟨(ad.add (m*11)).block,(ad.add (m*11)).off+9,none⟩=some (.slice sa E.sk.length sc)∧W.cell? ⟨(ad.add (m*11)).block,(ad.add (m*11)).off+10,none⟩=some (.slice ma E.mv.length mc)):=fun W hW=>⟨hW,zD cM hW,zj x0 hW,zj x1 hW,zj x2 hW,zj x3 hW,zj x4 hW,zj x5 hW,zj x6 hW,zj x7 hW,zj x8 hW,zj x9 hW,zj x10 hW⟩
   clear hBM4 hk34 hB4
   go_cut [7,8] (fun v7 v8 wx=> ∃ (bx n' c':Nat) (a':Option Addr) (k':Int),v7= .pointer (some ⟨bx,0,none⟩)∧v8= .int .i64 k'∧Hid (Below w4.heap.size w4 wx∧wx.heap[bx]? =some (.cells #[.slice a' n' c'] 27 (0,0))∧MPutIs w4.heap.size (.slice oa Xs.length oc) Xs ⟨E,.slice ra E.ds.length rc,.slice sa E.sk.length sc,.slice ma E.mv.length mc⟩ k (.slice a' n' c') k' wx))
   case first=>
    go_region_held3 (fun W=>Below w4.heap.size w4 W∧W.cell? ⟨w1.heap.size,0,none⟩=some (.slice oa Xs.length oc)∧W.cell? (ad.add (m*11))=some (.string E.id)∧W.cell? ⟨(ad.add (m*11)).block,(ad.add (m*11)).off+1,none⟩=some (.string E.ti)∧W.cell? ⟨(ad.add (m*11)).block,(ad.add (m*11)).off+2,none⟩=some (.int .i64 E.st)∧W.cell? ⟨(ad.add (m*11)).block,(ad.add (m*11)).off+3,none⟩=some (.int .i64 E.lg)∧W.cell? ⟨(ad.add (m*11)).block,(ad.add (m*11)).off+4,none⟩=some (.string E.f)∧W.cell? ⟨(ad.add (m*11)).block,(ad.add (m*11)).off+5,none⟩=some (.int .i64 E.e)∧W.cell? ⟨(ad.add (m*11)).block,(ad.add (m*11)).off+6,none⟩=some (.slice ra E.ds.length rc)∧W.cell? ⟨(ad.add (m*11)).block,(ad.add (m*11)).off+7,none⟩=some (.int .i64 E.c)∧W.cell? ⟨(ad.add (m*11)).block,(ad.add (m*11)).off+8,none⟩=some (.int .i64 E.u)∧W.cell? ⟨(ad.add (m*11)).block,(ad.add (m*11)).off+9,none⟩=some (.slice sa E.sk.length sc)∧W.cell? ⟨(ad.add (m*11)).block,(ad.add (m*11)).off+10,none⟩=some (.slice ma E.mv.length mc)) ((refine KS.out _ ?_;(first|with_reducible assumption|with_reducible exact zI _|with_reducible exact zB (zC _ _) (zI _)|with_reducible exact zB (zI _) (zC _ _)|with_reducible exact zB hw20 (zC _ _)|exact jj hw20 (Nat.le_refl _))))
     ((go_at_call 18;refine Calls.mono (HMP.out _ ?_) ?_;(first|with_reducible assumption|with_reducible exact zI _|with_reducible exact zB (zC _ _) (zI _)|with_reducible exact zB (zI _) (zC _ _));rintro r w20 ⟨a',n',c',k',rfl,hb20,hIs⟩;have hw20:Below w4.heap.size w4 w20:=(by first|with_reducible exact zB (zI _) hb20|with_reducible exact zB (zB (zC _ _) (zI _)) hb20|with_reducible exact zB (zB (zI _) (zC _ _)) hb20);try (have zb:w20.heap[w4.heap.size]? =some (.cells #[.slice none 0 0] 27 (0,0)):=(hb20.block _ (show w4.heap.size<(w4.alloc _).heap.size from (Nat.lt_of_lt_of_eq (Nat.lt_succ_self _) (World.size_alloc _ _).symm))).trans (zJ (W:=w4) _ rfl);have zc:=zR zb;have zf:=zF zb 0)))
    all_goals
     go_wp2_with fail
     go_meet
     case rel=>
      first
       |exact ⟨w20.heap.size,n',c',a',k',rfl,rfl,zB hw20 (zC _ _),zJ _ rfl,hIs.move (Nat.le_refl _) (fun j _ hj=>(zC w20 _).block j hj)⟩
       |exact ⟨w4.heap.size,n',c',a',k',rfl,rfl,jj hw20 (Nat.le_refl _),zM (i:=0) _ zb,hIs.move (b0:=w4.heap.size) (Nat.le_of_lt (show w4.heap.size<(w4.alloc _).heap.size from (Nat.lt_of_lt_of_eq (Nat.lt_succ_self _) (World.size_alloc _ _).symm))) (fun j hj _=>Below.heap_setCell _ _ _ j (by intro q;have q':j=w4.heap.size:=q;have hj':(w4.alloc (.cells #[.slice none 0 0] 27)).heap.size≤j:=hj;rw [World.size_alloc] at hj';omega))⟩
   case rest=>
    obtain ⟨bx,n',c',a',k',rfl,rfl,HW⟩:=hcut
    obtain ⟨hBx,hcx,hIs⟩:=HW.out
    have hBMc:=HBM4.out.step hBx
    have hBc:Below w.heap.size w wc:=zB HB4.out hBx
    have hk3c:wc.heap[w.heap.size]? =some (.cells #[.slice none 0 0] 27 (0,0)):=(hBx.block _ (Array.getElem?_eq_some_iff.1 HK34.out).1).trans HK34.out
    clear x0 x1 x2 x3 x4 x5 x6 x7 x8 x9 x10 KS HMP cM HW HBM4 HB4 HK34
    rcases hIs with ⟨q0,rfl,q2⟩|⟨q0,q1,rfl,q3⟩|⟨q0,q1,rfl,q3⟩
    ·have HR:Hid (∃ mo n base vm Xs,BM (w1.heap.size+1) w wc (w.heap.size+1) w1.heap.size mo n base (yr (Es.take (m+1))) vm Xs∧Xs.map EX.E=yr (Es.take (m+1))∧n≤m+1∧wc.heap[w.heap.size]? =some (.cells #[.slice none 0 0] 27 (0,0))∧Below w.heap.size w wc):=⟨mo4,n+1,base4,_,Xs,by rw [HTK.out];exact hBMc,by rw [HTK.out,ze1 (fun z=>q0 (HK0.out.2 z))];exact HSM.out,by omega,hk3c,hBc⟩
     have hkp:1≤k':=by omega
     clear hBMc hBc hk3c hcx q2 q0
     go_wp2
     go_roundw
     case rel=>exact ⟨m+1,by omega,by go_num,HR.out⟩
     case measure=>simp [intOf];omega
    ·have HR:Hid (∃ mo n base vm Xs,BM (w1.heap.size+1) w wc (w.heap.size+1) w1.heap.size mo n base (yr (Es.take (m+1))) vm Xs∧Xs.map EX.E=yr (Es.take (m+1))∧n≤m+1∧wc.heap[w.heap.size]? =some (.cells #[.slice none 0 0] 27 (0,0))∧Below w.heap.size w wc):=by
      have hfull:zdh C E:=by
       have h1:=q1
       rw [ze3,HSM.out,←List.length_map (f:=EX.E),HSM.out] at h1
       exact h1
      exact ⟨mo4,n+1,base4,_,Xs,by rw [HTK.out];exact hBMc,by rw [HTK.out,zdi hfull];exact HSM.out,by omega,hk3c,hBc⟩
     clear hBMc hBc hk3c hcx q1 q3 q0
     go_wp2
     go_roundw
     case rel=>exact ⟨m+1,by omega,by go_num,HR.out⟩
     case measure=>simp [intOf];omega
    ·have hnf: ¬ zdh C E:=fun z=>q1 (by rw [ze3,HSM.out,←List.length_map (f:=EX.E),HSM.out];exact z)
     have hput:zcU C E=jL E C:=ze2 (HK0.out.1 q0) hnf
     have hmne:mo4≠none:=fun z=>by
      subst z
      have h1:=hBMc.book.nil
      rw [hput] at h1
      have:E∈jL E C:=yY.2 (.inl rfl)
      rw [h1] at this
      cases this
     have hlo4:w1.heap.size+1≤w4.heap.size:=Nat.le_trans (by rw [←hz2];exact Nat.le_refl _) (Nat.le_trans HSZ.out hs4)
     have hst:=hBMc.store (v':= .slice a' n' c') q3 hlo4 HMB4.out hmne (fun X hX=>by
      rcases jK.1 hX with rfl|hX'
      ·exact HXG.out
      ·exact HBM.out.got X (List.mem_filter.1 hX').1)
     have HR:Hid (∃ mo n base vm Xs,BM (w1.heap.size+1) w (wc.setCell ⟨w1.heap.size,0,none⟩ (.slice a' n' c')) (w.heap.size+1) w1.heap.size mo n base (yr (Es.take (m+1))) vm Xs∧Xs.map EX.E=yr (Es.take (m+1))∧n≤m+1∧(wc.setCell ⟨w1.heap.size,0,none⟩ (.slice a' n' c')).heap[w.heap.size]? =some (.cells #[.slice none 0 0] 27 (0,0))∧Below w.heap.size w (wc.setCell ⟨w1.heap.size,0,none⟩ (.slice a' n' c'))):=⟨mo4,n+1,_,_,_,by rw [HTK.out];exact hst,by rw [HTK.out,hput,zaT,HSM.out],by omega,(Below.heap_setCell _ _ _ _ (by intro z;have z':w.heap.size=w1.heap.size:=z;omega)).trans hk3c,jj hBc (by omega)⟩
     have cM2:=zR hBMc.cell
     have fM2:=zF hBMc.cell 0
     have cX2:=zR hcx
     clear hBMc hBc hk3c hcx q1 q3 q0 hst hput hnf
     go_wp2
     go_roundw
     case rel=>exact ⟨m+1,by omega,by go_num,HR.out⟩
     case measure=>simp [intOf];omega
  ·obtain ⟨mo,n,base,vm,Xs,hBM,hsm,hn,hk3,hB⟩:=HV.out
   have hfin:Es.take m=Es:=List.take_of_length_le (by omega)
   rw [hfin] at hBM hsm
   obtain ⟨oa,oc,rfl,_,_⟩:=hBM.row.form
   have cM:=zR hBM.cell
   have cR:=zR hk3
   have fR:=zF hk3 0
   have hMl:MR base wr (.slice oa Xs.length oc) Xs:=hBM.row
   have FIN:Hid (∀ W,Below wr.heap.size wr W→(W.setCell ⟨w.heap.size,0,none⟩ (.slice oa Xs.length oc)).cell? ⟨w.heap.size,0,none⟩=some (.slice oa Xs.length oc)∧BookAt w.heap.size (W.setCell ⟨w.heap.size,0,none⟩ (.slice oa Xs.length oc)) (w.heap.size+1) mo n (yr Es)∧MR w.heap.size (W.setCell ⟨w.heap.size,0,none⟩ (.slice oa Xs.length oc)) (.slice oa Xs.length oc) Xs∧Below w.heap.size w (W.setCell ⟨w.heap.size,0,none⟩ (.slice oa Xs.length oc))):=fun W hW=>by
    have hbW:=hBM.step hW
    have k3:=(hW.block _ (Array.getElem?_eq_some_iff.1 hk3).1).trans hk3
    have hlo:=hbW.hlo
    refine ⟨zR (zM (i:=0) _ k3),(hbW.book.grown (B:=w.heap.size) (zG W ⟨w.heap.size,0,none⟩ _) (by omega) (by omega)).low (by omega),zW (MR.far hbW.row (fun j hj _=>Below.heap_setCell _ _ _ j (by intro q;have q':j=w.heap.size:=q;omega))) (by omega),jj (zB hB hW) (Nat.le_refl _)⟩
   have HSM:Hid (_):=hsm
   have HGOT:=hid hBM.got
   have HN:Hid (n≤70):=by show n≤70;omega
   clear HV HC HL HG hBM hsm hk3 hB hfin hMl
   go_wp2_with fail
   go_region
   all_goals
    obtain ⟨c1,b1,m1,bl1⟩:=FIN.out wr (Below.refl _ _)
    have cD:=zD c1 (zI _)
    have HB1:Hid (_):=b1
    have HM1:=hid m1
    have HBL:Hid (_):=bl1
    clear c1 b1 m1 bl1 FIN cM cR fR
    go_wp2
    refine bodyPost_ret (v:= .tuple #[.pointer (some ⟨w.heap.size+1,0,none⟩),.agg #[.slice oa Xs.length oc]]) (by simp [results,Tryz.f6,go_sem,cD]) rfl ⟨_,mo,n,_,Xs,rfl,Nat.le_succ _,BookAt.step HB1.out (zI _),HN.out,MR.far HM1.out (fun k _ hk=>(zI _).block k hk),HSM.out,HGOT.out,zB HBL.out (zI _)⟩
theorem ze5{a b:List UInt8}(h:bs a=bs b):a=b:=by
 have:=congrArg (fun x=>x.data.toList) h
 exact this
theorem PutTo.from{lo:Nat}{w w1 w2:World}{bb:Nat}{mo:Option Nat}{n:Nat}{C:List EV}(hb:Below w.heap.size w w1)(h:PutTo lo w1 w2 bb mo n C):PutTo lo w w2 bb mo n C:=by
 obtain ⟨mo',q1,q2,q3⟩:=h
 exact ⟨mo',q1,ji hb q2,q3.imp id (fun q=>⟨q.1,fun mb e=>Nat.le_trans hb.size (q.2 mb e)⟩)⟩
theorem BookAt.more{lo:Nat}{W:World}{bb:Nat}{mo:Option Nat}{n n':Nat}{C:List EV}(h:BookAt lo W bb mo n C)(hn:n≤n'):BookAt lo W bb mo n' C:=by
 obtain ⟨D,h1,h2,h3,h4⟩:=h
 exact ⟨D,zaR h1 hn,h2,h3,h4⟩
theorem zmM{E:EV}(h:EW E):EvK E 0:=by
 obtain ⟨k,hk⟩:=vV E
 have:=(jM hk).2 h
 subst this
 exact hk
structure DC where
 id:ByteArray
 k:Nat
 a:Option EV
 b:Option EV
noncomputable def oT(k:Nat):Option EV→List UInt8
 |none=>[]
 |some E=>cT E k
noncomputable def DC.v(c:DC):Value:=chV c.id (zjQ c.k) (bs (oT c.k c.a)) (bs (oT c.k c.b))
def EOk(id:ByteArray)(E:EV):Prop:=EW E∧E.ds.length≤20∧E.id=id
def DC.ok(c:DC):Prop:=
 match c.a,c.b with
 |some F,some G=>c.k<6∧EOk c.id F∧EOk c.id G
 |some F,none=>c.k=6∧EOk c.id F
 |none,some G=>c.k=6∧EOk c.id G
 |none,none=>False
theorem zg4{E:EV}:eT E≠[]:=by
 unfold eT
 rw [Lib.join_cons]
 intro q
 have:=congrArg List.length q
 rw [List.length_append,Lib.joinTail_length] at this
 simp [pT] at this
end Go.Proofs.YtpeafgddbbojaaaGreatDoor
namespace Go.Proofs.YtpeafgddbbojaaaGreatDoor
open Go Go.RowKit Go.Maps Go.Sort Cal
attribute [local go_sem] Oper.semAt_some
end Go.Proofs.YtpeafgddbbojaaaGreatDoor
namespace Go.Proofs.YtpeafgddbbojaaaGreatDoor
open Go Go.RowKit Go.Maps Cal
attribute [local go_sem] Oper.semAt_some
noncomputable def DC.cells(c:DC):List Value:=[.string c.id,.string (zjQ c.k),.string (bs (oT c.k c.a)),.string (bs (oT c.k c.b))]
end Go.Proofs.YtpeafgddbbojaaaGreatDoor
