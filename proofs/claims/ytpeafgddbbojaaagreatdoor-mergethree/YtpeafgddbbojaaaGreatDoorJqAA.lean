import Derived.Below
import Derived.Test.YtpeafgddbbojaaaGreatDoorProg
import Derived.Test.YtpeafgddbbojaaaGreatDoorMathJqs
import Derived.WalkKit
import Derived.WalkSpells
import Derived.WalkLawsBesides
import Derived.Deep.QuietTactic
import Derived.BigQuiet
import Derived.RangeFuncNested
import Derived.RangeFuncBound
import Derived.RangeFuncCalls
import Derived.RangeFuncLeaves
import Derived.Laws.OwnMore
import Derived.Laws.AppendOwnNone
import Derived.Test.YtpeafgddbbojaaaGreatDoorRows
import Derived.ProofKit
import Derived.LaidMore
import Derived.ChangeSlices
import Derived.Stop.LaidErr
import Derived.Stop.Joined
import Derived.Lib.SlicesCompact
namespace Go.Proofs.YtpeafgddbbojaaaGreatDoor
open Go Go.RowKit
theorem hid{p:Prop}(h:p):Hid p:=h
abbrev zA:Array Value:= #[.string ⟨#[]⟩,.string ⟨#[]⟩,.int .i64 0,.int .i64 0,.string ⟨#[]⟩,.int .i64 0,.slice none 0 0,.int .i64 0,.int .i64 0,.slice none 0 0,.slice none 0 0]
abbrev eW(id ti:ByteArray)(st lg:Int)(f:ByteArray)(e:Int)(ra:Option Addr)(rn rc:Nat)(c u:Int)(sa:Option Addr)(sn sc:Nat)(ma:Option Addr)(mn mc:Nat):Array Value:= #[.string id,.string ti,.int .i64 st,.int .i64 lg,.string f,.int .i64 e,.slice ra rn rc,.int .i64 c,.int .i64 u,.slice sa sn sc,.slice ma mn mc]
theorem frz{W:World}{n:Nat}{cs:Array Value}{t:TypeId}(h:W.heap[n]? =some (.cells cs t (0,0))):W.frozen? ⟨n,0,none⟩=false∧W.frozen? ⟨n,1,none⟩=false∧W.frozen? ⟨n,2,none⟩=false∧W.frozen? ⟨n,3,none⟩=false∧W.frozen? ⟨n,4,none⟩=false∧W.frozen? ⟨n,5,none⟩=false∧W.frozen? ⟨n,6,none⟩=false∧W.frozen? ⟨n,7,none⟩=false∧W.frozen? ⟨n,8,none⟩=false∧W.frozen? ⟨n,9,none⟩=false∧W.frozen? ⟨n,10,none⟩=false:=by
 simp [World.frozen?,h]
end Go.Proofs.YtpeafgddbbojaaaGreatDoor
namespace Go.Proofs.YtpeafgddbbojaaaGreatDoor
open Go.RowKit Cal
theorem ze{k:IntKind}{a b:Int}(h:a=b):Ending.returned (.int k a)= .returned (.int k b):=by rw [h]
theorem zg{a b:Bool}(h:a=b):Ending.returned (.bool a)= .returned (.bool b):=by rw [h]
theorem zN(w:World)(n:Nat):Below w.heap.size w (w.drewN n):=⟨rfl,rfl,rfl,Nat.le_refl _,fun _ _=>rfl⟩
theorem zam(y:Int)(w:World)(h0:2000≤y)(h1:y≤2200):
  Calls Tryz.prog 198 #[.int .i64 y] w fun e w'=>e= .returned (.bool (lpB y))∧w'=w:=by
 by_cases a:y % 4=0
 ·by_cases b:y % 100=0
  ·by_cases c:y % 400=0
   ·have hl:lpB y=true:=by rw [xi];omega
    rw [hl]
    go_enter Tryz.func198,Tryz.ntmps198
    go_wp2
    go_ret
    exact ⟨rfl,rfl⟩
   ·have hl:lpB y=false:=by rw [←Bool.not_eq_true,xi];omega
    rw [hl]
    go_enter Tryz.func198,Tryz.ntmps198
    go_wp2
    go_ret
    exact ⟨zg (by simpa using c),rfl⟩
  ·have hl:lpB y=true:=by rw [xi];omega
   rw [hl]
   go_enter Tryz.func198,Tryz.ntmps198
   go_wp2
   go_ret
   exact ⟨rfl,rfl⟩
 ·have hl:lpB y=false:=by rw [←Bool.not_eq_true,xi];omega
  rw [hl]
  go_enter Tryz.func198,Tryz.ntmps198
  go_wp2
  go_ret
  exact ⟨rfl,rfl⟩
theorem vS(y:Int)(w:World)(h0:2000≤y)(h1:y≤2200):
  Calls Tryz.prog 179 #[.int .i64 y] w fun e w'=>e= .returned (.int .i64 (yd y))∧w'=w:=by
 rcases zht y with ⟨hb,hl⟩|⟨hb,hl⟩
 ·have hy:yd y=366:=by unfold yd;omega
  rw [hy]
  have hc:=fun w=>zam y w h0 h1
  rw [hb] at hc
  have HC:Hid (_):=hc
  clear hc hl hy hb
  go_enter Tryz.func179,Tryz.ntmps179
  go_wp2_with (go_at_call 198;refine (HC.out _).mono ?_;rintro e w' ⟨rfl,rfl⟩)
  go_ret
  exact ⟨rfl,rfl⟩
 ·have hy:yd y=365:=by unfold yd;omega
  rw [hy]
  have hc:=fun w=>zam y w h0 h1
  rw [hb] at hc
  have HC:Hid (_):=hc
  clear hc hl hy hb
  go_enter Tryz.func179,Tryz.ntmps179
  go_wp2_with (go_at_call 198;refine (HC.out _).mono ?_;rintro e w' ⟨rfl,rfl⟩)
  go_ret
  exact ⟨rfl,rfl⟩
theorem zg3(n:Int)(w:World)(h0:0≤n)(h1:n≤73048):
  Calls Tryz.prog 178 #[.int .i64 n] w fun e w'=>e= .returned (.bool true)∧w'=w:=by
 go_enter Tryz.func178,Tryz.ntmps178
 go_wp2
 go_ret
 exact ⟨rfl,rfl⟩
theorem zfR(y m:Int)(w:World)(h:y<2000∨2199<y):
  Calls Tryz.prog 180 #[.int .i64 y,.int .i64 m] w fun e w'=>e= .returned (.int .i64 0)∧w'=w:=by
 rcases h with h|h
 ·go_enter Tryz.func180,Tryz.ntmps180
  go_wp2
  go_ret
  exact ⟨rfl,rfl⟩
 ·have h0: ¬ y<2000:=by omega
  go_enter Tryz.func180,Tryz.ntmps180
  go_wp2
  go_ret
  exact ⟨rfl,rfl⟩
theorem zd5(y m:Int)(w:World)(h0:2000≤y)(h1:y≤2199)(h:m<1∨12<m):
  Calls Tryz.prog 180 #[.int .i64 y,.int .i64 m] w fun e w'=>e= .returned (.int .i64 0)∧w'=w:=by
 rcases h with h|h
 ·go_enter Tryz.func180,Tryz.ntmps180
  go_wp2
  go_ret
  exact ⟨rfl,rfl⟩
 ·go_enter Tryz.func180,Tryz.ntmps180
  go_wp2
  go_ret
  exact ⟨rfl,rfl⟩
theorem zfS(y:Int)(w:World)(h0:2000≤y)(h1:y≤2199):
  Calls Tryz.prog 180 #[.int .i64 y,.int .i64 2] w fun e w'=>e= .returned (.int .i64 (28+lp y))∧w'=w:=by
 rcases zht y with ⟨hb,hl⟩|⟨hb,hl⟩
 all_goals
  rw [hl]
  have hc:=fun w=>zam y w h0 (by omega)
  rw [hb] at hc
  have HC:Hid (_):=hc
  clear hc hl hb
  go_enter Tryz.func180,Tryz.ntmps180
  go_wp2_with (go_at_call 198;refine (HC.out _).mono ?_;rintro e w' ⟨rfl,rfl⟩)
  go_ret
  exact ⟨rfl,rfl⟩
theorem vq(y m:Int)(w:World):
  Calls Tryz.prog 180 #[.int .i64 y,.int .i64 m] w fun e w'=>e= .returned (.int .i64 (dim y m))∧w'=w:=by
 by_cases hy:y<2000∨2199<y
 ·rw [zaq y m (by omega)];exact zfR y m w hy
 ·by_cases hm:m<1∨12<m
  ·rw [zaq y m (by omega)];exact zd5 y m w (by omega) (by omega) hm
  ·have h0:2000≤y:=by omega
   have h1:y≤2199:=by omega
   by_cases h2:m=2
   ·subst h2
    rw [zcx y h0 h1];exact zfS y w h0 h1
   ·by_cases h30:m=4∨m=6∨m=9∨m=11
    ·rw [zhv y m h0 h1 h30]
     rcases h30 with h|h|h|h
     all_goals
      subst h
      clear hm hy
      go_enter Tryz.func180,Tryz.ntmps180
      go_wp2
      go_ret
      exact ⟨rfl,rfl⟩
    ·have h31:m=1∨m=3∨m=5∨m=7∨m=8∨m=10∨m=12:=by omega
     rw [zhu y m h0 h1 h31]
     clear h2 h30 hm hy
     rcases h31 with h|h|h|h|h|h|h
     all_goals
      subst h
      go_enter Tryz.func180,Tryz.ntmps180
      go_wp2
      go_ret
      exact ⟨rfl,rfl⟩
theorem zkj(y m d:Int)(w:World)(h:vld y m d):
  Calls Tryz.prog 169 #[.int .i64 y,.int .i64 m,.int .i64 d] w fun e w'=>e= .returned (.tuple #[.int .i64 (num y m d),.nilIface])∧w'=w:=by
 obtain ⟨hy0,hy1,hm0,hm1,hd0,hd1⟩:=h
 have hd31:=(yy y m).2
 go_enter Tryz.func169,Tryz.ntmps169
 go_wp2_with (go_at_call 180;refine (vq _ _ _).mono ?_;rintro e w' ⟨rfl,rfl⟩)
 go_loop [8,9] (fun n k=> ∃ j:Int,2000≤j∧j≤y∧k= .int .i64 j∧n= .int .i64 (dby j+d - 1)) (fun _ k=>(y - intOf k).toNat)
 case atStart=>exact ⟨2000,by omega,by omega,rfl,by rw [vv];go_num⟩
 case round=>
  obtain ⟨j,hj0,hj1,rfl,rfl⟩:=hrel
  have hb:=zbY j hj0 (by omega)
  have hyd:=zl9 j
  by_cases hlt:j<y
  ·have hs:=vG j
   have HS:Hid (_):=hs
   clear hs
   go_wp2_with (go_at_call 179;refine (vS _ _ (by omega) (by omega)).mono ?_;rintro e w' ⟨rfl,rfl⟩)
   go_round
   case rel=>exact ⟨j+1,by omega,by omega,rfl,by rw [HS.out];go_num⟩
   case measure=>simp [intOf];omega
  ·obtain rfl:j=y:=by omega
   go_wp2
   go_loop [8,10] (fun n k=> ∃ i:Int,1≤i∧i≤m∧k= .int .i64 i∧n= .int .i64 (dby j+cum j i+d - 1)) (fun _ k=>(m - intOf k).toNat)
   case atStart=>exact ⟨1,by omega,by omega,rfl,by rw [zar];go_num⟩
   case round=>
    obtain ⟨i,hi0,hi1,rfl,rfl⟩:=hrel
    have hcb:=zbl j i hi0 (by omega)
    have hdb:=yy j i
    by_cases hlt:i<m
    ·have hs:=xE j i hy0 hy1 hi0 (by omega)
     have HS:Hid (_):=hs
     clear hs
     go_wp2_with (go_at_call 180;refine (vq _ _ _).mono ?_;rintro e w' ⟨rfl,rfl⟩)
     go_round
     case rel=>exact ⟨i+1,by omega,by omega,rfl,by rw [HS.out];go_num⟩
     case measure=>simp [intOf];omega
    ·obtain rfl:i=m:=by omega
     go_wp2
     go_ret2
     exact ⟨rfl,rfl⟩
set_option maxHeartbeats 1000000 in
theorem zkk(n y m d:Int)(w:World)(h:vld y m d)(hn:num y m d=n):
  Calls Tryz.prog 151 #[.int .i64 n] w fun e w'=>e= .returned (.tuple #[.int .i64 y,.int .i64 m,.int .i64 d,.nilIface])∧w'=w:=by
 have hnb:=zhy h
 have hny:=zaZ h
 have hnm:=ju h
 have hdd:d=n - dby y - cum y m+1:=by unfold num at hn;omega
 rw [hn] at hnb hny hnm
 obtain ⟨hy0,hy1,hm0,hm1,hd0,hd1⟩:=h
 have HD:Hid (_):=hdd
 clear hdd hn
 obtain ⟨hn0,hn1⟩:=hnb
 obtain ⟨ha,hb⟩:=hny
 obtain ⟨hc,hd⟩:=hnm
 go_enter Tryz.func151,Tryz.ntmps151
 go_wp2_with (go_at_call 178;refine (zg3 _ _ hn0 hn1).mono ?_;rintro e w' ⟨rfl,rfl⟩)
 go_loop [0,2] (fun r t=> ∃ k:Int,2000≤k∧k≤y∧t= .int .i64 k∧r= .int .i64 (n - dby k)) (fun _ t=>(y - intOf t).toNat)
 case atStart=>exact ⟨2000,by omega,by omega,rfl,by rw [vv];go_num⟩
 case round=>
  obtain ⟨k,hk0,hk1,rfl,rfl⟩:=hrel
  have kb:=zbY k hk0 (by omega)
  have kd:=zl9 k
  have ks:=vG k
  by_cases hlt:k<y
  ·have hm:=vx (k+1) y (by omega)
   have hge:yd k≤n - dby k:=by omega
   have KS:Hid (_):=ks
   clear ks
   go_wp2_with (go_at_call 179;refine (vS _ _ (by omega) (by omega)).mono ?_;rintro e w' ⟨rfl,rfl⟩)
   go_round
   case rel=>exact ⟨k+1,by omega,by omega,rfl,by rw [KS.out];go_num⟩
   case measure=>simp [intOf];omega
  ·obtain rfl:k=y:=by omega
   have hl:n - dby k<yd k:=by omega
   clear ks hlt
   go_wp2_with (go_at_call 179;refine (vS _ _ (by omega) (by omega)).mono ?_;rintro e w' ⟨rfl,rfl⟩)
   go_loop [0,3] (fun r t=> ∃ i:Int,1≤i∧i≤m∧t= .int .i64 i∧r= .int .i64 (n - dby k - cum k i)) (fun _ t=>(m - intOf t).toNat)
   case atStart=>exact ⟨1,by omega,by omega,rfl,by rw [zar];go_num⟩
   case round=>
    obtain ⟨i,hi0,hi1,rfl,rfl⟩:=hrel
    have ib:=zbl k i hi0 (by omega)
    have id:=yy k i
    have is:=xE k i hy0 hy1 hi0 (by omega)
    by_cases hlt:i<m
    ·have hm:=vy k (i+1) m (by omega) (by omega)
     have hge:dim k i≤n - dby k - cum k i:=by omega
     have IS:Hid (_):=is
     clear is
     go_wp2_with (go_at_call 180;refine (vq _ _ _).mono ?_;rintro e w' ⟨rfl,rfl⟩)
     go_round
     case rel=>exact ⟨i+1,by omega,by omega,rfl,by rw [IS.out];go_num⟩
     case measure=>simp [intOf];omega
    ·obtain rfl:i=m:=by omega
     have hl:n - dby k - cum k i<dim k i:=by omega
     clear is hlt
     go_wp2_with (go_at_call 180;refine (vq _ _ _).mono ?_;rintro e w' ⟨rfl,rfl⟩)
     exact bodyPost_ret (v:= .tuple #[.int .i64 k,.int .i64 i,.int .i64 (n - dby k - cum k i+1),.nilIface]) (by simp [results,Tryz.results151,go_sem]) rfl ⟨by rw [HD.out],rfl⟩
end Go.Proofs.YtpeafgddbbojaaaGreatDoor
namespace Go.Proofs.YtpeafgddbbojaaaGreatDoor
open Go Go.RowKit
def rnd(l:Nat)(r:Loop)(R:Ending→World→Prop):Exit→Act→World→Prop
 | .normal,_,W=>W.heap[l]? =some (.loop { r with state:= .busy })∧R (.returned (.bool true)) (W.putObj l (.loop { r with state:= .ready,pending:=none }))
 | .ret,_,W=>W.heap[l]? =some (.loop { r with state:= .busy })∧R (.returned (.bool false)) (W.putObj l (.loop { r with state:= .done,pending:=some .ret }))
 |_,_,_=>False
structure IsRec(r:Loop)(tmps:Array Value)(ps:Array Tmp)(assign body:Code):Prop where
 state:r.state= .ready
 pending:r.pending=none
 tmps:r.tmps=tmps
 params:r.params=ps
 assign:r.assign=assign
 body:r.body=body
theorem IsRec.again{r:Loop}{tmps:Array Value}{ps:Array Tmp}{assign body:Code}(h:IsRec r tmps ps assign body):{ r with state:= .ready,pending:=none }=r:=by
 obtain ⟨h1,h2,_,_,_,_⟩:=h
 cases r
 simp only at h1 h2
 subst h1 h2
 rfl
theorem zb9{P:Program}{n l:Nat}{r:Loop}{x:Array Value}{W:World}{R:Ending→World→Prop}{tmps:Array Value}{ps:Array Tmp}{assign body:Code}(hR:IsRec r tmps ps assign body)(a₁:Act)
  (hl:W.heap[l]? =some (.loop r)) (hs:x.size=ps.size)
  (hassign: ∀ K:Act→World→Prop,K a₁ W→assign.wpIn (Fence.wide.inRound l) n P (Exit.then K (fun _ _ _=>False)) { tmps:=(ps.zip x).foldl (fun t (p,v)=>t.setIfInBounds p v) tmps,defers:=[] } W)
  (hbody:body.wpIn (Fence.wide.inRound l) n P (rnd l r R) a₁ (W.putObj l (.loop { r with state:= .busy }))):
  YieldAt Fence.wide n P l x W R:=by
 obtain ⟨hr,_,rfl,rfl,rfl,rfl⟩:=hR
 refine ⟨r.fn,_,r.assign,r.body,run_yield hl hs,roundIn_of_wpIn trivial (hassign _ ⟨_,run_beginRound hl hr,wpIn_mono hbody ?_⟩)⟩
 intro e a W3 h
 cases e with
 |normal=>exact ⟨_,_,run_endRound none h.1,h.2⟩
 |ret=>exact ⟨_,_,run_endRound (some .ret) h.1,h.2⟩
 |exit id=>exact h.elim
 |goto t=>exact h.elim
 |panic ch=>exact h.elim
 |outgrown=>exact h.elim
theorem zaJ{P:Program}{n:Nat}{g:Operand}{ps:Array Tmp}{assign body:Code}{Q:Exit→Act→World→Prop}{a:Act}{w:World}{gf:Nat}{lb:Array Value}
  (hg:a.eval g= .func (.func gf) #[] lb) (eg: ∀ args w,(callFunc gf args).run P w= .ok (.enter gf args) w)
  (h: ∀ r0,IsRec r0 a.tmps ps assign body→CallsIn Fence.wide (n - 1) P gf (#[.func (.yield (w.heap.size+1)) #[] #[]]++lb) ((w.alloc (.deferred (some []))).alloc (.loop r0)) fun e W2=>
   (∃ v,e= .returned v)∧ ∃ r,W2.heap[w.heap.size+1]? =some (.loop r)∧r.state≠ .busy∧
    ((r.pending=none∧Q .normal { a with defers:={ target:= .collected w.heap.size,args:= #[] }::a.defers } (W2.putObj (w.heap.size+1) (.loop { r with state:= .exhausted })))∨
    (∃ c,r.pending=some c∧c.wpIn Fence.wide n P Q { a with defers:={ target:= .collected w.heap.size,args:= #[] }::a.defers } (W2.putObj (w.heap.size+1) (.loop { r with state:= .exhausted }))))):
  (Code.rangeFunc g ps assign body).wpIn Fence.wide n P Q a w:=by
 refine wpIn_rangeFunc ?_
 intro fn hfn
 have hc:=h { state:= .ready,pending:=none,fn,tmps:=a.tmps,params:=ps,assign,body,defers:=w.heap.size } ⟨rfl,rfl,rfl,rfl,rfl,rfl⟩
 obtain ⟨W1,hW1⟩: ∃ W1,(w.alloc (.deferred (some []))).alloc (.loop { state:= .ready,pending:=none,fn,tmps:=a.tmps,params:=ps,assign,body,defers:=w.heap.size })=W1:=⟨_,rfl⟩
 rw [hW1] at hc
 refine ⟨w.heap.size+1,[{ target:= .collected w.heap.size,args:= #[] }],W1,{ target:= .fn (.func gf) lb,args:= #[.func (.yield (w.heap.size+1)) #[] #[]] },W1,gf,#[.func (.yield (w.heap.size+1)) #[] #[]]++lb,W1,?_,?_,fun _ _=>trivial,?_,fun e=>absurd e (by simp [Fence.wide]),?_⟩
 ·rw [←hW1];exact run_enterLoop_outer fn a.tmps ps assign body
 ·simp only [resolve,hg]
  simp [go_sem]
 ·simp [invoke,go_sem,eg]
 refine hc.mono ?_
 ·rintro e W2 ⟨⟨v,rfl⟩,r,hr,hb,hq⟩
  rcases hq with ⟨hp,hq⟩|⟨c,hp,hq⟩
  ·exact ⟨none,_,(run_endLoop (P:=P) hr hb).trans (by rw [hp]),hq⟩
  ·exact ⟨some c,_,(run_endLoop (P:=P) hr hb).trans (by rw [hp]),hq⟩
end Go.Proofs.YtpeafgddbbojaaaGreatDoor
namespace Go.Proofs.YtpeafgddbbojaaaGreatDoor
open Go.RowKit Cal
theorem zB{a b c:World}(h:Below a.heap.size a b)(k:Below b.heap.size b c):Below a.heap.size a c:=h.trans (k.mono h.size)
theorem xI{w:World}{b o:Nat}{v:Value}(h:w.cell? ⟨b,o,none⟩=some v):b<w.heap.size:=by
 rcases Nat.lt_or_ge b w.heap.size with hl|hl
 ·exact hl
 ·simp [World.cell?,Array.getElem?_eq_none hl] at h
theorem zD{w w':World}{b o:Nat}{v:Value}(h:w.cell? ⟨b,o,none⟩=some v)(hb:Below w.heap.size w w'):w'.cell? ⟨b,o,none⟩=some v:=
 (hb.cell (p:=⟨b,o,none⟩) (xI h)).trans h
theorem zC(w:World)(o:Obj):Below w.heap.size w (w.alloc o):=(Below.refl _ w).alloc (Nat.le_refl _) _
theorem yL{w:World}{b o:Nat}{v:Value}(x:Obj)(h:w.cell? ⟨b,o,none⟩=some v):(w.alloc x).cell? ⟨b,o,none⟩=some v:=zD h (zC w x)
theorem xt(w:World)(o o':Obj):Below w.heap.size w ((w.alloc o).alloc o'):=zB (zC w o) (zC _ o')
theorem zM{W:World}{B i:Nat}{cs:Array Value}{t:TypeId}{fr:Nat×Nat}(v:Value)(h:W.heap[B]? =some (.cells cs t fr)):(W.setCell ⟨B,i,none⟩ v).heap[B]? =some (.cells (cs.setIfInBounds i v) t fr):=by
 obtain ⟨hlt,hk⟩:=Array.getElem?_eq_some_iff.1 h
 show (W.heap.modify B _)[B]? =_
 rw [Array.getElem?_eq_getElem (by rw [Array.size_modify];exact hlt),Array.getElem_modify_self,hk]
 rfl
theorem zG(W:World)(a:Addr)(v:Value):W.grownBy (W.setCell a v) (some a.block):=
 ⟨rfl,rfl,rfl,(KeepsWalks.setCell W a v).size,fun k _ hk=>Below.heap_setCell _ _ _ k (fun e=>hk (by rw [e]))⟩
theorem zL{A B C:World}{r:Option Nat}(h:A.grownBy B r)(k:B.grownBy C r):A.grownBy C r:=
 ⟨k.os.trans h.os,k.tape.trans h.tape,k.output.trans h.output,Nat.le_trans h.size k.size,fun i hi hr=>(k.block i (Nat.lt_of_lt_of_le hi h.size) hr).trans (h.block i hi hr)⟩
theorem zO{A B:World}(h:Below A.heap.size A B)(r:Option Nat):A.grownBy B r:=⟨h.os,h.tape,h.output,h.size,fun i hi _=>h.block i hi⟩
theorem yG{A B:World}{r b o:Nat}{v:Value}(h:A.grownBy B (some r))(hc:A.cell? ⟨b,o,none⟩=some v)(hne:b≠r):B.cell? ⟨b,o,none⟩=some v:=
 (World.cell?_of_block (a:=⟨b,o,none⟩) (h.block b (xI hc) (fun e=>hne (by cases e;rfl)))).trans hc
theorem zJ{W:World}{n:Nat}(o:Obj)(h:W.heap.size=n):(W.alloc o).heap[n]? =some o:=by
 subst h;exact World.alloc_heap_new W o
theorem zH{W:World}{n:Nat}{o:Obj}(o':Obj)(h:W.heap[n]? =some o):(W.alloc o').heap[n]? =some o:=
 ((zC W o').block n (Array.getElem?_eq_some_iff.1 h).1).trans h
theorem zbE{W:World}{n:Nat}{v0 v1 v2 v3 v4:Value}{t:TypeId}(h:W.heap[n]? =some (.cells #[v0,v1,v2,v3,v4] t (0,0))):
  W.cell? ⟨n,0,none⟩=some v0∧W.cell? ⟨n,1,none⟩=some v1∧W.cell? ⟨n,2,none⟩=some v2∧W.cell? ⟨n,3,none⟩=some v3∧W.cell? ⟨n,4,none⟩=some v4:=by
 refine ⟨?_,?_,?_,?_,?_⟩<;>simp [World.cell?,h]
theorem zY{W:World}{n:Nat}{cs:Array Value}{t:TypeId}(h:W.heap[n]? =some (.cells cs t (0,0)))(i:Nat):W.frozen? ⟨n,i,none⟩=false:=by
 simp [World.frozen?,h]
theorem zjU{w w1:World}{v0 v1 v2 v3 v4:Value}{t:TypeId}(hb:Below (w.alloc (.cells #[v0,v1,v2,v3,v4] t)).heap.size (w.alloc (.cells #[v0,v1,v2,v3,v4] t)) w1):
  w1.cell? ⟨w.heap.size,0,none⟩=some v0∧w1.cell? ⟨w.heap.size,1,none⟩=some v1∧w1.cell? ⟨w.heap.size,2,none⟩=some v2∧w1.cell? ⟨w.heap.size,3,none⟩=some v3∧w1.cell? ⟨w.heap.size,4,none⟩=some v4:=by
 have key: ∀ (i:Nat) (v:Value),#[v0,v1,v2,v3,v4][i]? =some v→w1.cell? ⟨w.heap.size,i,none⟩=some v:=fun i v hv=>by
  rw [hb.cell (p:=⟨w.heap.size,i,none⟩) (by simp)]
  have hn:(w.alloc (.cells #[v0,v1,v2,v3,v4] t)).heap[w.heap.size]? =some (.cells #[v0,v1,v2,v3,v4] t):=by
   show (w.heap.push _)[w.heap.size]? =_
   simp
  simp only [World.cell?,hn]
  exact hv
 exact ⟨key 0 _ rfl,key 1 _ rfl,key 2 _ rfl,key 3 _ rfl,key 4 _ rfl⟩
theorem vt(W:World)(a:Addr)(v:Value):(W.setCell a v).heap.size=W.heap.size:=by
 show (W.heap.modify _ _).size=_
 rw [Array.size_modify]
theorem vu{W:World}{n:Nat}(v:Value)(t:TypeId)(h:W.heap.size=n):Boxed (W.alloc (.cells #[v] t)) n t v:=by
 subst h;exact Boxed.new W t v
theorem zdu(W5:World)(o:Obj):((W5.alloc (.deferred (some []))).alloc o).heap[W5.heap.size+1]? =some o:=by
 have:=World.alloc_heap_new (W5.alloc (.deferred (some []))) o
 rwa [World.size_alloc] at this
theorem zcu{w:World}{base l:Nat}{e:TypeId}{size:Nat}{v:Value}{n:Nat}{xs:List Value}(h:w.ownsRow base e size v n xs)(o:Obj)(hne:v.ownBlock≠some l):(w.putObj l o).ownsRow base e size v n xs:=
 h.kept (grownBy_putObj' w l o) (.inr hne)
theorem zW{w:World}{b b':Nat}{e:TypeId}{size:Nat}{v:Value}{n:Nat}{xs:List Value}(h:w.ownsRow b' e size v n xs)(hb:b≤b'):w.ownsRow b e size v n xs:=by
 refine ⟨h.1,?_⟩
 rcases h.2 with h2|⟨g,cap,cur,hv,hg,r⟩
 ·exact Or.inl h2
 ·exact Or.inr ⟨g,cap,cur,hv,Nat.le_trans hb hg,r⟩
theorem yZ:(Tryz.prog.info? 3).map (fun i=>(i.zero,i.size,i.bytes))=some (some (.int .i64 0),1,8):=by kernel_rfl
def Ow(base:Nat)(W:World)(sl:Value)(ds:List Int):Prop:=W.ownsRow base 3 1 sl ds.length (ds.map (Value.int .i64))
theorem Ow.nil(base:Nat)(W:World):Ow base W (.slice none 0 0) []:=World.ownsRow_nil _ _ _ _
theorem Ow.grown{base B:Nat}{W W':World}{sl:Value}{ds:List Int}(h:Ow base W sl ds)(hg:W.grownBy W' (some B))(hB:B<base):Ow base W' sl ds:=
 World.ownsRow.kept h hg (.inr (fun he=>by have:=(World.ownsRow.lt h _ he).1;omega))
end Go.Proofs.YtpeafgddbbojaaaGreatDoor
namespace Go.Proofs.YtpeafgddbbojaaaGreatDoor.Cal
def fr(p:Int→Bool):Int→Nat→List Int
 |_,0=>[]
 |a,n+1=>if p a=true then a::fr p (a+1) n else fr p (a+1) n
def zmI(p:Int→Bool)(a:Int):List Int:=fr p a (73049 - a).toNat
theorem zhg{p:Int→Bool}{x:Int}: ∀ (n:Nat) (a:Int),x∈fr p a n↔a≤x∧x<a+n∧p x=true
 |0,a=>by simp [fr];omega
 |n+1,a=>by
  unfold fr
  by_cases h:p a=true
  ·rw [if_pos h,List.mem_cons,zhg n (a+1)]
   constructor
   ·rintro (rfl|h2)
    ·exact ⟨by omega,by omega,h⟩
    ·exact ⟨by omega,by omega,h2.2.2⟩
   ·rintro ⟨h1,h2,h3⟩
    rcases Int.lt_or_le a x with h4|h4
    ·exact .inr ⟨by omega,by omega,h3⟩
    ·exact .inl (by omega)
  ·rw [if_neg h,zhg n (a+1)]
   constructor
   ·rintro ⟨h1,h2,h3⟩
    exact ⟨by omega,by omega,h3⟩
   ·rintro ⟨h1,h2,h3⟩
    rcases Int.lt_or_le a x with h4|h4
    ·exact ⟨by omega,by omega,h3⟩
    ·have:x=a:=by omega
     subst this;exact absurd h3 h
theorem zej{p:Int→Bool}: ∀ (n:Nat) (a:Int),(fr p a n).Pairwise (· < ·)
 |0,a=>List.Pairwise.nil
 |n+1,a=>by
  unfold fr
  by_cases h:p a=true
  ·rw [if_pos h,List.pairwise_cons]
   exact ⟨fun x hx=>by have:=(zhg n (a+1)).1 hx;omega,zej n (a+1)⟩
  ·rw [if_neg h];exact zej n (a+1)
theorem zhh(p:Int→Bool)(a:Int):(zmI p a).Pairwise (· < ·):=zej _ _
def pD(s e d:Int):Bool:=decide (s≤d∧(d - s) % e=0)
def pW(s e:Int)(ds:List Int)(d:Int):Bool:=decide (s≤d∧((d - (d+5) % 7 - (s - (s+5) % 7)) / 7) % e=0∧(d+5) % 7∈ds)
def yA(s:Int):Int:=2000+s / 12
def mA(s:Int):Int:=s % 12+1
def isM(s e d:Int)(j i dd:Nat):Bool:=decide (s=num (yA j) (mA j) dd∧1≤dd∧(dd:Int)≤dim (yA j) (mA j)∧j≤i∧((i:Int) - j) % e=0∧(dd:Int)≤dim (yA i) (mA i)∧d=num (yA i) (mA i) dd)
def pM(s e d:Int):Bool:=(List.range 2400).any fun j=>(List.range 2400).any fun i=>(List.range 32).any fun dd=>isM s e d j i dd
theorem zlI{s e d:Int}:pM s e d=true↔ ∃ j i dd:Nat,j<2400∧i<2400∧dd<32∧isM s e d j i dd=true:=by
 unfold pM
 simp only [List.any_eq_true,List.mem_range]
 constructor
 ·rintro ⟨j,h1,i,h2,dd,h3,h4⟩;exact ⟨j,i,dd,h1,h2,h3,h4⟩
 ·rintro ⟨j,i,dd,h1,h2,h3,h4⟩;exact ⟨j,h1,i,h2,dd,h3,h4⟩
theorem zhi{s e d:Int}{j i dd:Nat}:isM s e d j i dd=true↔(s=num (yA j) (mA j) dd∧1≤dd∧(dd:Int)≤dim (yA j) (mA j)∧j≤i∧((i:Int) - j) % e=0∧(dd:Int)≤dim (yA i) (mA i)∧d=num (yA i) (mA i) dd):=by
 unfold isM;exact decide_eq_true_iff
theorem zmP{s:Int}(h0:0≤s)(h1:s<2400):2000≤yA s∧yA s≤2199∧1≤mA s∧mA s≤12:=by unfold yA mA;omega
theorem zlJ{j k:Int}(h1:yA j=yA k)(h2:mA j=mA k):j=k:=by unfold yA mA at*;omega
theorem zjV{s dd:Int}(h0:0≤s)(h1:s<2400)(h2:1≤dd)(h3:dd≤dim (yA s) (mA s)):vld (yA s) (mA s) dd:=by
 obtain ⟨a,b,c,d⟩:=zmP h0 h1
 exact ⟨a,b,c,d,h2,h3⟩
def F(s:Int):Int:=dby (yA s)+cum (yA s) (mA s)
theorem pM_at{j dd:Int}{e d:Int}(hj0:0≤j)(hj1:j<2400)(h1:1≤dd)(h2:dd≤dim (yA j) (mA j)):
  pM (num (yA j) (mA j) dd) e d=true↔ ∃ i:Int,j≤i∧i<2400∧(i - j) % e=0∧dd≤dim (yA i) (mA i)∧d=num (yA i) (mA i) dd:=by
 rw [zlI]
 constructor
 ·rintro ⟨j',i,dd',hj',hi,_,h⟩
  obtain ⟨e1,e2,e3,e4,e5,e6,e7⟩:=zhi.1 h
  have v1:vld (yA j) (mA j) dd:=zjV hj0 hj1 h1 h2
  have v2:vld (yA j') (mA j') dd':=zjV (by omega) (by omega) (by omega) e3
  obtain ⟨q1,q2,q3⟩:=zkH v1 v2 e1
  have q4:=zlJ q1 q2
  subst q4 q3
  exact ⟨i,by omega,by omega,e5,e6,e7⟩
 ·rintro ⟨i,h3,h4,h5,h6,h7⟩
  have h8:=(yy (yA j) (mA j)).2
  have c1:((j.toNat:Nat):Int)=j:=by omega
  have c2:((i.toNat:Nat):Int)=i:=by omega
  have c3:((dd.toNat:Nat):Int)=dd:=by omega
  refine ⟨j.toNat,i.toNat,dd.toNat,by omega,by omega,by omega,zhi.2 ?_⟩
  rw [c1,c2,c3]
  exact ⟨rfl,by omega,h2,by omega,h5,h6,h7⟩
def wds(s:Int)(ds:List Int):List Int:=if ds.length=0 then [(s+5) % 7] else ds
def xO:List UInt8:=[111,110,99,101]
def zdv:List UInt8:=[100,97,105,108,121]
def vY:List UInt8:=[119,101,101,107,108,121]
def jr:List UInt8:=[109,111,110,116,104,108,121]
def zbh:List UInt8:=[121,101,97,114,108,121]
structure RV where
 freq:List UInt8
 every:Int
 days:List Int
 count:Int
 til:Int
structure Well(r:RV):Prop where
 fr:r.freq=xO∨r.freq=zdv∨r.freq=vY∨r.freq=jr∨r.freq=zbh
 ds: ∀ d∈r.days,0≤d∧d≤6
 ev:1≤r.every∧r.every≤100
 co:0≤r.count∧r.count≤1000
 un: -1≤r.til∧r.til≤73048
 on:r.freq=xO→r.every=1∧r.count=0∧r.til= -1
 wk:r.freq≠vY→r.days=[]
 cu:r.count=0∨r.til= -1
 ri: ∀ (i:Nat) (h:i+1<r.days.length),r.days[i]<r.days[i+1]
def cnd(f:List UInt8)(s e:Int)(ds:List Int):Int→Bool:=
 if f=zdv then pD s e else if f=vY then pW s e (wds s ds) else if f=jr then pM s e else if f=zbh then pM s (e*12) else fun d=>decide (d=s)
def cds(f:List UInt8)(s e:Int)(ds:List Int):List Int:=zmI (cnd f s e ds) s
def zlu(u:Int)(l:List Int):List Int:=if 0≤u then l.takeWhile (fun d=>decide (d≤u)) else l
def cut(c u:Int)(l:List Int):List Int:=if 0<c then (zlu u l).take c.toNat else zlu u l
theorem zdw{u:Int}{l:List Int}(h:l.Pairwise (· < ·)):(zlu u l).Pairwise (· < ·):=by
 unfold zlu;split
 ·exact h.sublist (List.takeWhile_sublist _)
 ·exact h
theorem zi4{c u:Int}{l:List Int}(h:l.Pairwise (· < ·)):(cut c u l).Pairwise (· < ·):=by
 unfold cut;split
 ·exact (zdw h).sublist (List.take_sublist _ _)
 ·exact zdw h
end Go.Proofs.YtpeafgddbbojaaaGreatDoor.Cal
namespace Go.Proofs.YtpeafgddbbojaaaGreatDoor
open Go.RowKit Cal
def rv(f:ByteArray)(e:Int)(sl:Value)(c u:Int):Value:= .agg #[.string f,.int .i64 e,sl,.int .i64 c,.int .i64 u]
def Days(w:World)(sl:Value)(ds:List Int):Prop:=
 ∃ (a:Option Addr) (c:Nat),sl= .slice a ds.length c∧ds.length≤20∧ds.length≤c∧
  ∀ (j:Nat) (h:j<ds.length),∃ b:Nat,a=some ⟨b,0,none⟩∧b<w.heap.size∧w.cell? ⟨b,j,none⟩=some (.int .i64 ds[j])
theorem Days.step{w w':World}{sl:Value}{ds:List Int}(h:Days w sl ds)(hb:Below w.heap.size w w'):Days w' sl ds:=by
 obtain ⟨a,c,h1,h2,h3,h4⟩:=h
 refine ⟨a,c,h1,h2,h3,fun j hj=> ?_⟩
 obtain ⟨b,e,hl,hc⟩:=h4 j hj
 exact ⟨b,e,Nat.lt_of_lt_of_le hl hb.size,(hb.cell (p:=⟨b,j,none⟩) hl).trans hc⟩
theorem Days.nil(w:World)(c:Nat):Days w (.slice none 0 c) []:=⟨none,c,rfl,by simp,by simp,fun j h=>absurd h (by simp)⟩
structure Glob(w:World):Prop where
 name: ∃ p,w.cell? ⟨2,0,none⟩=some (.iface 269 (.pointer (some p)))
 bound: ∃ p,w.cell? ⟨4,0,none⟩=some (.iface 269 (.pointer (some p)))
 shape: ∃ p,w.cell? ⟨0,0,none⟩=some (.iface 269 (.pointer (some p)))
 order: ∃ p,w.cell? ⟨5,0,none⟩=some (.iface 269 (.pointer (some p)))
theorem Glob.step{w w':World}(g:Glob w)(hb:Below w.heap.size w w'):Glob w':=by
 obtain ⟨⟨p1,h1⟩,⟨p2,h2⟩,⟨p3,h3⟩,⟨p4,h4⟩⟩:=g
 exact ⟨⟨p1,zD h1 hb⟩,⟨p2,zD h2 hb⟩,⟨p3,zD h3 hb⟩,⟨p4,zD h4 hb⟩⟩
def isF(s:ByteArray):Bool:=s.toList==[111,110,99,101]||s.toList==[100,97,105,108,121]||s.toList==[119,101,101,107,108,121]||s.toList==[109,111,110,116,104,108,121]||s.toList==[121,101,97,114,108,121]
theorem zap(s:ByteArray)(w:World):
  Calls Tryz.prog 91 #[.string s] w fun e w'=>e= .returned (.bool (isF s))∧w'=w:=by
 cases h1:(s.toList==[111,110,99,101]) with
 |true=>
  have e:isF s=true:=by unfold isF;rw [h1];rfl
  rw [e]
  go_enter Tryz.func91,Tryz.ntmps91
  go_wp2
  go_ret
  exact ⟨rfl,rfl⟩
 |false=>
 cases h2:(s.toList==[100,97,105,108,121]) with
 |true=>
  have e:isF s=true:=by unfold isF;rw [h1,h2];rfl
  rw [e]
  go_enter Tryz.func91,Tryz.ntmps91
  go_wp2
  go_ret
  exact ⟨rfl,rfl⟩
 |false=>
 cases h3:(s.toList==[119,101,101,107,108,121]) with
 |true=>
  have e:isF s=true:=by unfold isF;rw [h1,h2,h3];rfl
  rw [e]
  go_enter Tryz.func91,Tryz.ntmps91
  go_wp2
  go_ret
  exact ⟨rfl,rfl⟩
 |false=>
 cases h4:(s.toList==[109,111,110,116,104,108,121]) with
 |true=>
  have e:isF s=true:=by unfold isF;rw [h1,h2,h3,h4];rfl
  rw [e]
  go_enter Tryz.func91,Tryz.ntmps91
  go_wp2
  go_ret
  exact ⟨rfl,rfl⟩
 |false=>
 cases h5:(s.toList==[121,101,97,114,108,121]) with
 |true=>
  have e:isF s=true:=by unfold isF;rw [h1,h2,h3,h4,h5];rfl
  rw [e]
  go_enter Tryz.func91,Tryz.ntmps91
  go_wp2
  go_ret
  exact ⟨rfl,rfl⟩
 |false=>
  have e:isF s=false:=by unfold isF;rw [h1,h2,h3,h4,h5];rfl
  rw [e]
  go_enter Tryz.func91,Tryz.ntmps91
  go_wp2
  go_ret
  exact ⟨rfl,rfl⟩
def bN(e c u:Int):Bool:=decide (1≤e∧e≤100∧0≤c∧c≤1000∧ -1≤u∧u≤73048)
def bD(ds:List Int):Prop:= ∀ d∈ds,0≤d∧d≤6
set_option maxHeartbeats 1000000 in
theorem xZ(f:ByteArray)(e:Int)(sl:Value)(c u:Int)(ds:List Int)(w:World)(hd:Days w sl ds)(b:Bool)(hb:b=true↔(bN e c u=true∧bD ds)):
  Calls Tryz.prog 92 #[rv f e sl c u] w fun r w'=>r= .returned (.bool b)∧Below w.heap.size w w':=by
 obtain ⟨a,cap,rfl,h20,hcap,hc⟩:=hd
 unfold rv
 have HC:Hid (_):=hc
 have HB:Hid (_):=hb
 clear hc hb
 go_enter Tryz.func92,Tryz.ntmps92
 go_wp2
 go_loop [4,8] (fun d i=> ∃ k:Nat,k≤ds.length∧i= .int .i64 k∧Hid (∀ (j:Nat) (h:j<ds.length),j<k→0≤ds[j]∧ds[j]≤6)) (fun _ i=>ds.length - (intOf i).toNat)
 case atStart=>exact ⟨0,Nat.zero_le _,rfl,fun j _ h=>absurd h (Nat.not_lt_zero _)⟩
 case round=>
  obtain ⟨k,hk,rfl,HA⟩:=hrel
  by_cases hlt:k<ds.length
  ·obtain ⟨blk,rfl,hblk,hcell⟩:=HC.out k hlt
   have hcell2:=yL (.cells #[.string f,.int .i64 e,.slice (some ⟨blk,0,none⟩) ds.length cap,.int .i64 c,.int .i64 u] 45) hcell
   have HN:Hid (0≤ds[k]→ds[k]≤6→ ∀ (j:Nat) (h:j<ds.length),j<k+1→0≤ds[j]∧ds[j]≤6):=fun h0 h6 j hj hjk=>by
    by_cases ej:j=k
    ·subst ej;exact ⟨h0,h6⟩
    ·exact HA.out j hj (by omega)
   have HF:Hid (¬ (0≤ds[k]∧ds[k]≤6)→b=false):=fun hx=>by
    cases b with
    |false=>rfl
    |true=>exact absurd ((HB.out.1 rfl).2 ds[k] (List.getElem_mem hlt)) hx
   clear HA HB HC
   generalize ds[k]=d at hcell hcell2 HN HF
   by_cases h0:d<0
   ·have HF':Hid (b=false):=HF.out (by omega)
    clear HF HN
    go_wp2
    go_ret
    exact ⟨zg HF'.out.symm,zC _ _⟩
   ·by_cases h6:7≤d
    ·have HF':Hid (b=false):=HF.out (by omega)
     clear HF HN
     go_wp2
     go_ret
     exact ⟨zg HF'.out.symm,zC _ _⟩
    ·have HN':Hid (_):=HN.out (by omega) (by omega)
     clear HF HN
     go_wp2
     go_round
     case rel=>exact ⟨k+1,by omega,by go_num,HN'.out⟩
     case measure=>simp [intOf];omega
  ·have HR:Hid (b=bN e c u):=by
    have hD:bD ds:=fun d hd=>by
     obtain ⟨j,hj,rfl⟩:=List.mem_iff_getElem.1 hd
     exact HA.out j hj (by omega)
    have:=HB.out
    cases h1:bN e c u with
    |true=>exact this.2 ⟨h1,hD⟩
    |false=>
     cases b with
     |false=>rfl
     |true=>rw [h1] at this;exact absurd (this.1 rfl).1 (by decide)
   clear HA HB HC
   go_wp2
   all_goals
    go_ret
    refine ⟨zg ?_,zC _ _⟩
    rw [HR.out]
    unfold bN
    first
    |exact (decide_eq_true (by omega)).symm
    |exact (decide_eq_false (by omega)).symm
    |exact decide_eq_decide.2 (by omega)
theorem zdz(ds:List Int)(sl:Value)(w:World)(hd:Days w sl ds)(b:Bool)(hb:b=true↔ ∀ (i:Nat) (h:i+1<ds.length),ds[i]<ds[i+1]):
  Calls Tryz.prog 94 #[sl] w fun r w'=>r= .returned (.bool b)∧Below w.heap.size w w':=by
 obtain ⟨a,cap,rfl,h20,hcap,hc⟩:=hd
 have HC:Hid (_):=hc
 have HB:Hid (_):=hb
 clear hc hb
 go_enter Tryz.func94,Tryz.ntmps94
 go_wp2
 go_loopw [3] (fun i wr=> ∃ m q:Nat,(m+1≤ds.length∨m=0)∧i= .int .i64 ((m:Int)+1)∧wr=w.drewN q∧Hid (∀ (j:Nat) (h:j+1<ds.length),j<m→ds[j]<ds[j+1])) (fun i _=>ds.length - (intOf i).toNat)
 case atStart=>exact ⟨0,0,Or.inr rfl,rfl,rfl,fun j _ h=>absurd h (by omega)⟩
 case round=>
  obtain ⟨m,q,hk,rfl,rfl,HA⟩:=hrel
  by_cases hlt:m+1<ds.length
  ·obtain ⟨blk,rfl,hblk,hcell⟩:=HC.out (m+1) hlt
   obtain ⟨blk',eb,_,hcell'⟩:=HC.out m (by omega)
   have eb':blk'=blk:=by simpa using eb.symm
   subst eb'
   have HN:Hid (ds[m]<ds[m+1]→ ∀ (j:Nat) (h:j+1<ds.length),j<m+1→ds[j]<ds[j+1]):=fun hx j hj hjk=>by
    by_cases ej:j=m
    ·subst ej;exact hx
    ·exact HA.out j hj (by omega)
   have HF:Hid (¬ ds[m]<ds[m+1]→b=false):=fun hx=>by
    cases b with
    |false=>rfl
    |true=>exact absurd ((HB.out.1 rfl) m hlt) hx
   clear HA HB HC eb
   generalize ds[m+1]=d at hcell HN HF
   generalize ds[m]=d' at hcell' HN HF
   have hlt':(m:Int)+1<ds.length:=by omega
   by_cases hx:d'<d
   ·have HN':Hid (_):=HN.out hx
    clear HF HN
    go_wp2_with (fail)
    go_quiet (fail)
    go_wp2
    go_roundw
    case rel=>exact ⟨m+1,_,by omega,by go_num,rfl,HN'.out⟩
    case measure=>simp [intOf];omega
   ·have HF':Hid (b=false):=HF.out hx
    clear HF HN
    have hx':d≤d':=by omega
    go_wp2_with (fail)
    go_quiet (fail)
    go_wp2
    go_ret
    exact ⟨zg HF'.out.symm,zB (zN _ _) (zN _ _)⟩
  ·have HR:Hid (b=true):=HB.out.2 (fun j hj=>HA.out j hj (by omega))
   clear HA HB HC
   have hlt': ¬ (m:Int)+1<ds.length:=by omega
   go_wp2
   go_ret
   exact ⟨zg HR.out.symm,zN _ _⟩
def shp(o k:Bool)(e c u:Int)(n:Nat):Prop:=(o=true→e=1∧c=0∧u= -1)∧(k=false→n=0)∧(c=0∨u= -1)
set_option maxHeartbeats 2000000 in
theorem vZ(f:ByteArray)(e:Int)(a:Option Addr)(n cap:Nat)(c u:Int)(w:World)(hn:n≤20)(o k:Bool)(ho:(f.toList==[111,110,99,101])=o)(hk:(f.toList==[119,101,101,107,108,121])=k)(b:Bool)(hb:b=true↔shp o k e c u n):
  Calls Tryz.prog 93 #[rv f e (.slice a n cap) c u] w fun r w'=>r= .returned (.bool b)∧Below w.heap.size w w':=by
 have HB:Hid (_):=hb
 clear hb
 have fin: ∀ x:Bool,(x=true↔shp o k e c u n)→x=b:=fun x hx=>by
  have:=HB.out
  cases x<;>cases b<;>simp_all
 have FIN:Hid (_):=fin
 clear fin HB
 unfold rv
 by_cases hu:u= -1
 ·have hu1:(u != -1)=false:=by simp [hu]
  have hu2:(u== -1)=true:=by simp [hu]
  cases o<;>cases k
  all_goals
   go_enter Tryz.func93,Tryz.ntmps93
   go_wp2
   all_goals
    go_ret
    refine ⟨zg (FIN.out _ ?_),zC _ _⟩
    unfold shp
    simp
    try omega
 ·have hu1:(u != -1)=true:=by simp [hu]
  have hu2:(u== -1)=false:=by simp [hu]
  cases o<;>cases k
  all_goals
   go_enter Tryz.func93,Tryz.ntmps93
   go_wp2
   all_goals
    go_ret
    refine ⟨zg (FIN.out _ ?_),zC _ _⟩
    unfold shp
    simp
    try omega
def rd(f:ByteArray)(e:Int)(ds:List Int)(c u:Int):RV:=⟨f.toList,e,ds,c,u⟩
def zgC(ds:List Int):Prop:= ∀ (i:Nat) (h:i+1<ds.length),ds[i]<ds[i+1]
theorem zeh(f:ByteArray):isF f=true↔(f.toList=xO∨f.toList=zdv∨f.toList=vY∨f.toList=jr∨f.toList=zbh):=by
 unfold isF xO zdv vY jr zbh
 simp only [Bool.or_eq_true,beq_iff_eq,or_assoc]
theorem zaG(e c u:Int):bN e c u=true↔(1≤e∧e≤100∧0≤c∧c≤1000∧ -1≤u∧u≤73048):=by unfold bN;simp
theorem zbg{f:ByteArray}{e c u:Int}{ds:List Int}(h1:isF f=true)(h2:bN e c u=true)(h3:bD ds)(h4:shp (f.toList==[111,110,99,101]) (f.toList==[119,101,101,107,108,121]) e c u ds.length)(h5:zgC ds):Well (rd f e ds c u):=by
 rw [zeh] at h1
 rw [zaG] at h2
 obtain ⟨s1,s2,s3⟩:=h4
 refine ⟨h1,h3,⟨h2.1,h2.2.1⟩,⟨h2.2.2.1,h2.2.2.2.1⟩,⟨h2.2.2.2.2.1,h2.2.2.2.2.2⟩,fun h=>s1 ?_,fun h=> ?_,s3,h5⟩
 ·rw [beq_iff_eq];exact h
 ·have:=s2 (by rw [beq_eq_false_iff_ne];exact h)
  exact List.length_eq_zero_iff.1 this
theorem jO{f:ByteArray}{e c u:Int}{ds:List Int}(h:Well (rd f e ds c u)):isF f=true∧bN e c u=true∧bD ds∧shp (f.toList==[111,110,99,101]) (f.toList==[119,101,101,107,108,121]) e c u ds.length∧zgC ds:=by
 obtain ⟨w1,w2,w3,w4,w5,w6,w7,w8,w9⟩:=h
 refine ⟨(zeh f).2 w1,(zaG e c u).2 ⟨w3.1,w3.2,w4.1,w4.2,w5.1,w5.2⟩,w2,⟨fun h=>w6 ?_,fun h=> ?_,w8⟩,w9⟩
 ·rw [beq_iff_eq] at h;exact h
 ·rw [beq_eq_false_iff_ne] at h
  have:ds=[]:=w7 h
  rw [this];rfl
theorem zaX(f:ByteArray)(e:Int)(sl:Value)(c u:Int)(ds:List Int)(w:World)(hd:Days w sl ds)(hw:Well (rd f e ds c u)):
  Calls Tryz.prog 61 #[rv f e sl c u] w fun r w'=>r= .returned .nilIface∧Below w.heap.size w w':=by
 obtain ⟨h1,h2,h3,h4,h5⟩:=jO hw
 have hd':=hd
 obtain ⟨a,cap,rfl,h20,hcap,hc⟩:=hd'
 have c1:=fun w=>zap f w
 rw [h1] at c1
 have C1:Hid (_):=c1
 have C2:Hid (bN e c u=true∧bD ds):=⟨h2,h3⟩
 have C3:=hid h4
 have C4:=hid h5
 have D:=hid hd
 clear c1 h1 h2 h3 h4 h5 hw hc hd
 unfold rv
 go_enter Tryz.func61,Tryz.ntmps61
 go_wp2_with (first
  |(go_at_call 91;refine (C1.out _).mono ?_;rintro r w' ⟨rfl,rfl⟩)
  |(go_at_call 92;refine (xZ f e _ c u ds _ (D.out.step (zC _ _)) true ⟨fun _=>C2.out,fun _=>rfl⟩).mono ?_;rintro r w1 ⟨rfl,hb1⟩;obtain ⟨x0,x1,x2,x3,x4⟩:=zjU hb1)
  |(go_at_call 93;refine (vZ f e a ds.length cap c u _ h20 _ _ rfl rfl true ⟨fun _=>C3.out,fun _=>rfl⟩).mono ?_;rintro r w2 ⟨rfl,hb2⟩;have y2:=zD x2 hb2)
  |(go_at_call 94;refine (zdz ds _ _ (D.out.step (zB (zC _ _) (zB hb1 hb2))) true ⟨fun _=>C4.out,fun _=>rfl⟩).mono ?_;rintro r w3 ⟨rfl,hb3⟩))
 go_ret
 exact ⟨rfl,zB (zC _ _) (zB hb1 (zB hb2 hb3))⟩
theorem xP{base:Nat}{W:World}{sl:Value}{ds:List Int}(h:Ow base W sl ds)(h20:ds.length≤20):Days W sl ds:=by
 rcases h.2 with ⟨rfl,h0⟩|⟨g,cap,cur,rfl,hb,hg,hcap,hmax,hsz,htake⟩
 ·rw [List.length_eq_zero_iff.1 h0];exact Days.nil W 0
 ·refine ⟨_,cap,rfl,h20,hcap,fun j hj=>⟨g,rfl,(Array.getElem?_eq_some_iff.1 hg).1,?_⟩⟩
  have:=World.ownsRow.cellAt h j (by omega)
  rw [this,List.getElem?_map,List.getElem?_eq_getElem hj];rfl
theorem Ow.step{base:Nat}{W W':World}{v:Value}{o:List Int}(h:Ow base W v o)(hb:Below W.heap.size W W'):Ow base W' v o:=
 World.ownsRow.kept h (zO hb (some W.heap.size)) (.inr (fun he=>by have:=(World.ownsRow.lt h _ he).2;omega))
theorem zw{base:Nat}{W:World}{v:Value}{o:List Int}(h:Ow base W v o): ∃ a cap,v= .slice a o.length cap:=by
 rcases h.2 with ⟨rfl,h0⟩|⟨g,cap,cur,rfl,_⟩
 ·rw [h0];exact ⟨none,0,rfl⟩
 ·exact ⟨_,cap,rfl⟩
theorem Ow.steps{base:Nat}{W W':World}{v:Value}{o:List Int}(h:Ow base W v o)(hk: ∀ k,base≤k→k<W.heap.size→W'.heap[k]? =W.heap[k]?):Ow base W' v o:=by
 refine ⟨h.1,?_⟩
 rcases h.2 with h2|⟨g,cap,cur,hv,hb,hg,r⟩
 ·exact .inl h2
 ·exact .inr ⟨g,cap,cur,hv,hb,(hk g hb (Array.getElem?_eq_some_iff.1 hg).1).trans hg,r⟩
def Got(w:World)(sl:Value)(ds:List Int):Prop:=
 ∃ (a:Option Addr) (cap:Nat),sl= .slice a ds.length cap∧(a=none→ds.length=0∧cap=0)∧ ∀ ad,a=some ad→ ∀ (j:Nat) (h:j<ds.length),ad.block<w.heap.size∧w.cell? (ad.add j)=some (.int .i64 ds[j])
theorem zi(ad:Addr)(j:Nat):(ad.add j).block=ad.block:=by
 unfold Addr.add
 split<;>rfl
theorem Got.step{w w':World}{sl:Value}{ds:List Int}(h:Got w sl ds)(hb:Below w.heap.size w w'):Got w' sl ds:=by
 obtain ⟨a,cap,h1,h2,h3⟩:=h
 refine ⟨a,cap,h1,h2,fun ad e j hj=> ?_⟩
 obtain ⟨h4,h5⟩:=h3 ad e j hj
 exact ⟨Nat.lt_of_lt_of_le h4 hb.size,(World.cell?_of_block (a:=ad.add j) (hb.block _ (by rw [zi];exact h4))).trans h5⟩
theorem yq{base:Nat}{W:World}{sl:Value}{ds:List Int}(h:Ow base W sl ds):Got W sl ds:=by
 rcases h.2 with ⟨rfl,h0⟩|⟨g,cap,cur,rfl,hb,hg,hcap,hmax,hsz,htake⟩
 ·rw [List.length_eq_zero_iff.1 h0];exact ⟨none,0,rfl,fun _=>⟨rfl,rfl⟩,fun ad q=>by cases q⟩
 ·refine ⟨_,cap,rfl,(fun q=>by cases q),fun ad q j hj=> ?_⟩
  cases q
  refine ⟨(Array.getElem?_eq_some_iff.1 hg).1,?_⟩
  have:=World.ownsRow.cellAt h j (by omega)
  have e:(⟨g,0,none⟩:Addr).add j=⟨g,j,none⟩:=by
   simp [Addr.add]
   intro hq
   exact hq.symm
  rw [e,this,List.getElem?_map,List.getElem?_eq_getElem hj];rfl
theorem zdx(f:ByteArray)(e:Int)(a:Option Addr)(n cap:Nat)(c u:Int)(w:World)(k:Int)(hk:k=if 20<f.size∨20<n then 1 else 0):
  Calls Tryz.prog 37 #[rv f e (.slice a n cap) c u] w fun r w'=>r= .returned (.int .i64 k)∧Below w.heap.size w w':=by
 unfold rv
 by_cases h1:20<f.size
 ·have HK:Hid (k=1):=by rw [hk,if_pos (Or.inl h1)];trivial
  clear hk
  go_enter Tryz.func37,Tryz.ntmps37
  go_wp2
  go_ret
  exact ⟨ze HK.out.symm,zC _ _⟩
 ·by_cases h2:20<n
  ·have HK:Hid (k=1):=by rw [hk,if_pos (Or.inr h2)];trivial
   clear hk
   go_enter Tryz.func37,Tryz.ntmps37
   go_wp2
   go_ret
   exact ⟨ze HK.out.symm,zC _ _⟩
  ·have HK:Hid (k=0):=by rw [hk,if_neg (by omega)];trivial
   clear hk
   go_enter Tryz.func37,Tryz.ntmps37
   go_wp2
   go_ret
   exact ⟨ze HK.out.symm,zC _ _⟩
end Go.Proofs.YtpeafgddbbojaaaGreatDoor
namespace Go.Proofs.YtpeafgddbbojaaaGreatDoor
open Go.ChangeShapes Go.WideShapes Go.ChangeAt Go.RowKit Cal
theorem own:ownKnob Tryz.prog.godebug=none:=by kernel_rfl
theorem zlS:Tryz.prog.globalNamed "lammastide/api.ErrBound"=some 4:=by kernel_rfl
theorem zlT:(Tryz.prog.globals[4]?).map (·.type)=some 41:=by kernel_rfl
theorem zlU:Tryz.prog.globalNamed "lammastide/api.ErrShape"=some 0:=by kernel_rfl
theorem zlV:(Tryz.prog.globals[0]?).map (·.type)=some 41:=by kernel_rfl
theorem zmQ:Tryz.prog.globalNamed "lammastide/api.ErrName"=some 2:=by kernel_rfl
theorem zmR:(Tryz.prog.globals[2]?).map (·.type)=some 41:=by kernel_rfl
theorem zlW:Tryz.prog.globalNamed "lammastide/api.ErrOrder"=some 5:=by kernel_rfl
theorem zlX:(Tryz.prog.globals[5]?).map (·.type)=some 41:=by kernel_rfl
theorem zkF:Tryz.prog.cellsOf 271=1:=by kernel_rfl
theorem zmJ:Tryz.prog.cellsOf 9=1:=by kernel_rfl
theorem zna: "*"++ "errors.errorString"= "*errors.errorString":=by decide
theorem zhm(u:TypeId)(h:Tryz.prog.typeName? 3 u=some "*errors.errorString"):u=269:=
 typeName_ptr_named (nm:= "errors.errorString") (by rw [zna];kernel_rfl) (by kernel_rfl) (by decide) u (by rw [zna];exact h)
theorem vF{n:String}{g:Nat}{text:List UInt8}{r:List (String×DataW Unit)}{W:World}
  (h:laidMet Tryz.prog ((n,.iface "*errors.errorString" (.ptr (.agg [.lit (.string text)])))::r) W) (hg:Tryz.prog.globalNamed n=some g) (ht:(Tryz.prog.globals[g]?).map (·.type)=some 41):
  ∃ a:Addr,W.cell? ⟨g,0,none⟩=some (.iface 269 (.pointer (some a))):=by
 obtain ⟨a,s,hv,_,_,_⟩:=laid_sentinel h hg ht Tryz.underlying41 zhm Tryz.underlying269 Tryz.underlying271 rfl rfl Tryz.underlying9 zkF zmJ
 exact ⟨a,by simpa using World.var?_cell hg hv 0⟩
theorem zmS:Tryz.prog.cellsOf 45=5:=by kernel_rfl
theorem zlY:Tryz.prog.cellsOf 3=1:=by kernel_rfl
theorem zlZ:Tryz.prog.cellsOf 43=1:=by kernel_rfl
end Go.Proofs.YtpeafgddbbojaaaGreatDoor
namespace Go.Proofs.YtpeafgddbbojaaaGreatDoor.Cal
theorem zfa: ∀ {l m:List Int},l.Pairwise (· < ·)→m.Pairwise (· < ·)→(∀ x,x∈l↔x∈m)→l=m
 |[],[],_,_,_=>rfl
 |[],b::m,_,_,h=>absurd ((h b).2 (List.mem_cons_self ..)) (by simp)
 |a::l,[],_,_,h=>absurd ((h a).1 (List.mem_cons_self ..)) (by simp)
 |a::l,b::m,hl,hm,h=>by
  rw [List.pairwise_cons] at hl hm
  have hab:a=b:=by
   have h1:=(h a).1 (List.mem_cons_self ..)
   have h2:=(h b).2 (List.mem_cons_self ..)
   rw [List.mem_cons] at h1 h2
   rcases h1 with h1|h1
   ·exact h1
   ·rcases h2 with h2|h2
    ·exact h2.symm
    ·have:=hm.1 _ h1;have:=hl.1 _ h2;omega
  subst hab
  congr 1
  refine zfa hl.2 hm.2 (fun x=> ?_)
  have hx:=h x
  rw [List.mem_cons,List.mem_cons] at hx
  constructor
  ·intro h1
   rcases hx.1 (.inr h1) with h2|h2
   ·subst h2;have:=hl.1 _ h1;omega
   ·exact h2
  ·intro h1
   rcases hx.2 (.inr h1) with h2|h2
   ·subst h2;have:=hm.1 _ h1;omega
   ·exact h2
open Go.Lib in
theorem xq(zs:List Int)(hs:zs.Pairwise (· ≤ ·)): ∀ m,m≤zs.length→(compactUpTo zs.toArray m).Pairwise (· < ·)∧(∀ x,x∈compactUpTo zs.toArray m↔ ∃ (j:Nat) (h:j<zs.length),j<m∧zs[j]=x)
 |0,_=>⟨List.Pairwise.nil,fun x=>⟨fun h=>absurd h (by simp [compactUpTo]),fun ⟨_,_,h,_⟩=>by omega⟩⟩
 |m+1,hm=>by
  obtain ⟨ih1,ih2⟩:=xq zs hs m (by omega)
  have hlt:m<zs.length:=by omega
  have em:zs.toArray[m]! =zs[m]:=by simp [hlt]
  rw [compactUpTo_succ]
  by_cases hk:keeps zs.toArray m=true
  ·rw [if_pos hk,em]
   refine ⟨List.pairwise_append.2 ⟨ih1,List.pairwise_singleton _ _,fun x hx y hy=> ?_⟩,fun x=> ?_⟩
   ·rw [List.mem_singleton] at hy
    subst hy
    obtain ⟨j,hj,hjm,rfl⟩:=(ih2 x).1 hx
    unfold keeps at hk
    rw [decide_eq_true_iff] at hk
    have hm0:m≠0:=by omega
    have e1:zs.toArray[m - 1]! =zs[m - 1]:=by simp [show m - 1<zs.length by omega]
    have hne:zs[m]≠zs[m - 1]:=by
     rcases hk with q|q
     ·exact absurd q hm0
     ·rwa [em,e1] at q
    have p1:zs[m - 1]≤zs[m]:=List.pairwise_iff_getElem.1 hs (m - 1) m (by omega) hlt (by omega)
    have p2:zs[j]≤zs[m - 1]:=by
     rcases Nat.lt_or_ge j (m - 1) with q|q
     ·exact List.pairwise_iff_getElem.1 hs j (m - 1) hj (by omega) q
     ·have:j=m - 1:=by omega
      subst this;exact Int.le_refl _
    omega
   ·rw [List.mem_append,List.mem_singleton,ih2]
    constructor
    ·rintro (⟨j,hj,h1,h2⟩|rfl)
     ·exact ⟨j,hj,by omega,h2⟩
     ·exact ⟨m,hlt,by omega,rfl⟩
    ·rintro ⟨j,hj,h1,h2⟩
     rcases Nat.lt_or_ge j m with q|q
     ·exact .inl ⟨j,hj,q,h2⟩
     ·have:j=m:=by omega
      subst this;exact .inr h2.symm
  ·rw [if_neg hk,List.append_nil]
   refine ⟨ih1,fun x=> ?_⟩
   rw [ih2]
   constructor
   ·rintro ⟨j,hj,h1,h2⟩;exact ⟨j,hj,by omega,h2⟩
   ·rintro ⟨j,hj,h1,h2⟩
    rcases Nat.lt_or_ge j m with q|q
    ·exact ⟨j,hj,q,h2⟩
    ·have:j=m:=by omega
     subst this
     unfold keeps at hk
     rw [decide_eq_true_iff] at hk
     have hm0:j≠0:=fun q=>hk (.inl q)
     have e1:zs.toArray[j - 1]! =zs[j - 1]:=by simp [show j - 1<zs.length by omega]
     have he:zs[j]=zs[j - 1]:=Classical.byContradiction (fun q=>hk (.inr (by rw [em,e1];exact q)))
     exact ⟨j - 1,by omega,by omega,by rw [←he];exact h2⟩
end Go.Proofs.YtpeafgddbbojaaaGreatDoor.Cal
namespace Go.Proofs.YtpeafgddbbojaaaGreatDoor
open Go.RowKit Cal
def Ints(w:World)(sl:Value)(xs:List Int):Prop:=
 ∃ (a:Option Addr) (c:Nat),sl= .slice a xs.length c∧xs.length≤80000∧xs.length≤c∧
  ∀ (j:Nat) (h:j<xs.length),∃ b:Nat,a=some ⟨b,0,none⟩∧b<w.heap.size∧w.cell? ⟨b,j,none⟩=some (.int .i64 xs[j])
theorem Ints.step{w w':World}{sl:Value}{xs:List Int}(h:Ints w sl xs)(hb:Below w.heap.size w w'):Ints w' sl xs:=by
 obtain ⟨a,c,h1,h2,h3,h4⟩:=h
 refine ⟨a,c,h1,h2,h3,fun j hj=> ?_⟩
 obtain ⟨b,e,hl,hc⟩:=h4 j hj
 exact ⟨b,e,Nat.lt_of_lt_of_le hl hb.size,(hb.cell (p:=⟨b,j,none⟩) hl).trans hc⟩
theorem Ints.nil(w:World)(c:Nat):Ints w (.slice none 0 c) []:=⟨none,c,rfl,by simp,by simp,fun j h=>absurd h (by simp)⟩
def Movs(w:World)(sl:Value)(ms:List (Int×Int)):Prop:=
 ∃ (a:Option Addr) (c:Nat),sl= .slice a ms.length c∧ms.length≤80000∧ms.length≤c∧
  ∀ (j:Nat) (h:j<ms.length),∃ b:Nat,a=some ⟨b,0,none⟩∧b<w.heap.size∧w.cell? ⟨b,j*2,none⟩=some (.int .i64 ms[j].1)∧w.cell? ⟨b,j*2+1,none⟩=some (.int .i64 ms[j].2)
theorem Movs.step{w w':World}{sl:Value}{ms:List (Int×Int)}(h:Movs w sl ms)(hb:Below w.heap.size w w'):Movs w' sl ms:=by
 obtain ⟨a,c,h1,h2,h3,h4⟩:=h
 refine ⟨a,c,h1,h2,h3,fun j hj=> ?_⟩
 obtain ⟨b,e,hl,hc,hd⟩:=h4 j hj
 exact ⟨b,e,Nat.lt_of_lt_of_le hl hb.size,(hb.cell (p:=⟨b,j*2,none⟩) hl).trans hc,(hb.cell (p:=⟨b,j*2+1,none⟩) hl).trans hd⟩
theorem Movs.nil(w:World)(c:Nat):Movs w (.slice none 0 c) []:=⟨none,c,rfl,by simp,by simp,fun j h=>absurd h (by simp)⟩
def okc(c:UInt8):Prop:=(97≤(c.toNat:Int)∧(c.toNat:Int)≤122)∨(48≤(c.toNat:Int)∧(c.toNat:Int)≤57)
def zdX(s:ByteArray):Prop:=(∀ (j:Nat) (h:j<s.size),okc s[j])∧1≤s.size∧s.size≤12
def okt(c:UInt8):Prop:=32≤(c.toNat:Int)∧(c.toNat:Int)≤126∧(c.toNat:Int)≠124
def zfe(s:ByteArray):Prop:=(∀ (j:Nat) (h:j<s.size),okt s[j])∧s.size≤40
set_option maxHeartbeats 1000000 in
theorem zff(s:ByteArray)(w:World)(hs:s.size≤60)(b:Bool)(hb:b=true↔zdX s):
  Calls Tryz.prog 58 #[.string s] w fun r w'=>r= .returned (.bool b)∧w'=w:=by
 have HB:=hid hb
 clear hb
 go_enter Tryz.func58,Tryz.ntmps58
 go_wp2
 go_loop [3,4,5,8] (fun _ _ _ i=> ∃ k:Nat,k≤s.size∧i= .int .i64 k∧Hid (∀ (j:Nat) (h:j<s.size),j<k→okc s[j])) (fun _ _ _ i=>s.size - (intOf i).toNat)
 case atStart=>exact ⟨0,Nat.zero_le _,rfl,fun j _ h=>absurd h (Nat.not_lt_zero _)⟩
 case round=>
  obtain ⟨k,hk,rfl,HA⟩:=hrel
  by_cases hlt:k<s.size
  ·have HN:Hid (okc s[k]→ ∀ (j:Nat) (h:j<s.size),j<k+1→okc s[j]):=fun hx j hj hjk=>by
    by_cases ej:j=k
    ·subst ej;exact hx
    ·exact HA.out j hj (by omega)
   have HF:Hid (¬ okc s[k]→b=false):=fun hx=>by
    cases b with
    |false=>rfl
    |true=>exact absurd ((HB.out.1 rfl).1 k hlt) hx
   clear HA HB
   have hok:Hid (okc s[k]↔(97≤(s[k].toNat:Int)∧(s[k].toNat:Int)≤122)∨(48≤(s[k].toNat:Int)∧(s[k].toNat:Int)≤57)):=Iff.rfl
   by_cases h1:97≤(s[k].toNat:Int)∧(s[k].toNat:Int)≤122
   ·have HN':Hid (_):=HN.out (hok.out.2 (.inl h1))
    clear HF HN hok
    obtain ⟨h1,h2⟩:=h1
    go_wp2
    go_round
    case rel=>exact ⟨k+1,by omega,by go_num,HN'.out⟩
    case measure=>simp [intOf];omega
   ·by_cases h2:48≤(s[k].toNat:Int)∧(s[k].toNat:Int)≤57
    ·have HN':Hid (_):=HN.out (hok.out.2 (.inr h2))
     clear HF HN hok h1
     obtain ⟨h1,h2⟩:=h2
     go_wp2
     go_round
     case rel=>exact ⟨k+1,by omega,by go_num,HN'.out⟩
     case measure=>simp [intOf];omega
    ·have HF':Hid (b=false):=HF.out (fun q=>by rcases hok.out.1 q with q|q;exact h1 q;exact h2 q)
     clear HF HN hok
     have h3:(s[k].toNat:Int)<48∨(57<(s[k].toNat:Int)∧(s[k].toNat:Int)<97)∨122<(s[k].toNat:Int):=by omega
     clear h1 h2
     rcases h3 with h3|⟨h3,h4⟩|h3
     ·go_wp2
      go_ret
      exact ⟨zg HF'.out.symm,rfl⟩
     ·have e1:decide ((s[k].toNat:Int)≤57)=false:=decide_eq_false (by omega)
      go_wp2
      go_ret
      exact ⟨zg HF'.out.symm,rfl⟩
     ·have e1:decide ((s[k].toNat:Int)≤57)=false:=decide_eq_false (by omega)
      have e2:decide ((s[k].toNat:Int)≤122)=false:=decide_eq_false (by omega)
      go_wp2
      go_ret
      exact ⟨zg HF'.out.symm,rfl⟩
  ·have HR:Hid (b=true↔1≤s.size∧s.size≤12):=by
    show _↔_
    rw [HB.out]
    exact ⟨fun q=>q.2,fun q=>⟨fun j hj=>HA.out j hj (by omega),q⟩⟩
   clear HA HB
   go_wp2
   all_goals
    go_ret
    refine ⟨zg ?_,rfl⟩
    rw [Bool.eq_iff_iff,HR.out]
    simp
    try omega
set_option maxHeartbeats 1000000 in
theorem zbf(s:ByteArray)(w:World)(hs:s.size≤60)(b:Bool)(hb:b=true↔zfe s):
  Calls Tryz.prog 59 #[.string s] w fun r w'=>r= .returned (.bool b)∧Below w.heap.size w w':=by
 have HB:=hid hb
 clear hb
 go_enter Tryz.func59,Tryz.ntmps59
 go_wp2
 go_loopw [3,6] (fun _ i wr=> ∃ k q:Nat,k≤s.size∧i= .int .i64 k∧wr=w.drewN q∧Hid (∀ (j:Nat) (h:j<s.size),j<k→okt s[j])) (fun _ i _=>s.size - (intOf i).toNat)
 case atStart=>exact ⟨0,0,Nat.zero_le _,rfl,rfl,fun j _ h=>absurd h (Nat.not_lt_zero _)⟩
 case round=>
  obtain ⟨k,q,hk,rfl,rfl,HA⟩:=hrel
  by_cases hlt:k<s.size
  ·have HN:Hid (okt s[k]→ ∀ (j:Nat) (h:j<s.size),j<k+1→okt s[j]):=fun hx j hj hjk=>by
    by_cases ej:j=k
    ·subst ej;exact hx
    ·exact HA.out j hj (by omega)
   have HF:Hid (¬ okt s[k]→b=false):=fun hx=>by
    cases b with
    |false=>rfl
    |true=>exact absurd ((HB.out.1 rfl).1 k hlt) hx
   have hok:Hid (okt s[k]↔32≤(s[k].toNat:Int)∧(s[k].toNat:Int)≤126∧(s[k].toNat:Int)≠124):=Iff.rfl
   clear HA HB
   by_cases h1:(s[k].toNat:Int)<32
   ·have HF':Hid (b=false):=HF.out (fun x=>by have:=hok.out.1 x;omega)
    have e1:decide ((s[k].toNat:Int)<32)=true:=decide_eq_true h1
    clear HF HN hok
    go_wp2_with (fail)
    go_quiet (fail)
    go_wp2
    go_ret
    exact ⟨zg HF'.out.symm,zB (zN _ _) (zN _ _)⟩
   ·have e1:decide ((s[k].toNat:Int)<32)=false:=decide_eq_false h1
    by_cases h2:126<(s[k].toNat:Int)
    ·have HF':Hid (b=false):=HF.out (fun x=>by have:=hok.out.1 x;omega)
     have e2:decide (126<(s[k].toNat:Int))=true:=decide_eq_true h2
     clear HF HN hok
     go_wp2_with (fail)
     go_quiet (fail)
     go_wp2
     go_ret
     exact ⟨zg HF'.out.symm,zB (zN _ _) (zN _ _)⟩
    ·have e2:decide (126<(s[k].toNat:Int))=false:=decide_eq_false h2
     by_cases h3:(s[k].toNat:Int)=124
     ·have HF':Hid (b=false):=HF.out (fun x=>by have:=hok.out.1 x;omega)
      have e3:((s[k].toNat:Int)==(((⟨#[124]⟩:ByteArray)[0]'(by decide)).toNat:Int))=true:=by show ((s[k].toNat:Int)==124)=true;rw [beq_iff_eq];exact h3
      clear HF HN hok h3
      go_wp2_with (fail)
      go_quiet (fail)
      go_wp2
      go_ret
      exact ⟨zg HF'.out.symm,zB (zN _ _) (zN _ _)⟩
     ·have HN':Hid (_):=HN.out (hok.out.2 ⟨by omega,by omega,h3⟩)
      have e3:((s[k].toNat:Int)==(((⟨#[124]⟩:ByteArray)[0]'(by decide)).toNat:Int))=false:=by show ((s[k].toNat:Int)==124)=false;rw [beq_eq_false_iff_ne];exact h3
      clear HF HN hok h3
      go_wp2_with (fail)
      go_quiet (fail)
      go_wp2
      go_roundw
      case rel=>exact ⟨k+1,_,by omega,by go_num,rfl,HN'.out⟩
      case measure=>simp [intOf];omega
  ·have HR:Hid (b=true↔s.size≤40):=by
    show _↔_
    rw [HB.out]
    exact ⟨fun q=>q.2,fun q=>⟨fun j hj=>HA.out j hj (by omega),q⟩⟩
   clear HA HB
   go_wp2
   all_goals
    go_ret
    refine ⟨zg ?_,zN _ _⟩
    rw [Bool.eq_iff_iff,HR.out]
    simp
    try omega
theorem zao(n:Int)(w:World)(b:Bool)(hb:b=true↔(0≤n∧n≤73048)):Calls Tryz.prog 60 #[.int .i64 n] w fun r w'=>r= .returned (.bool b)∧w'=w:=by
 have HB:Hid (_):=hb
 clear hb
 go_enter Tryz.func60,Tryz.ntmps60
 go_wp2
 all_goals
  go_ret
  refine ⟨zg ?_,rfl⟩
  rw [Bool.eq_iff_iff,HB.out]
  simp
  try omega
theorem zbV(ds:List Int)(sl:Value)(w:World)(hd:Ints w sl ds)(b:Bool)(hb:b=true↔zgC ds):
  Calls Tryz.prog 95 #[sl] w fun r w'=>r= .returned (.bool b)∧Below w.heap.size w w':=by
 obtain ⟨a,cap,rfl,h20,hcap,hc⟩:=hd
 have HC:Hid (_):=hc
 have HB:Hid (_):=hb
 clear hc hb
 go_enter Tryz.func95,Tryz.ntmps95
 go_wp2
 go_loopw [3] (fun i wr=> ∃ m q:Nat,(m+1≤ds.length∨m=0)∧i= .int .i64 ((m:Int)+1)∧wr=w.drewN q∧Hid (∀ (j:Nat) (h:j+1<ds.length),j<m→ds[j]<ds[j+1])) (fun i _=>ds.length - (intOf i).toNat)
 case atStart=>exact ⟨0,0,Or.inr rfl,rfl,rfl,fun j _ h=>absurd h (by omega)⟩
 case round=>
  obtain ⟨m,q,hk,rfl,rfl,HA⟩:=hrel
  by_cases hlt:m+1<ds.length
  ·obtain ⟨blk,rfl,hblk,hcell⟩:=HC.out (m+1) hlt
   obtain ⟨blk',eb,_,hcell'⟩:=HC.out m (by omega)
   have eb':blk'=blk:=by simpa using eb.symm
   subst eb'
   have HN:Hid (ds[m]<ds[m+1]→ ∀ (j:Nat) (h:j+1<ds.length),j<m+1→ds[j]<ds[j+1]):=fun hx j hj hjk=>by
    by_cases ej:j=m
    ·subst ej;exact hx
    ·exact HA.out j hj (by omega)
   have HF:Hid (¬ ds[m]<ds[m+1]→b=false):=fun hx=>by
    cases b with
    |false=>rfl
    |true=>exact absurd ((HB.out.1 rfl) m hlt) hx
   clear HA HB HC eb
   generalize ds[m+1]=d at hcell HN HF
   generalize ds[m]=d' at hcell' HN HF
   have hlt':(m:Int)+1<ds.length:=by omega
   by_cases hx:d'<d
   ·have HN':Hid (_):=HN.out hx
    clear HF HN
    go_wp2_with (fail)
    go_quiet (fail)
    go_wp2
    go_roundw
    case rel=>exact ⟨m+1,_,by omega,by go_num,rfl,HN'.out⟩
    case measure=>simp [intOf];omega
   ·have HF':Hid (b=false):=HF.out hx
    clear HF HN
    have hx':d≤d':=by omega
    go_wp2_with (fail)
    go_quiet (fail)
    go_wp2
    go_ret
    exact ⟨zg HF'.out.symm,zB (zN _ _) (zN _ _)⟩
  ·have HR:Hid (b=true):=HB.out.2 (fun j hj=>HA.out j hj (by omega))
   clear HA HB HC
   have hlt': ¬ (m:Int)+1<ds.length:=by omega
   go_wp2
   go_ret
   exact ⟨zg HR.out.symm,zN _ _⟩
end Go.Proofs.YtpeafgddbbojaaaGreatDoor
