namespace Go.Proofs.YtpeafgddbbojaaaGreatDoor.Cal
def lpB(y:Int):Bool:=(y % 4==0)&&((!(y % 100==0))||(y % 400==0))
def lp(y:Int):Int:=if lpB y=true then 1 else 0
def yd(y:Int):Int:=365+lp y
def dim(y m:Int):Int:=
 if y<2000∨2199<y then 0 else
 if m=1∨m=3∨m=5∨m=7∨m=8∨m=10∨m=12 then 31 else
 if m=4∨m=6∨m=9∨m=11 then 30 else
 if m=2 then 28+lp y else 0
def dby(y:Int):Int:=365*(y - 2000)+(y - 2000+3) / 4 - (y - 2000+99) / 100+(y - 2000+399) / 400
def cum(y m:Int):Int:=(367*m - 362) / 12+(if m≤2 then 0 else lp y - 2)
def num(y m d:Int):Int:=dby y+cum y m+d - 1
def vld(y m d:Int):Prop:=2000≤y∧y≤2199∧1≤m∧m≤12∧1≤d∧d≤dim y m
theorem zhs(y:Int):0≤lp y∧lp y≤1:=by unfold lp;split<;>omega
theorem zht(y:Int):(lpB y=true∧lp y=1)∨(lpB y=false∧lp y=0):=by
 unfold lp;cases h:lpB y<;>simp
theorem xi(y:Int):lpB y=true↔(y % 4=0∧(y % 100≠0∨y % 400=0)):=by
 unfold lpB;simp
theorem yy(y m:Int):0≤dim y m∧dim y m≤31:=by
 have:=zhs y;unfold dim;repeat' split
 all_goals omega
theorem zl8(y m:Int)(h:1≤dim y m):2000≤y∧y≤2199∧1≤m∧m≤12:=by
 have:=zhs y;unfold dim at h;repeat' split at h
 all_goals omega
theorem zaq(y m:Int)(h: ¬ (2000≤y∧y≤2199∧1≤m∧m≤12)):dim y m=0:=by
 unfold dim;repeat' split
 all_goals omega
theorem zhu(y m:Int)(h0:2000≤y)(h1:y≤2199)(h:m=1∨m=3∨m=5∨m=7∨m=8∨m=10∨m=12):dim y m=31:=by
 unfold dim;rw [if_neg (by omega),if_pos h]
theorem zhv(y m:Int)(h0:2000≤y)(h1:y≤2199)(h:m=4∨m=6∨m=9∨m=11):dim y m=30:=by
 unfold dim;rw [if_neg (by omega),if_neg (by omega),if_pos h]
theorem zcx(y:Int)(h0:2000≤y)(h1:y≤2199):dim y 2=28+lp y:=by
 unfold dim;rw [if_neg (by omega),if_neg (by omega),if_neg (by omega),if_pos rfl]
theorem vG(y:Int):dby (y+1)=dby y+yd y:=by
 unfold yd lp dby
 by_cases hl:lpB y=true
 ·rw [if_pos hl];rw [xi] at hl;omega
 ·rw [if_neg hl];rw [xi] at hl;omega
theorem vv:dby 2000=0:=by decide
theorem zhw:dby 2200=73049:=by decide
theorem zl9(y:Int):365≤yd y∧yd y≤366:=by have:=zhs y;unfold yd;omega
theorem vx(a b:Int)(h:a≤b):dby a≤dby b:=by unfold dby;omega
theorem zbY(y:Int)(h0:2000≤y)(h:y≤2200):0≤dby y∧dby y≤73049:=by
 have a:=vx 2000 y h0
 have b:=vx y 2200 h
 rw [vv] at a;rw [zhw] at b;omega
theorem zar(y:Int):cum y 1=0:=by unfold cum;rw [if_pos (by omega)];omega
theorem zhx(y:Int):cum y 13=yd y:=by unfold cum yd;rw [if_neg (by omega)];omega
theorem m12(m:Int)(h1:1≤m)(h2:m≤12):m=1∨m=2∨m=3∨m=4∨m=5∨m=6∨m=7∨m=8∨m=9∨m=10∨m=11∨m=12:=by omega
theorem xE(y m:Int)(h1:2000≤y)(h2:y≤2199)(h3:1≤m)(h4:m≤12):cum y (m+1)=cum y m+dim y m:=by
 have hy: ¬ (y<2000∨2199<y):=by omega
 rcases m12 m h3 h4 with h|h|h|h|h|h|h|h|h|h|h|h<;>subst h<;>simp [cum,dim,hy]<;>omega
theorem zbl(y m:Int)(h1:1≤m)(h2:m≤13):0≤cum y m∧cum y m≤366:=by
 have:=zhs y;unfold cum;split<;>omega
theorem vy(y m k:Int)(h0:1≤m)(h:m≤k):cum y m≤cum y k:=by
 have:=zhs y;unfold cum;split<;>split<;>omega
theorem zjZ(y m:Int)(h0:1≤m)(h:m≤13):cum y m≤yd y:=by rw [←zhx];exact vy y m 13 h0 h
theorem zhy{y m d:Int}(h:vld y m d):0≤num y m d∧num y m d≤73048:=by
 obtain ⟨a,b,c,e,f,g⟩:=h
 have h1:=zbY y a (by omega)
 have h2:=zbl y m c (by omega)
 have h3:=xE y m a b c e
 have h4:=zjZ y (m+1) (by omega) (by omega)
 have h5:=vG y
 have h6:=zbY (y+1) (by omega) (by omega)
 unfold num;omega
theorem zaZ{y m d:Int}(h:vld y m d):dby y≤num y m d∧num y m d<dby (y+1):=by
 obtain ⟨a,b,c,e,f,g⟩:=h
 have h2:=zbl y m c (by omega)
 have h3:=xE y m a b c e
 have h4:=zjZ y (m+1) (by omega) (by omega)
 have h5:=vG y
 unfold num;omega
theorem ju{y m d:Int}(h:vld y m d):dby y+cum y m≤num y m d∧num y m d<dby y+cum y (m+1):=by
 obtain ⟨a,b,c,e,f,g⟩:=h
 have h3:=xE y m a b c e
 unfold num;omega
theorem zkH{y m d y' m' d':Int}(h:vld y m d)(h':vld y' m' d')(e:num y m d=num y' m' d'):y=y'∧m=m'∧d=d':=by
 have a:=zaZ h
 have a':=zaZ h'
 have hy:y=y':=by
  rcases Int.lt_trichotomy y y' with l|l|l
  ·have:=vx (y+1) y' (by omega);omega
  ·exact l
  ·have:=vx (y'+1) y (by omega);omega
 subst hy
 have b:=ju h
 have b':=ju h'
 have hm:m=m':=by
  rcases Int.lt_trichotomy m m' with l|l|l
  ·have:=vy y (m+1) m' (by have:=h.2.2.1;omega) (by omega);omega
  ·exact l
  ·have:=vy y (m'+1) m (by have:=h'.2.2.1;omega) (by omega);omega
 subst hm
 refine ⟨rfl,rfl,?_⟩
 unfold num at e;omega
theorem zel(n:Int)(h0:0≤n)(h1:n≤73048): ∃ y:Int,2000≤y∧y≤2199∧dby y≤n∧n<dby (y+1):=by
 have key: ∀ k:Nat,k≤200→n<dby (2000+k)→ ∃ y:Int,2000≤y∧y<2000+k∧dby y≤n∧n<dby (y+1):=by
  intro k
  induction k with
  |zero=>intro _ h;have:dby (2000+((0:Nat):Int))=0:=vv;omega
  |succ k ih=>
   intro hk h
   by_cases hc:n<dby (2000+k)
   ·obtain ⟨y,a,b,c,d⟩:=ih (by omega) hc;exact ⟨y,a,by omega,c,d⟩
   ·refine ⟨2000+k,by omega,by omega,by omega,?_⟩
    have e:(2000:Int)+(k:Int)+1=2000+((k+1:Nat):Int):=by omega
    rw [e];exact h
 obtain ⟨y,a,b,c,d⟩:=key 200 (by omega) (by have:dby (2000+((200:Nat):Int))=73049:=zhw;omega)
 exact ⟨y,a,by omega,c,d⟩
theorem zdA(y r:Int)(h0:0≤r)(h:r<yd y): ∃ m:Int,1≤m∧m≤12∧cum y m≤r∧r<cum y (m+1):=by
 have key: ∀ k:Nat,k≤12→r<cum y (1+k)→ ∃ m:Int,1≤m∧m<1+k∧cum y m≤r∧r<cum y (m+1):=by
  intro k
  induction k with
  |zero=>intro _ h;have:cum y (1+((0:Nat):Int))=0:=zar y;omega
  |succ k ih=>
   intro hk h
   by_cases hc:r<cum y (1+k)
   ·obtain ⟨m,a,b,c,d⟩:=ih (by omega) hc;exact ⟨m,a,by omega,c,d⟩
   ·refine ⟨1+k,by omega,by omega,by omega,?_⟩
    have e:(1:Int)+(k:Int)+1=1+((k+1:Nat):Int):=by omega
    rw [e];exact h
 obtain ⟨m,a,b,c,d⟩:=key 12 (by omega) (by have:cum y (1+((12:Nat):Int))=yd y:=zhx y;omega)
 exact ⟨m,a,by omega,c,d⟩
theorem zbm(n:Int)(h0:0≤n)(h1:n≤73048): ∃ y m d:Int,vld y m d∧num y m d=n:=by
 obtain ⟨y,a,b,c,d⟩:=zel n h0 h1
 have hs:=vG y
 obtain ⟨m,e,f,g,h⟩:=zdA y (n - dby y) (by omega) (by omega)
 have hc:=xE y m a b e f
 exact ⟨y,m,n - dby y - cum y m+1,⟨a,b,e,f,by omega,by omega⟩,by unfold num;omega⟩
end Go.Proofs.YtpeafgddbbojaaaGreatDoor.Cal
