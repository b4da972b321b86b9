import Derived.Test.YtjcemlmlfoilmaaGreatDoorG2
set_option linter.unusedSimpArgs false
set_option linter.unusedVariables false
set_option maxRecDepth 100000
set_option maxHeartbeats 8000000
namespace Go.Proofs.YtjcemlmlfoilmaaGreatDoor
open Go.RowKit Ic Hc Hd
namespace Gw
open Gp
open La (aC)
theorem aIV(X:Nat)(t a b c:Int)(k:Int)(R:World->Prop)(w:World)(ht:t=1\/t=2\/t=7\/t=8)(C:∀W,zB w W->Calls Tryz.prog 22 #[ptr X,evV (t,a,b,c)] W fun r w'=>r=.returned (.int .i64 k)/\R w'):
  Calls Tryz.prog 7 #[ptr X,evV (t,a,b,c)] w fun r w'=>r=.returned (.int .i64 k)/\R w':=by
 rcases ht with rfl | rfl | rfl | rfl
 ·have f:zB w (w.alloc (.cells #[zI 1,zI a,zI b,zI c] 33)):=(qD _ _).alloc (qC _) _;have d:=heap_alloc_new w (.cells #[zI 1,zI a,zI b,zI c] 33);go_in;go_upto_region 1 with fail
  generalize w.alloc (.cells #[zI 1,zI a,zI b,zI c] 33)=w0 at f d |-;have l:=Hid.mk' f;have m:=aB d (i:=0) (u:=zI 1) rfl;have n:=aB d (i:=1) (u:=zI a) rfl;have o:=aB d (i:=2) (u:=zI b) rfl;have p:=aB d (i:=3) (u:=zI c) rfl;have g:=C w0 f;clear f d C;go_wp2_with fail;refine g.mono ?_;rintro e w1 ⟨rfl,h⟩;have j:=Hid.mk' h;clear h g;go_wp2_with fail;go_ret;exact⟨rfl,j.out⟩
 ·have f:zB w (w.alloc (.cells #[zI 2,zI a,zI b,zI c] 33)):=(qD _ _).alloc (qC _) _;have d:=heap_alloc_new w (.cells #[zI 2,zI a,zI b,zI c] 33);go_in;go_upto_region 1 with fail
  generalize w.alloc (.cells #[zI 2,zI a,zI b,zI c] 33)=w0 at f d |-;have l:=Hid.mk' f;have m:=aB d (i:=0) (u:=zI 2) rfl;have n:=aB d (i:=1) (u:=zI a) rfl;have o:=aB d (i:=2) (u:=zI b) rfl;have p:=aB d (i:=3) (u:=zI c) rfl;have g:=C w0 f;clear f d C;go_wp2_with fail;refine g.mono ?_;rintro e w1 ⟨rfl,h⟩;have j:=Hid.mk' h;clear h g;go_wp2_with fail;go_ret;exact⟨rfl,j.out⟩
 ·have f:zB w (w.alloc (.cells #[zI 7,zI a,zI b,zI c] 33)):=(qD _ _).alloc (qC _) _;have d:=heap_alloc_new w (.cells #[zI 7,zI a,zI b,zI c] 33);go_in;go_upto_region 1 with fail
  generalize w.alloc (.cells #[zI 7,zI a,zI b,zI c] 33)=w0 at f d |-;have l:=Hid.mk' f;have m:=aB d (i:=0) (u:=zI 7) rfl;have n:=aB d (i:=1) (u:=zI a) rfl;have o:=aB d (i:=2) (u:=zI b) rfl;have p:=aB d (i:=3) (u:=zI c) rfl;have g:=C w0 f;clear f d C;go_wp2_with fail;refine g.mono ?_;rintro e w1 ⟨rfl,h⟩;have j:=Hid.mk' h;clear h g;go_wp2_with fail;go_ret;exact⟨rfl,j.out⟩
 ·have f:zB w (w.alloc (.cells #[zI 8,zI a,zI b,zI c] 33)):=(qD _ _).alloc (qC _) _;have d:=heap_alloc_new w (.cells #[zI 8,zI a,zI b,zI c] 33);go_in;go_upto_region 1 with fail
  generalize w.alloc (.cells #[zI 8,zI a,zI b,zI c] 33)=w0 at f d |-;have l:=Hid.mk' f;have m:=aB d (i:=0) (u:=zI 8) rfl;have n:=aB d (i:=1) (u:=zI a) rfl;have o:=aB d (i:=2) (u:=zI b) rfl;have p:=aB d (i:=3) (u:=zI c) rfl;have g:=C w0 f;clear f d C;go_wp2_with fail;refine g.mono ?_;rintro e w1 ⟨rfl,h⟩;have j:=Hid.mk' h;clear h g;go_wp2_with fail;go_ret;exact⟨rfl,j.out⟩
theorem aFE(X:Nat)(t a b c:Int)(w:World)(h1:(t==1)=false)(h2:(t==2)=false)(h3:(t==3)=false)(h4:(t==4)=false)(h5:(t==5)=false)(h6:(t==6)=false)(h7:(t==7)=false)(h8:(t==8)=false):
  Calls Tryz.prog 7 #[ptr X,evV (t,a,b,c)] w fun r w'=>r=.returned (.int .i64 1)/\zB w w':=by
  have e:zB w (w.alloc (.cells #[zI t,zI a,zI b,zI c] 33)):=(qD _ _).alloc (qC _) _;have d:=heap_alloc_new w (.cells #[zI t,zI a,zI b,zI c] 33);go_in;go_upto_region 1 with fail
  generalize w.alloc (.cells #[zI t,zI a,zI b,zI c] 33)=w0 at e d |-;have f:=Hid.mk' e;have g:=aB d (i:=0) (u:=zI t) rfl;have h:=aB d (i:=1) (u:=zI a) rfl;have j:=aB d (i:=2) (u:=zI b) rfl;have k:=aB d (i:=3) (u:=zI c) rfl;clear e d;go_wp2_with fail;go_ret;exact⟨rfl,f.out⟩
theorem aGq(X:Nat)(N:Nt)(F:Nat->Prop)(e:Ev)(w:World)(h:At w X N F)(he:isEd e.1=true):Calls Tryz.prog 7 #[ptr X,evV e] w fun r w'=>r=.returned (.int .i64 (evE N e))/\Left' w X F (evS N e) w':=by
 obtain⟨t,a,b,c⟩:=e;exact aIV X t a b c _ _ w (Ht.is_ed he) fun W hb=>(Gs.aE4 X N F (t,a,b,c) W (h.below hb) he).mono fun r w' ⟨e,hl⟩=>⟨e,Left'.first hb hl⟩
theorem aFI(X n cn:Nat)(t a b c:Int)(p:Option Addr)(w:World)(c0:∀W,zB w W->W.cell? ⟨X,1,none⟩=some (.slice p n cn))(hn:n<=1000)(ha:out n a)(ht:t=4\/t=5\/t=6):Calls Tryz.prog 7 #[ptr X,evV (t,a,b,c)] w fun r w'=>r=.returned (.int .i64 1)/\zB w w':=by
 rcases ht with rfl | rfl | rfl
 ·have e:zB w (w.alloc (.cells #[zI 4,zI a,zI b,zI c] 33)):=(qD _ _).alloc (qC _) _;have d:=heap_alloc_new w (.cells #[zI 4,zI a,zI b,zI c] 33);by_cases j:a<0
  ·have k:decide (a<0)=true:=by simpa using j
   clear ha j;go_in;go_upto_region 1 with fail
   generalize w.alloc (.cells #[zI 4,zI a,zI b,zI c] 33)=w0 at e d |-;have g:=Hid.mk' e;have l:=aB d (i:=0) (u:=zI 4) rfl;have m:=aB d (i:=1) (u:=zI a) rfl;have o:=aB d (i:=2) (u:=zI b) rfl;have q:=c0 _ e;clear e d c0;go_wp2_with fail;go_quiet (fail)
   generalize f:World.drewN _ _=w1;have h:Hid (zB w w1):=by rw[<-f];exact La.aC g.out _
   clear f;go_wp2_with fail;go_ret;exact⟨rfl,h.out⟩
  ·have k:decide (a<0)=false:=by simpa using j
   have s:decide ((n:Int)<=a)=true:=by unfold out at ha;simp;omega
   have v:(n:Int)<=a:=by unfold out at ha;omega
   clear ha;go_in;go_upto_region 1 with fail
   generalize w.alloc (.cells #[zI 4,zI a,zI b,zI c] 33)=w0 at e d |-;have g:=Hid.mk' e;have l:=aB d (i:=0) (u:=zI 4) rfl;have m:=aB d (i:=1) (u:=zI a) rfl;have o:=aB d (i:=2) (u:=zI b) rfl;have q:=c0 _ e;clear e d c0;go_wp2_with fail;go_quiet (fail)
   generalize f:World.drewN _ _=w1;have h:Hid (zB w w1):=by rw[<-f];exact La.aC g.out _
   clear f;go_wp2_with fail;go_ret;exact⟨rfl,h.out⟩
 ·have e:zB w (w.alloc (.cells #[zI 5,zI a,zI b,zI c] 33)):=(qD _ _).alloc (qC _) _;have d:=heap_alloc_new w (.cells #[zI 5,zI a,zI b,zI c] 33);by_cases j:a<0
  ·have k:decide (a<0)=true:=by simpa using j
   clear ha j;go_in;go_upto_region 1 with fail
   generalize w.alloc (.cells #[zI 5,zI a,zI b,zI c] 33)=w0 at e d |-;have g:=Hid.mk' e;have l:=aB d (i:=0) (u:=zI 5) rfl;have m:=aB d (i:=1) (u:=zI a) rfl;have o:=aB d (i:=2) (u:=zI b) rfl;have q:=c0 _ e;clear e d c0;go_wp2_with fail;go_quiet (fail)
   generalize f:World.drewN _ _=w1;have h:Hid (zB w w1):=by rw[<-f];exact La.aC g.out _
   clear f;go_wp2_with fail;go_ret;exact⟨rfl,h.out⟩
  ·have k:decide (a<0)=false:=by simpa using j
   have s:decide ((n:Int)<=a)=true:=by unfold out at ha;simp;omega
   have v:(n:Int)<=a:=by unfold out at ha;omega
   clear ha;go_in;go_upto_region 1 with fail
   generalize w.alloc (.cells #[zI 5,zI a,zI b,zI c] 33)=w0 at e d |-;have g:=Hid.mk' e;have l:=aB d (i:=0) (u:=zI 5) rfl;have m:=aB d (i:=1) (u:=zI a) rfl;have o:=aB d (i:=2) (u:=zI b) rfl;have q:=c0 _ e;clear e d c0;go_wp2_with fail;go_quiet (fail)
   generalize f:World.drewN _ _=w1;have h:Hid (zB w w1):=by rw[<-f];exact La.aC g.out _
   clear f;go_wp2_with fail;go_ret;exact⟨rfl,h.out⟩
 ·have e:zB w (w.alloc (.cells #[zI 6,zI a,zI b,zI c] 33)):=(qD _ _).alloc (qC _) _;have d:=heap_alloc_new w (.cells #[zI 6,zI a,zI b,zI c] 33);by_cases j:a<0
  ·have k:decide (a<0)=true:=by simpa using j
   clear ha j;go_in;go_upto_region 1 with fail
   generalize w.alloc (.cells #[zI 6,zI a,zI b,zI c] 33)=w0 at e d |-;have g:=Hid.mk' e;have l:=aB d (i:=0) (u:=zI 6) rfl;have m:=aB d (i:=1) (u:=zI a) rfl;have o:=aB d (i:=2) (u:=zI b) rfl;have q:=c0 _ e;clear e d c0;go_wp2_with fail;go_quiet (fail)
   generalize f:World.drewN _ _=w1;have h:Hid (zB w w1):=by rw[<-f];exact La.aC g.out _
   clear f;go_wp2_with fail;go_ret;exact⟨rfl,h.out⟩
  ·have k:decide (a<0)=false:=by simpa using j
   have s:decide ((n:Int)<=a)=true:=by unfold out at ha;simp;omega
   have v:(n:Int)<=a:=by unfold out at ha;omega
   clear ha;go_in;go_upto_region 1 with fail
   generalize w.alloc (.cells #[zI 6,zI a,zI b,zI c] 33)=w0 at e d |-;have g:=Hid.mk' e;have l:=aB d (i:=0) (u:=zI 6) rfl;have m:=aB d (i:=1) (u:=zI a) rfl;have o:=aB d (i:=2) (u:=zI b) rfl;have q:=c0 _ e;clear e d c0;go_wp2_with fail;go_quiet (fail)
   generalize f:World.drewN _ _=w1;have h:Hid (zB w w1):=by rw[<-f];exact La.aC g.out _
   clear f;go_wp2_with fail;go_ret;exact⟨rfl,h.out⟩
end Gw
namespace Gx
open Oz
open La (aC)
theorem aHc(X n cn:Nat)(a b c:Int)(p:Option Addr)(w:World)(c0:∀W,zB w W->W.cell? ⟨X,0,none⟩=some (.slice p n cn))(hn:n<=4)(h:out n a\/out n b):Calls Tryz.prog 7 #[ptr X,evV (3,a,b,c)] w fun r w'=>r=.returned (.int .i64 1)/\zB w w':=by
 unfold out at h;by_cases m:a<0
 ·have A:decide (a<0)=true:=by simpa using m
  clear h m;have e:zB w (w.alloc (.cells #[zI 3,zI a,zI b,zI c] 33)):=(qD _ _).alloc (qC _) _;have d:=heap_alloc_new w (.cells #[zI 3,zI a,zI b,zI c] 33);go_in;go_upto_region 1 with fail
  generalize w.alloc (.cells #[zI 3,zI a,zI b,zI c] 33)=w0 at e d |-;have g:=Hid.mk' e;have o:=aB d (i:=0) (u:=zI 3) rfl;have q:=aB d (i:=1) (u:=zI a) rfl;have s:=aB d (i:=2) (u:=zI b) rfl;have t:=c0 _ e;go_wp2_with fail;go_quiet (fail)
  generalize f:World.drewN _ _=w1;have j:Hid (zB w w1):=by rw[<-f];exact La.aC g.out _
  have k:Hid (zB w0 w1):=by rw[<-f];exact La.aC (qD _ _) _
  clear f e d c0;go_wp2_with fail;go_ret;exact⟨rfl,j.out⟩
 ·have A:decide (a<0)=false:=by simpa using m
  by_cases l:(n:Int)<=a
  ·have v:decide ((n:Int)<=a)=true:=by simpa using l
   clear h;have e:zB w (w.alloc (.cells #[zI 3,zI a,zI b,zI c] 33)):=(qD _ _).alloc (qC _) _;have d:=heap_alloc_new w (.cells #[zI 3,zI a,zI b,zI c] 33);go_in;go_upto_region 1 with fail
   generalize w.alloc (.cells #[zI 3,zI a,zI b,zI c] 33)=w0 at e d |-;have g:=Hid.mk' e;have o:=aB d (i:=0) (u:=zI 3) rfl;have q:=aB d (i:=1) (u:=zI a) rfl;have s:=aB d (i:=2) (u:=zI b) rfl;have t:=c0 _ e;go_wp2_with fail;go_quiet (fail)
   generalize f:World.drewN _ _=w1;have j:Hid (zB w w1):=by rw[<-f];exact La.aC g.out _
   have k:Hid (zB w0 w1):=by rw[<-f];exact La.aC (qD _ _) _
   clear f e d c0;go_wp2_with fail;go_ret;exact⟨rfl,j.out⟩
  ·have v:decide ((n:Int)<=a)=false:=by simpa using l
   by_cases y:b<0
   ·have z:decide (b<0)=true:=by simpa using y
    clear h;have e:zB w (w.alloc (.cells #[zI 3,zI a,zI b,zI c] 33)):=(qD _ _).alloc (qC _) _;have d:=heap_alloc_new w (.cells #[zI 3,zI a,zI b,zI c] 33);go_in;go_upto_region 1 with fail
    generalize w.alloc (.cells #[zI 3,zI a,zI b,zI c] 33)=w0 at e d |-;have g:=Hid.mk' e;have o:=aB d (i:=0) (u:=zI 3) rfl;have q:=aB d (i:=1) (u:=zI a) rfl;have s:=aB d (i:=2) (u:=zI b) rfl;have t:=c0 _ e;go_wp2_with fail;go_quiet (fail)
    generalize f:World.drewN _ _=w1;have j:Hid (zB w w1):=by rw[<-f];exact La.aC g.out _
    have k:Hid (zB w0 w1):=by rw[<-f];exact La.aC (qD _ _) _
    clear f e d c0;go_wp2_with fail;go_ret;exact⟨rfl,j.out⟩
   ·have z:decide (b<0)=false:=by simpa using y
    have B:decide ((n:Int)<=b)=true:=by simp;omega
    have C:(n:Int)<=b:=by omega
    clear h;have e:zB w (w.alloc (.cells #[zI 3,zI a,zI b,zI c] 33)):=(qD _ _).alloc (qC _) _;have d:=heap_alloc_new w (.cells #[zI 3,zI a,zI b,zI c] 33);go_in;go_upto_region 1 with fail
    generalize w.alloc (.cells #[zI 3,zI a,zI b,zI c] 33)=w0 at e d |-;have g:=Hid.mk' e;have o:=aB d (i:=0) (u:=zI 3) rfl;have q:=aB d (i:=1) (u:=zI a) rfl;have s:=aB d (i:=2) (u:=zI b) rfl;have t:=c0 _ e;go_wp2_with fail;go_quiet (fail)
    generalize f:World.drewN _ _=w1;have j:Hid (zB w w1):=by rw[<-f];exact La.aC g.out _
    have k:Hid (zB w0 w1):=by rw[<-f];exact La.aC (qD _ _) _
    clear f e d c0;go_wp2_with fail;go_ret;exact⟨rfl,j.out⟩
theorem aCy(X n cn i:Nat)(c:Int)(p:Option Addr)(w:World)(c0:∀W,zB w W->W.cell? ⟨X,0,none⟩=some (.slice p n cn))(hn:n<=4)(hi:i<n):Calls Tryz.prog 7 #[ptr X,evV (3,i,i,c)] w fun r w'=>r=.returned (.int .i64 3)/\zB w w':=by
 have k:decide ((i:Int)<0)=false:=by simp
 have l:decide ((n:Int)<=(i:Int))=false:=by simp;omega
 have m:¬(n:Int)<=(i:Int):=by omega
 have b:zB w (w.alloc (.cells #[zI 3,zI i,zI i,zI c] 33)):=(qD _ _).alloc (qC _) _;have a:=heap_alloc_new w (.cells #[zI 3,zI i,zI i,zI c] 33);go_in;go_upto_region 1 with fail
 generalize w.alloc (.cells #[zI 3,zI i,zI i,zI c] 33)=w0 at b a |-;have f:=Hid.mk' b;have o:=aB a (i:=0) (u:=zI 3) rfl;have h:=aB a (i:=1) (u:=zI i) rfl;have j:=aB a (i:=2) (u:=zI i) rfl;have q:=c0 _ b;go_wp2_with fail;go_quiet (fail)
 generalize d:World.drewN _ _=w1;have g:Hid (zB w w1):=by rw[<-d];exact La.aC f.out _
 have e:Hid (zB w0 w1):=by rw[<-d];exact La.aC (qD _ _) _
 have s:=aA e.out h;have t:=aA e.out j;clear d b a c0;go_wp2_with fail;go_ret;exact⟨rfl,g.out⟩
theorem aCS(X n cn i j u cu:Nat)(c:Int)(p pu:Option Addr)(w:World)(c0:∀W,zB w W->W.cell? ⟨X,0,none⟩=some (.slice p n cn))(hn:n<=4)(c1:∀W,zB w W->W.cell? ⟨X,1,none⟩=some (.slice pu u cu))(hi:i<n)(hj:j<n)(hij:i≠j)(hu:100<=u)(hu2:u<=1000):Calls Tryz.prog 7 #[ptr X,evV (3,i,j,c)] w fun r w'=>r=.returned (.int .i64 4)/\zB w w':=by
 have o:decide ((i:Int)<0)=false:=by simp
 have q:decide ((n:Int)<=(i:Int))=false:=by simp;omega
 have s:decide ((j:Int)<0)=false:=by simp
 have t:decide ((n:Int)<=(j:Int))=false:=by simp;omega
 have v:¬(n:Int)<=(i:Int):=by omega
 have y:¬(n:Int)<=(j:Int):=by omega
 have h:((i:Int)==(j:Int))=false:=by simp;omega
 have m:(100:Int)<=(u:Int):=by omega
 clear hij hu;have b:zB w (w.alloc (.cells #[zI 3,zI i,zI j,zI c] 33)):=(qD _ _).alloc (qC _) _;have a:=heap_alloc_new w (.cells #[zI 3,zI i,zI j,zI c] 33);go_in;go_upto_region 1 with fail
 generalize w.alloc (.cells #[zI 3,zI i,zI j,zI c] 33)=w0 at b a |-;have g:=Hid.mk' b;have z:=aB a (i:=0) (u:=zI 3) rfl;have k:=aB a (i:=1) (u:=zI i) rfl;have l:=aB a (i:=2) (u:=zI j) rfl;have A:=c0 _ b;go_wp2_with fail;go_quiet (fail)
 generalize d:World.drewN _ _=w1;have e:Hid (zB w w1):=by rw[<-d];exact La.aC g.out _
 have f:Hid (zB w0 w1):=by rw[<-d];exact La.aC (qD _ _) _
 have B:=aA f.out k;have C:=aA f.out l;have D:=c1 _ e.out;clear d b a c0 c1;go_wp2_with fail;go_ret;exact⟨rfl,e.out⟩
end Gx
end Go.Proofs.YtjcemlmlfoilmaaGreatDoor
