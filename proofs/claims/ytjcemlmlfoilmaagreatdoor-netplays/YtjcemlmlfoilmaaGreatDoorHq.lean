import Derived.Test.YtjcemlmlfoilmaaGreatDoorN5
import Derived.Test.YtjcemlmlfoilmaaGreatDoorGf
set_option linter.unusedSimpArgs false
set_option linter.unusedVariables false
set_option maxRecDepth 100000
set_option maxHeartbeats 8000000
namespace Go.Proofs.YtjcemlmlfoilmaaGreatDoor
namespace Hq
open Go.RowKit Ka Ic Hc Hd Hl
open La (aH)
variable (X:Nat)(t a b c:Int)(k:Value)(R:World->Prop)(w:World)
theorem aJh(ht:t=1\/t=2\/t=7\/t=8)(C:∀W,zB w W->Calls Tryz.prog 26 #[ptr X,evV (t,a,b,c)] W fun r w'=>r=.returned k/\R w'):
  Calls Tryz.prog 8 #[ptr X,evV (t,a,b,c)] w fun r w'=>r=.returned k/\R w':=by
 rcases ht with rfl | rfl | rfl | rfl
 ·have f:zB w (w.alloc (.cells #[zI 1,zI a,zI b,zI c] 33)):=(qD _ _).alloc (qC _) _;have d:=heap_alloc_new w (.cells #[zI 1,zI a,zI b,zI c] 33);go_in;go_upto_region 1 with fail
  generalize w.alloc (.cells #[zI 1,zI a,zI b,zI c] 33)=w0 at f d |-;have l:=Hid.mk' f;have m:=aB d (i:=0) (u:=zI 1) rfl;have n:=aB d (i:=1) (u:=zI a) rfl;have o:=aB d (i:=2) (u:=zI b) rfl;have p:=aB d (i:=3) (u:=zI c) rfl;have g:=C w0 f;clear f d C;go_wp2_with fail;refine g.mono ?_;rintro e w1 ⟨rfl,h⟩;have j:=Hid.mk' h;clear h g;go_wp2_with fail;go_ret;exact⟨rfl,j.out⟩
 ·have f:zB w (w.alloc (.cells #[zI 2,zI a,zI b,zI c] 33)):=(qD _ _).alloc (qC _) _;have d:=heap_alloc_new w (.cells #[zI 2,zI a,zI b,zI c] 33);go_in;go_upto_region 1 with fail
  generalize w.alloc (.cells #[zI 2,zI a,zI b,zI c] 33)=w0 at f d |-;have l:=Hid.mk' f;have m:=aB d (i:=0) (u:=zI 2) rfl;have n:=aB d (i:=1) (u:=zI a) rfl;have o:=aB d (i:=2) (u:=zI b) rfl;have p:=aB d (i:=3) (u:=zI c) rfl;have g:=C w0 f;clear f d C;go_wp2_with fail;refine g.mono ?_;rintro e w1 ⟨rfl,h⟩;have j:=Hid.mk' h;clear h g;go_wp2_with fail;go_ret;exact⟨rfl,j.out⟩
 ·have f:zB w (w.alloc (.cells #[zI 7,zI a,zI b,zI c] 33)):=(qD _ _).alloc (qC _) _;have d:=heap_alloc_new w (.cells #[zI 7,zI a,zI b,zI c] 33);go_in;go_upto_region 1 with fail
  generalize w.alloc (.cells #[zI 7,zI a,zI b,zI c] 33)=w0 at f d |-;have l:=Hid.mk' f;have m:=aB d (i:=0) (u:=zI 7) rfl;have n:=aB d (i:=1) (u:=zI a) rfl;have o:=aB d (i:=2) (u:=zI b) rfl;have p:=aB d (i:=3) (u:=zI c) rfl;have g:=C w0 f;clear f d C;go_wp2_with fail;refine g.mono ?_;rintro e w1 ⟨rfl,h⟩;have j:=Hid.mk' h;clear h g;go_wp2_with fail;go_ret;exact⟨rfl,j.out⟩
 ·have f:zB w (w.alloc (.cells #[zI 8,zI a,zI b,zI c] 33)):=(qD _ _).alloc (qC _) _;have d:=heap_alloc_new w (.cells #[zI 8,zI a,zI b,zI c] 33);go_in;go_upto_region 1 with fail
  generalize w.alloc (.cells #[zI 8,zI a,zI b,zI c] 33)=w0 at f d |-;have l:=Hid.mk' f;have m:=aB d (i:=0) (u:=zI 8) rfl;have n:=aB d (i:=1) (u:=zI a) rfl;have o:=aB d (i:=2) (u:=zI b) rfl;have p:=aB d (i:=3) (u:=zI c) rfl;have g:=C w0 f;clear f d C;go_wp2_with fail;refine g.mono ?_;rintro e w1 ⟨rfl,h⟩;have j:=Hid.mk' h;clear h g;go_wp2_with fail;go_ret;exact⟨rfl,j.out⟩
theorem aHq(ht:t=4\/t=5\/t=6)(C:∀W,zB w W->Calls Tryz.prog 28 #[ptr X,.int .i64 t,.int .i64 a] W fun r w'=>r=.returned k/\R w'):
  Calls Tryz.prog 8 #[ptr X,evV (t,a,b,c)] w fun r w'=>r=.returned k/\R w':=by
 rcases ht with rfl | rfl | rfl
 ·have f:zB w (w.alloc (.cells #[zI 4,zI a,zI b,zI c] 33)):=(qD _ _).alloc (qC _) _;have d:=heap_alloc_new w (.cells #[zI 4,zI a,zI b,zI c] 33);go_in;go_upto_region 1 with fail
  generalize w.alloc (.cells #[zI 4,zI a,zI b,zI c] 33)=w0 at f d |-;have l:=Hid.mk' f;have m:=aB d (i:=0) (u:=zI 4) rfl;have n:=aB d (i:=1) (u:=zI a) rfl;have o:=aB d (i:=2) (u:=zI b) rfl;have p:=aB d (i:=3) (u:=zI c) rfl;have g:=C w0 f;clear f d C;go_wp2_with fail;refine g.mono ?_;rintro e w1 ⟨rfl,h⟩;have j:=Hid.mk' h;clear h g;go_wp2_with fail;go_ret;exact⟨rfl,j.out⟩
 ·have f:zB w (w.alloc (.cells #[zI 5,zI a,zI b,zI c] 33)):=(qD _ _).alloc (qC _) _;have d:=heap_alloc_new w (.cells #[zI 5,zI a,zI b,zI c] 33);go_in;go_upto_region 1 with fail
  generalize w.alloc (.cells #[zI 5,zI a,zI b,zI c] 33)=w0 at f d |-;have l:=Hid.mk' f;have m:=aB d (i:=0) (u:=zI 5) rfl;have n:=aB d (i:=1) (u:=zI a) rfl;have o:=aB d (i:=2) (u:=zI b) rfl;have p:=aB d (i:=3) (u:=zI c) rfl;have g:=C w0 f;clear f d C;go_wp2_with fail;refine g.mono ?_;rintro e w1 ⟨rfl,h⟩;have j:=Hid.mk' h;clear h g;go_wp2_with fail;go_ret;exact⟨rfl,j.out⟩
 ·have f:zB w (w.alloc (.cells #[zI 6,zI a,zI b,zI c] 33)):=(qD _ _).alloc (qC _) _;have d:=heap_alloc_new w (.cells #[zI 6,zI a,zI b,zI c] 33);go_in;go_upto_region 1 with fail
  generalize w.alloc (.cells #[zI 6,zI a,zI b,zI c] 33)=w0 at f d |-;have l:=Hid.mk' f;have m:=aB d (i:=0) (u:=zI 6) rfl;have n:=aB d (i:=1) (u:=zI a) rfl;have o:=aB d (i:=2) (u:=zI b) rfl;have p:=aB d (i:=3) (u:=zI c) rfl;have g:=C w0 f;clear f d C;go_wp2_with fail;refine g.mono ?_;rintro e w1 ⟨rfl,h⟩;have j:=Hid.mk' h;clear h g;go_wp2_with fail;go_ret;exact⟨rfl,j.out⟩
theorem aH8(C:∀W,zB w W->Calls Tryz.prog 27 #[ptr X,.int .i64 a,.int .i64 b] W fun r w'=>r=.returned k/\R w'):
  Calls Tryz.prog 8 #[ptr X,evV (3,a,b,c)] w fun r w'=>r=.returned k/\R w':=by
  have f:zB w (w.alloc (.cells #[zI 3,zI a,zI b,zI c] 33)):=(qD _ _).alloc (qC _) _;have d:=heap_alloc_new w (.cells #[zI 3,zI a,zI b,zI c] 33);go_in;go_upto_region 1 with fail
  generalize w.alloc (.cells #[zI 3,zI a,zI b,zI c] 33)=w0 at f d |-;have l:=Hid.mk' f;have m:=aB d (i:=0) (u:=zI 3) rfl;have n:=aB d (i:=1) (u:=zI a) rfl;have o:=aB d (i:=2) (u:=zI b) rfl;have p:=aB d (i:=3) (u:=zI c) rfl;have g:=C w0 f;clear f d C;go_wp2_with fail;refine g.mono ?_;rintro e w1 ⟨rfl,h⟩;have j:=Hid.mk' h;clear h g;go_wp2_with fail;go_ret;exact⟨rfl,j.out⟩
theorem aHn(h1:(t==1)=false)(h2:(t==2)=false)(h3:(t==3)=false)(h4:(t==4)=false)(h5:(t==5)=false)(h6:(t==6)=false)(h7:(t==7)=false)(h8:(t==8)=false):
  Calls Tryz.prog 8 #[ptr X,evV (t,a,b,c)] w fun r w'=>r=.returned (.iface 59 (.int .i64 1))/\zB w w':=by
  have e:zB w (w.alloc (.cells #[zI t,zI a,zI b,zI c] 33)):=(qD _ _).alloc (qC _) _;have d:=heap_alloc_new w (.cells #[zI t,zI a,zI b,zI c] 33);go_in;go_upto_region 1 with fail
  generalize w.alloc (.cells #[zI t,zI a,zI b,zI c] 33)=w0 at e d |-;have f:=Hid.mk' e;have g:=aB d (i:=0) (u:=zI t) rfl;have h:=aB d (i:=1) (u:=zI a) rfl;have j:=aB d (i:=2) (u:=zI b) rfl;have k:=aB d (i:=3) (u:=zI c) rfl;clear e d;go_wp2_with fail;go_ret;exact⟨rfl,f.out⟩
theorem does(N:Nt)(F:Nat->Prop)(e:Ev)(w:World)(h:At w X N F)(hgl:Gl N)(hu:N.us.length<=100):Calls Tryz.prog 8 #[ptr X,evV e] w fun r w'=>r=.returned (errV (evE N e))/\Left' w X F (evS N e) w':=by
 obtain⟨t,a,b,c⟩:=e;by_cases f:isEd t=true
 ·exact aJh X t a b c _ _ w (Ht.is_ed f) fun W d=>(Gg.aGO X N F (t,a,b,c) W (h.below d) f).mono fun r w' ⟨e,hl⟩=>⟨e,Left'.first d hl⟩
 ·by_cases m:t=3
  ·subst m;exact aH8 X a b c _ _ w fun W d=>(Hx.aGP X N F a b c W (h.below d) hu).mono fun r w' ⟨e,hl⟩=>⟨e,Left'.first d hl⟩
  ·by_cases g:isCo t=true
   ·exact aHq X t a b c _ _ w (Hw.is_co g) fun W d=>(Hw.aGc X N F t a b c W (h.below d) hgl hu g).mono fun r w' ⟨e,hl⟩=>⟨e,Left'.first d hl⟩
   ·have n:evE N (t,a,b,c)=1:=by unfold evE;dsimp only;rw[if_neg f,if_neg m,if_neg g]
    have o:evS N (t,a,b,c)=N:=by unfold evS;dsimp only;rw[if_neg f,if_neg m,if_neg g]
    rw[n,o,aH (by decide)];unfold isEd at f;unfold isCo at g;simp only[xJ,decide_eq_true_eq,not_or] at f g;refine(aHn X t a b c w (by simp;omega) (by simp;omega) (by simp;omega) (by simp;omega) (by simp;omega) (by simp;omega) (by simp;omega) (by simp;omega)).mono ?_;rintro r w' ⟨rfl,d⟩;exact⟨rfl,bS h d⟩
end Hq
end Go.Proofs.YtjcemlmlfoilmaaGreatDoor
