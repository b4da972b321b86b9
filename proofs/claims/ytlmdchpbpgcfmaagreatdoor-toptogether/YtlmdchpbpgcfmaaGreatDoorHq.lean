/- Package net: Do; what the laws ask of package net. -/
import Derived.Test.YtlmdchpbpgcfmaaGreatDoorN5
import Derived.Test.YtlmdchpbpgcfmaaGreatDoorN2
import Derived.Test.YtlmdchpbpgcfmaaGreatDoorGf
import Derived.Deep.DeepCutAuto
set_option linter.unusedSimpArgs false
set_option linter.unusedVariables false
set_option maxRecDepth 100000
set_option maxHeartbeats 8000000
namespace Go.Proofs.YtlmdchpbpgcfmaaGreatDoor
namespace Hq
open Go.ChangeShapes Go.WideShapes Go.ChangeAt Go.RowKit Cm Ka Kb Na Om Oa Oz Oc Og Oi Hm Ia Ic Ie Um Aa Hc Hd Hi Hl Hs
open La (bel bel_drew errV_zero errV_ne own_ge own_grow own_below Lies)
theorem do_ed (X:Nat) (t a b c:Int) (k:Value) (R:World→Prop) (w:World) (ht:t=1∨t=2∨t=7∨t=8) (C:∀W,Below w.heap.size w W→Calls Tryz.prog 36 #[ptr X,evV (t,a,b,c)] W fun r w'=>r=.returned k∧R w'):
  Calls Tryz.prog 8 #[ptr X,evV (t,a,b,c)] w fun r w'=>r=.returned k∧R w':=by
 rcases ht with rfl | rfl | rfl | rfl
 ·have hB0:Below w.heap.size w (w.alloc (.cells #[.int .i64 1,.int .i64 a,.int .i64 b,.int .i64 c] 30)):=(Below.refl _ _).alloc (Nat.le_refl _) _
  have hA0:=heap_alloc_new w (.cells #[.int .i64 1,.int .i64 a,.int .i64 b,.int .i64 c] 30)
  go_enter Tryz.func8,Tryz.ntmps8
  go_upto_region 1 with fail
  generalize w.alloc (.cells #[.int .i64 1,.int .i64 a,.int .i64 b,.int .i64 c] 30)=w0 at hB0 hA0 ⊢
  have HB0:=Hid.mk' hB0
  have y0:=blk_cell hA0 (i:=0) (u:=.int .i64 1) rfl
  have y1:=blk_cell hA0 (i:=1) (u:=.int .i64 a) rfl
  have y2:=blk_cell hA0 (i:=2) (u:=.int .i64 b) rfl
  have y3:=blk_cell hA0 (i:=3) (u:=.int .i64 c) rfl
  have C0:=C w0 hB0
  clear hB0 hA0 C
  go_wp2_with fail
  refine C0.mono ?_
  rintro e w1 ⟨rfl,h1⟩
  have H1:=Hid.mk' h1
  clear h1 C0
  go_wp2_with fail
  go_ret
  exact⟨rfl,H1.out⟩
 ·have hB0:Below w.heap.size w (w.alloc (.cells #[.int .i64 2,.int .i64 a,.int .i64 b,.int .i64 c] 30)):=(Below.refl _ _).alloc (Nat.le_refl _) _
  have hA0:=heap_alloc_new w (.cells #[.int .i64 2,.int .i64 a,.int .i64 b,.int .i64 c] 30)
  go_enter Tryz.func8,Tryz.ntmps8
  go_upto_region 1 with fail
  generalize w.alloc (.cells #[.int .i64 2,.int .i64 a,.int .i64 b,.int .i64 c] 30)=w0 at hB0 hA0 ⊢
  have HB0:=Hid.mk' hB0
  have y0:=blk_cell hA0 (i:=0) (u:=.int .i64 2) rfl
  have y1:=blk_cell hA0 (i:=1) (u:=.int .i64 a) rfl
  have y2:=blk_cell hA0 (i:=2) (u:=.int .i64 b) rfl
  have y3:=blk_cell hA0 (i:=3) (u:=.int .i64 c) rfl
  have C0:=C w0 hB0
  clear hB0 hA0 C
  go_wp2_with fail
  refine C0.mono ?_
  rintro e w1 ⟨rfl,h1⟩
  have H1:=Hid.mk' h1
  clear h1 C0
  go_wp2_with fail
  go_ret
  exact⟨rfl,H1.out⟩
 ·have hB0:Below w.heap.size w (w.alloc (.cells #[.int .i64 7,.int .i64 a,.int .i64 b,.int .i64 c] 30)):=(Below.refl _ _).alloc (Nat.le_refl _) _
  have hA0:=heap_alloc_new w (.cells #[.int .i64 7,.int .i64 a,.int .i64 b,.int .i64 c] 30)
  go_enter Tryz.func8,Tryz.ntmps8
  go_upto_region 1 with fail
  generalize w.alloc (.cells #[.int .i64 7,.int .i64 a,.int .i64 b,.int .i64 c] 30)=w0 at hB0 hA0 ⊢
  have HB0:=Hid.mk' hB0
  have y0:=blk_cell hA0 (i:=0) (u:=.int .i64 7) rfl
  have y1:=blk_cell hA0 (i:=1) (u:=.int .i64 a) rfl
  have y2:=blk_cell hA0 (i:=2) (u:=.int .i64 b) rfl
  have y3:=blk_cell hA0 (i:=3) (u:=.int .i64 c) rfl
  have C0:=C w0 hB0
  clear hB0 hA0 C
  go_wp2_with fail
  refine C0.mono ?_
  rintro e w1 ⟨rfl,h1⟩
  have H1:=Hid.mk' h1
  clear h1 C0
  go_wp2_with fail
  go_ret
  exact⟨rfl,H1.out⟩
 ·have hB0:Below w.heap.size w (w.alloc (.cells #[.int .i64 8,.int .i64 a,.int .i64 b,.int .i64 c] 30)):=(Below.refl _ _).alloc (Nat.le_refl _) _
  have hA0:=heap_alloc_new w (.cells #[.int .i64 8,.int .i64 a,.int .i64 b,.int .i64 c] 30)
  go_enter Tryz.func8,Tryz.ntmps8
  go_upto_region 1 with fail
  generalize w.alloc (.cells #[.int .i64 8,.int .i64 a,.int .i64 b,.int .i64 c] 30)=w0 at hB0 hA0 ⊢
  have HB0:=Hid.mk' hB0
  have y0:=blk_cell hA0 (i:=0) (u:=.int .i64 8) rfl
  have y1:=blk_cell hA0 (i:=1) (u:=.int .i64 a) rfl
  have y2:=blk_cell hA0 (i:=2) (u:=.int .i64 b) rfl
  have y3:=blk_cell hA0 (i:=3) (u:=.int .i64 c) rfl
  have C0:=C w0 hB0
  clear hB0 hA0 C
  go_wp2_with fail
  refine C0.mono ?_
  rintro e w1 ⟨rfl,h1⟩
  have H1:=Hid.mk' h1
  clear h1 C0
  go_wp2_with fail
  go_ret
  exact⟨rfl,H1.out⟩
theorem do_move (X:Nat) (t a b c:Int) (k:Value) (R:World→Prop) (w:World) (ht:t=4∨t=5∨t=6) (C:∀W,Below w.heap.size w W→Calls Tryz.prog 38 #[ptr X,.int .i64 t,.int .i64 a] W fun r w'=>r=.returned k∧R w'):
  Calls Tryz.prog 8 #[ptr X,evV (t,a,b,c)] w fun r w'=>r=.returned k∧R w':=by
 rcases ht with rfl | rfl | rfl
 ·have hB0:Below w.heap.size w (w.alloc (.cells #[.int .i64 4,.int .i64 a,.int .i64 b,.int .i64 c] 30)):=(Below.refl _ _).alloc (Nat.le_refl _) _
  have hA0:=heap_alloc_new w (.cells #[.int .i64 4,.int .i64 a,.int .i64 b,.int .i64 c] 30)
  go_enter Tryz.func8,Tryz.ntmps8
  go_upto_region 1 with fail
  generalize w.alloc (.cells #[.int .i64 4,.int .i64 a,.int .i64 b,.int .i64 c] 30)=w0 at hB0 hA0 ⊢
  have HB0:=Hid.mk' hB0
  have y0:=blk_cell hA0 (i:=0) (u:=.int .i64 4) rfl
  have y1:=blk_cell hA0 (i:=1) (u:=.int .i64 a) rfl
  have y2:=blk_cell hA0 (i:=2) (u:=.int .i64 b) rfl
  have y3:=blk_cell hA0 (i:=3) (u:=.int .i64 c) rfl
  have C0:=C w0 hB0
  clear hB0 hA0 C
  go_wp2_with fail
  refine C0.mono ?_
  rintro e w1 ⟨rfl,h1⟩
  have H1:=Hid.mk' h1
  clear h1 C0
  go_wp2_with fail
  go_ret
  exact⟨rfl,H1.out⟩
 ·have hB0:Below w.heap.size w (w.alloc (.cells #[.int .i64 5,.int .i64 a,.int .i64 b,.int .i64 c] 30)):=(Below.refl _ _).alloc (Nat.le_refl _) _
  have hA0:=heap_alloc_new w (.cells #[.int .i64 5,.int .i64 a,.int .i64 b,.int .i64 c] 30)
  go_enter Tryz.func8,Tryz.ntmps8
  go_upto_region 1 with fail
  generalize w.alloc (.cells #[.int .i64 5,.int .i64 a,.int .i64 b,.int .i64 c] 30)=w0 at hB0 hA0 ⊢
  have HB0:=Hid.mk' hB0
  have y0:=blk_cell hA0 (i:=0) (u:=.int .i64 5) rfl
  have y1:=blk_cell hA0 (i:=1) (u:=.int .i64 a) rfl
  have y2:=blk_cell hA0 (i:=2) (u:=.int .i64 b) rfl
  have y3:=blk_cell hA0 (i:=3) (u:=.int .i64 c) rfl
  have C0:=C w0 hB0
  clear hB0 hA0 C
  go_wp2_with fail
  refine C0.mono ?_
  rintro e w1 ⟨rfl,h1⟩
  have H1:=Hid.mk' h1
  clear h1 C0
  go_wp2_with fail
  go_ret
  exact⟨rfl,H1.out⟩
 ·have hB0:Below w.heap.size w (w.alloc (.cells #[.int .i64 6,.int .i64 a,.int .i64 b,.int .i64 c] 30)):=(Below.refl _ _).alloc (Nat.le_refl _) _
  have hA0:=heap_alloc_new w (.cells #[.int .i64 6,.int .i64 a,.int .i64 b,.int .i64 c] 30)
  go_enter Tryz.func8,Tryz.ntmps8
  go_upto_region 1 with fail
  generalize w.alloc (.cells #[.int .i64 6,.int .i64 a,.int .i64 b,.int .i64 c] 30)=w0 at hB0 hA0 ⊢
  have HB0:=Hid.mk' hB0
  have y0:=blk_cell hA0 (i:=0) (u:=.int .i64 6) rfl
  have y1:=blk_cell hA0 (i:=1) (u:=.int .i64 a) rfl
  have y2:=blk_cell hA0 (i:=2) (u:=.int .i64 b) rfl
  have y3:=blk_cell hA0 (i:=3) (u:=.int .i64 c) rfl
  have C0:=C w0 hB0
  clear hB0 hA0 C
  go_wp2_with fail
  refine C0.mono ?_
  rintro e w1 ⟨rfl,h1⟩
  have H1:=Hid.mk' h1
  clear h1 C0
  go_wp2_with fail
  go_ret
  exact⟨rfl,H1.out⟩
theorem do_send (X:Nat) (a b c:Int) (k:Value) (R:World→Prop) (w:World) (C:∀W,Below w.heap.size w W→Calls Tryz.prog 37 #[ptr X,.int .i64 a,.int .i64 b] W fun r w'=>r=.returned k∧R w'):
  Calls Tryz.prog 8 #[ptr X,evV (3,a,b,c)] w fun r w'=>r=.returned k∧R w':=by
  have hB0:Below w.heap.size w (w.alloc (.cells #[.int .i64 3,.int .i64 a,.int .i64 b,.int .i64 c] 30)):=(Below.refl _ _).alloc (Nat.le_refl _) _
  have hA0:=heap_alloc_new w (.cells #[.int .i64 3,.int .i64 a,.int .i64 b,.int .i64 c] 30)
  go_enter Tryz.func8,Tryz.ntmps8
  go_upto_region 1 with fail
  generalize w.alloc (.cells #[.int .i64 3,.int .i64 a,.int .i64 b,.int .i64 c] 30)=w0 at hB0 hA0 ⊢
  have HB0:=Hid.mk' hB0
  have y0:=blk_cell hA0 (i:=0) (u:=.int .i64 3) rfl
  have y1:=blk_cell hA0 (i:=1) (u:=.int .i64 a) rfl
  have y2:=blk_cell hA0 (i:=2) (u:=.int .i64 b) rfl
  have y3:=blk_cell hA0 (i:=3) (u:=.int .i64 c) rfl
  have C0:=C w0 hB0
  clear hB0 hA0 C
  go_wp2_with fail
  refine C0.mono ?_
  rintro e w1 ⟨rfl,h1⟩
  have H1:=Hid.mk' h1
  clear h1 C0
  go_wp2_with fail
  go_ret
  exact⟨rfl,H1.out⟩
theorem do_none (X:Nat) (t a b c:Int) (w:World) (h1:(t==1)=false) (h2:(t==2)=false) (h3:(t==3)=false) (h4:(t==4)=false) (h5:(t==5)=false) (h6:(t==6)=false) (h7:(t==7)=false) (h8:(t==8)=false):
  Calls Tryz.prog 8 #[ptr X,evV (t,a,b,c)] w fun r w'=>r=.returned (.iface 84 (.int .i64 1))∧Below w.heap.size w w':=by
  have hB0:Below w.heap.size w (w.alloc (.cells #[.int .i64 t,.int .i64 a,.int .i64 b,.int .i64 c] 30)):=(Below.refl _ _).alloc (Nat.le_refl _) _
  have hA0:=heap_alloc_new w (.cells #[.int .i64 t,.int .i64 a,.int .i64 b,.int .i64 c] 30)
  go_enter Tryz.func8,Tryz.ntmps8
  go_upto_region 1 with fail
  generalize w.alloc (.cells #[.int .i64 t,.int .i64 a,.int .i64 b,.int .i64 c] 30)=w0 at hB0 hA0 ⊢
  have HB0:=Hid.mk' hB0
  have y0:=blk_cell hA0 (i:=0) (u:=.int .i64 t) rfl
  have y1:=blk_cell hA0 (i:=1) (u:=.int .i64 a) rfl
  have y2:=blk_cell hA0 (i:=2) (u:=.int .i64 b) rfl
  have y3:=blk_cell hA0 (i:=3) (u:=.int .i64 c) rfl
  clear hB0 hA0
  go_wp2_with fail
  go_ret
  exact⟨rfl,HB0.out⟩
theorem does (X:Nat) (N:Nt) (F:Nat→Prop) (e:Ev) (w:World) (h:At w X N F) (hgl:Gl N) (hu:N.us.length≤100):Calls Tryz.prog 8 #[ptr X,evV e] w fun r w'=>r=.returned (errV (evE N e))∧Left' w X F (evS N e) w':=by
 obtain⟨t,a,b,c⟩:=e
 by_cases h1:isEd t=true
 ·exact do_ed X t a b c _ _ w (Ht.is_ed h1) fun W hb=>(Gg.edit_any X N F (t,a,b,c) W (h.below hb) h1).mono fun r w' ⟨e,hl⟩=>⟨e,Left'.first hb hl⟩
 ·by_cases h3:t=3
  ·subst h3
   exact do_send X a b c _ _ w fun W hb=>(Hx.send_any X N F a b c W (h.below hb) hu).mono fun r w' ⟨e,hl⟩=>⟨e,Left'.first hb hl⟩
  ·by_cases h4:isCo t=true
   ·exact do_move X t a b c _ _ w (Hw.is_co h4) fun W hb=>(Hw.move_any X N F t a b c W (h.below hb) hgl hu h4).mono fun r w' ⟨e,hl⟩=>⟨e,Left'.first hb hl⟩
   ·have e1:evE N (t,a,b,c)=1:=by unfold evE;dsimp only;rw[if_neg h1,if_neg h3,if_neg h4]
    have e2:evS N (t,a,b,c)=N:=by unfold evS;dsimp only;rw[if_neg h1,if_neg h3,if_neg h4]
    rw[e1,e2,errV_ne (by decide)]
    unfold isEd at h1
    unfold isCo at h4
    simp only[Bool.or_eq_true,decide_eq_true_eq,not_or] at h1 h4
    refine(do_none X t a b c w (by simp;omega) (by simp;omega) (by simp;omega) (by simp;omega) (by simp;omega) (by simp;omega) (by simp;omega) (by simp;omega)).mono ?_
    rintro r w' ⟨rfl,hb⟩
    exact⟨rfl,left_same h hb⟩
def und (w:World) (X:Nat):Nat:=match w.cell? ⟨X,1,none⟩ with
 | some (.slice _ n _)=>n
 | _=>0
theorem und_eq {w:World} {X:Nat} {N:Nt} {F:Nat→Prop} (h:At w X N F):und w X=N.us.length:=by
 obtain⟨vd,vu,E,Fd,m,hF⟩:=h
 obtain⟨p,c,e,_⟩:=m.cellU
 have hc:=blk_cell m.blk (i:=1) (u:=vu) rfl
 rw[e] at hc
 unfold und
 rw[hc]
def says:NetSays:=⟨At,und,und_eq,fun h=>h.lt,fun h hs hz=>h.stay hs hz,Hz.new_yes,Hz.new_no,does⟩
theorem under:NetUnder says:=⟨under_any⟩
theorem same:NetSame says:=⟨Gf.same_any⟩
theorem text:NetText says:=⟨text_any⟩
theorem doc:NetDoc says:=⟨doc_any⟩
end Hq
end Go.Proofs.YtlmdchpbpgcfmaaGreatDoor
