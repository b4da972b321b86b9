/- Package net: Same, with its closure. -/
import Derived.Test.YtlmdchpbpgcfmaaGreatDoorH2
import Derived.Test.YtlmdchpbpgcfmaaGreatDoorN2
import Derived.Test.YtlmdchpbpgcfmaaGreatDoorJ11
set_option linter.unusedSimpArgs false
set_option linter.unusedVariables false
set_option maxRecDepth 100000
set_option maxHeartbeats 8000000
namespace Go.Proofs.YtlmdchpbpgcfmaaGreatDoor
namespace Gf
open Go.ChangeShapes Go.WideShapes Go.ChangeAt Go.RowKit Cm Ka Kb Na Om Oa Oz Oc Og Oi Hm Ia Ic Ie Aa Hc Hd Hi Hl Hs
open La (bel bel_drew errV_zero errV_ne own_ge own_grow own_below Lies)
open Lj (BookAt BookNew)
theorem step_call1 {ops:Array Oper} {o:Oper} {a:Act} {W:World} {K:Act→World→Prop} {Q:Exit→Act→World→Prop} {E:Prop} {R:Value→World→Prop} (hgd:o.guard=none) (F:FuncId) (x:Operand) (T:TypeId)
  (ho:o.op=.call { callee:=.value (.func F),args:=#[x],argTypes:=#[T] }) (v0:Value) (hx:a.eval x=v0) (hcf:∀args W,(callFunc F args).run Tryz.prog W=.ok (.enter F args) W) (hC:Calls Tryz.prog F #[v0] W fun e w'=>∃v,e=.returned v∧R v w')
  (h:∀v w',R v w'→K (a.put o.dst v) w'):
  if Region.wanted o (yielded ops a.tmps)=true then Oper.wp Tryz.prog o a W K Q else E:=by
 have hw:Region.wanted o (yielded ops a.tmps)=true:=by simp[Region.wanted,hgd]
 rw[if_pos hw]
 have hr:(execOp a.eval o).run Tryz.prog W=.ok (.enter F #[v0]) W:=by
  have he:a.eval (.func F)=.func (.func F) #[] #[]:=rfl
  unfold execOp
  simp only[ho,resolve,invoke,List.map_toArray,List.map_cons,List.map_nil,hx,he]
  exact hcf _ _
 unfold Oper.wp
 rw[hr,Oper.upon_enter]
 refine hC.mono ?_
 rintro e w' ⟨v,rfl,hv⟩
 exact h v w' hv
def dif (S:Dq) (l:List Bm.Leaf) (m:List Mk):Bool:= !(decide (S.book=l)) || !(decide (S.marks=m))
/- what the closure holds -/
structure Holds (w:World) (L0 M0:Nat) (vl vm:Value) (l:List Bm.Leaf) (m:List Mk):Prop where
 cl:w.cell? ⟨L0,0,none⟩=some vl
 cm:w.cell? ⟨M0,0,none⟩=some vm
 bl:BookAt w vl l
 bm:MksAt w vm m
theorem Holds.below {w w':World} {L0 M0:Nat} {vl vm:Value} {l:List Bm.Leaf} {m:List Mk} (h:Holds w L0 M0 vl vm l m) (hb:Below w.heap.size w w'):Holds w' L0 M0 vl vm l m:=
 ⟨keep_cell hb h.cl,keep_cell hb h.cm,h.bl.below hb,h.bm.below hb⟩
theorem clo_any (D L0 M0:Nat) (S:Dq) (Fd:Nat→Prop) (vl vm:Value) (l:List Bm.Leaf) (m:List Mk) (w:World) (hd:DocAt w D S Fd) (hh:Holds w L0 M0 vl vm l m):
  Calls Tryz.prog 41 #[ptr D,ptr L0,ptr M0] w fun e w'=>e=.returned (.bool (dif S l m))∧Below w.heap.size w w':=by
 obtain⟨pl,nl,cl,rfl⟩:∃p n c,vl=.slice p n c:=by obtain⟨p,c,e,_⟩:=hh.bl;exact⟨_,_,_,e⟩
 obtain⟨pm,nm,cm,rfl⟩:∃p n c,vm=.slice p n c:=by obtain⟨p,c,e,_⟩:=hh.bm;exact⟨_,_,_,e⟩
 have CB:Hid (∀W,Below w.heap.size w W→Calls Tryz.prog 16 #[ptr D] W fun e w'=>∃v',e=.returned v'∧BookAt w' v' S.book∧Below W.heap.size W w'):=fun W hb=>(Il.book_get D _ _ W (hd.below hb)).mono fun e w' ⟨v',h1,h2,h3⟩=>⟨v',h1,h2.1,h3⟩
 have CM:Hid (∀W,Below w.heap.size w W→Calls Tryz.prog 39 #[ptr D] W fun e w'=>∃v',e=.returned v'∧MksAt w' v' S.marks∧Below W.heap.size W w'):=fun W hb=>(Il.marks_get D _ _ W (hd.below hb)).mono fun e w' ⟨v',h1,h2,h3⟩=>⟨v',h1,h2.1,h3⟩
 have EB:Hid (∀W v,Below w.heap.size w W→BookAt W v S.book→Calls Tryz.prog 42 #[v,.slice pl nl cl] W fun e w'=>e=.returned (.bool (decide (S.book=l)))∧Below W.heap.size W w'):=fun W v hb h1=>Hy.eq_leafs v _ _ _ W h1 (hh.below hb).bl (by have:=Il.few_book hd.inv;omega)
 have EM:Hid (∀W v,Below w.heap.size w W→MksAt W v S.marks→Calls Tryz.prog 43 #[v,.slice pm nm cm] W fun e w'=>e=.returned (.bool (decide (S.marks=m)))∧Below W.heap.size W w'):=fun W v hb h1=>Hy.eq_marks v _ _ _ W h1 (hh.below hb).bm (by have:=Il.few_marks hd.inv;omega)
 have x1:=hh.cl
 have x2:=hh.cm
 have HR:=Hid.mk' (Below.refl w.heap.size w)
 have HDF:Hid (dif S l m=(!(decide (S.book=l)) || !(decide (S.marks=m)))):=rfl
 generalize dif S l m=r at HDF ⊢
 generalize decide (S.book=l)=b1 at EB HDF
 generalize decide (S.marks=m)=b2 at EM HDF
 clear hd hh
 cases b1
 ·have hc1:∀args W,(callFunc 16 args).run Tryz.prog W=.ok (.enter 16 args) W:=fun _ _=>by kernel_rfl
  have hc2:∀args W,(callFunc 42 args).run Tryz.prog W=.ok (.enter 42 args) W:=fun _ _=>by kernel_rfl
  have CB':Hid (∀W,Below w.heap.size w W→Calls Tryz.prog 16 #[ptr D] W fun e w'=>∃v,e=.returned v∧((∃p n c,v=.slice p n c)∧BookAt w' v S.book∧Below w.heap.size w w')):=fun W hb=>(CB.out W hb).mono fun e w' ⟨v,h1,h2,h3⟩=>⟨v,h1,(by obtain⟨p,c,e,_⟩:=h2;exact⟨_,_,_,e⟩),h2,bel hb h3⟩
  have EB':Hid (∀W v,Below w.heap.size w W→BookAt W v S.book→Calls Tryz.prog 42 #[v,.slice pl nl cl] W fun e w'=>∃v,e=.returned v∧(v=.bool false∧Below w.heap.size w w'∧Below W.heap.size W w')):=fun W v hb h=>(EB.out W v hb h).mono fun e w' ⟨h1,h2⟩=>⟨_,h1,rfl,bel hb h2,h2⟩
  clear CB EB CM EM
  go_enter Tryz.func41,Tryz.ntmps41
  go_wp2_with fail
  refine wp_region_held_drew (S:=fun W=>W.cell? ⟨L0,0,none⟩=some (.slice pl nl cl)∧W.cell? ⟨M0,0,none⟩=some (.slice pm nm cm)) (by kernel_rfl) ⟨x1,x2⟩ (fun hS0=> ?_)
  refine wpAnyH_take (i:=0) (oi:={ dst:=some 5,op:=Op.move (Operand.tmp 0),type:=40,pos:= "net.go:75",after:=#[],guard:=none }) (v:=ptr D) rfl (by kernel_rfl) (by kernel_rfl) (by kernel_rfl) (fun _ _ _ h=>h) (Or.inl ⟨by rfl,by(intro W hW;obtain⟨g0,g1⟩:=hW;go_simp)⟩) hS0 ?_
  try simp only[Act.put,List.setIfInBounds_toArray,List.set_cons_zero,List.set_cons_succ]
  refine wpAnyH_take (i:=2) (oi:={ dst:=some 7,op:=Op.load 44 (Operand.tmp 1),type:=44,pos:= "net.go:75",after:=#[],guard:=none }) (v:=.slice pl nl cl) rfl (by kernel_rfl) (by kernel_rfl) (by kernel_rfl) (fun _ _ _ h=>h) (Or.inl ⟨by rfl,by(intro W hW;obtain⟨g0,g1⟩:=hW;go_simp)⟩) hS0 ?_
  try simp only[Act.put,List.setIfInBounds_toArray,List.set_cons_zero,List.set_cons_succ]
  refine wpAnyH_ready (rs:=[1]) (by kernel_rfl) (by simp) ?_
  refine AllReadyH.cons (o:={ dst:=some 6,op:=Op.call { callee:=Callee.value (Operand.func 16),args:=#[Operand.tmp 5],argTypes:=#[40] },type:=44,pos:= "net.go:75",after:=#[{ on:=0,ground:=Ground.data }],guard:=none }) rfl (fun K hK=> ?_) AllReadyH.nil
  refine step_call1 rfl 16 (.tmp 5) _ rfl (ptr D) rfl hc1 (CB'.out _ HR.out.drew) ?_
  rintro v6 w6 ⟨⟨p6,n6,c6,rfl⟩,hk6,hb6⟩
  have HB6:=Hid.mk' hb6
  have HK6:=Hid.mk' hk6
  have y1:=keep_cell hb6 x1
  have y2:=keep_cell hb6 x2
  clear hk6 hb6
  refine hK _ _ ⟨y1,y2⟩ (fun hS1=> ?_)
  try simp only[Act.put,List.setIfInBounds_toArray,List.set_cons_zero,List.set_cons_succ]
  refine wpAnyH_ready (rs:=[3]) (by kernel_rfl) (by simp) ?_
  refine AllReadyH.cons (o:={ dst:=some 8,op:=Op.call { callee:=Callee.value (Operand.func 42),args:=#[Operand.tmp 6,Operand.tmp 7],argTypes:=#[44,44] },type:=4,pos:= "net.go:75",after:=#[{ on:=1,ground:=Ground.data },{ on:=2,ground:=Ground.data },{ on:=1,ground:=Ground.chain }],guard:=none }) rfl (fun K hK=> ?_) AllReadyH.nil
  refine Ig.step_call2 rfl 42 (.tmp 6) (.tmp 7) _ _ rfl (.slice p6 n6 c6) (.slice pl nl cl) rfl rfl hc2 (EB'.out _ _ HB6.out HK6.out) ?_
  rintro v7 w7 ⟨rfl,hb7,hq7⟩
  have HB7:=Hid.mk' hb7
  have z1:=keep_cell hq7 y1
  have z2:=keep_cell hq7 y2
  clear hb7 hq7
  refine hK _ _ ⟨z1,z2⟩ (fun hS2=> ?_)
  try simp only[Act.put,List.setIfInBounds_toArray,List.set_cons_zero,List.set_cons_succ]
  refine wpAnyH_take (i:=4) (oi:={ dst:=some 9,op:=Op.unOp UnOp.not 4 (Operand.tmp 8),type:=4,pos:= "net.go:75",after:=#[{ on:=3,ground:=Ground.data }],guard:=none }) (v:=.bool true) rfl (by kernel_rfl) (by kernel_rfl) (by kernel_rfl) (fun _ _ _ h=>h) (Or.inl ⟨by rfl,by(intro W hW;obtain⟨g0,g1⟩:=hW;go_simp)⟩) hS2 ?_
  try simp only[Act.put,List.setIfInBounds_toArray,List.set_cons_zero,List.set_cons_succ]
  refine wpAnyH_take (i:=5) (oi:={ dst:=some 10,op:=Op.move (Operand.tmp 9),type:=4,pos:= "net.go:75",after:=#[{ on:=4,ground:=Ground.data },{ on:=3,ground:=Ground.chain }],guard:=none }) (v:=.bool true) rfl (by kernel_rfl) (by kernel_rfl) (by kernel_rfl) (fun _ _ _ h=>h) (Or.inl ⟨by rfl,by(intro W hW;obtain⟨g0,g1⟩:=hW;go_simp)⟩) hS2 ?_
  try simp only[Act.put,List.setIfInBounds_toArray,List.set_cons_zero,List.set_cons_succ]
  refine wpAnyH_take (i:=6) (oi:={ dst:=some 11,op:=Op.move (Operand.tmp 0),type:=40,pos:= "net.go:75",after:=#[{ on:=5,ground:=Ground.guard }],guard:=some (5,false) }) (v:=undef) rfl (by kernel_rfl) (by kernel_rfl) (by kernel_rfl) (fun _ _ _ h=>h) (Or.inr ⟨by rfl,rfl⟩) hS2 ?_
  try simp only[Act.put,List.setIfInBounds_toArray,List.set_cons_zero,List.set_cons_succ]
  refine wpAnyH_take (i:=7) (oi:={ dst:=some 12,op:=Op.call { callee:=Callee.value (Operand.func 39),args:=#[Operand.tmp 11],argTypes:=#[40] },type:=90,pos:= "net.go:75",after:=#[{ on:=6,ground:=Ground.data },{ on:=5,ground:=Ground.chain },{ on:=5,ground:=Ground.guard }],guard:=some (5,false) }) (v:=undef) rfl (by kernel_rfl) (by kernel_rfl) (by kernel_rfl) (fun _ _ _ h=>h) (Or.inr ⟨by rfl,rfl⟩) hS2 ?_
  try simp only[Act.put,List.setIfInBounds_toArray,List.set_cons_zero,List.set_cons_succ]
  refine wpAnyH_take (i:=8) (oi:={ dst:=some 13,op:=Op.load 90 (Operand.tmp 2),type:=90,pos:= "net.go:75",after:=#[{ on:=5,ground:=Ground.guard }],guard:=some (5,false) }) (v:=undef) rfl (by kernel_rfl) (by kernel_rfl) (by kernel_rfl) (fun _ _ _ h=>h) (Or.inr ⟨by rfl,rfl⟩) hS2 ?_
  try simp only[Act.put,List.setIfInBounds_toArray,List.set_cons_zero,List.set_cons_succ]
  refine wpAnyH_take (i:=9) (oi:={ dst:=some 14,op:=Op.call { callee:=Callee.value (Operand.func 43),args:=#[Operand.tmp 12,Operand.tmp 13],argTypes:=#[90,90] },type:=4,pos:= "net.go:75",after:=#[{ on:=7,ground:=Ground.data },{ on:=8,ground:=Ground.data },{ on:=7,ground:=Ground.chain },{ on:=5,ground:=Ground.guard }],guard:=some (5,false) }) (v:=undef) rfl (by kernel_rfl) (by kernel_rfl) (by kernel_rfl) (fun _ _ _ h=>h) (Or.inr ⟨by rfl,rfl⟩) hS2 ?_
  try simp only[Act.put,List.setIfInBounds_toArray,List.set_cons_zero,List.set_cons_succ]
  refine wpAnyH_take (i:=10) (oi:={ dst:=some 15,op:=Op.unOp UnOp.not 4 (Operand.tmp 14),type:=4,pos:= "net.go:75",after:=#[{ on:=9,ground:=Ground.data },{ on:=5,ground:=Ground.guard }],guard:=some (5,false) }) (v:=undef) rfl (by kernel_rfl) (by kernel_rfl) (by kernel_rfl) (fun _ _ _ h=>h) (Or.inr ⟨by rfl,rfl⟩) hS2 ?_
  try simp only[Act.put,List.setIfInBounds_toArray,List.set_cons_zero,List.set_cons_succ]
  refine wpAnyH_take (i:=11) (oi:={ dst:=some 16,op:=Op.pick (Operand.tmp 10) (Operand.const (Value.bool true)) (Operand.tmp 15),type:=4,pos:= "net.go:75",after:=#[{ on:=5,ground:=Ground.data },{ on:=10,ground:=Ground.data }],guard:=none }) (v:=.bool true) rfl (by kernel_rfl) (by kernel_rfl) (by kernel_rfl) (fun _ _ _ h=>h) (Or.inl ⟨by rfl,by(intro W hW;obtain⟨g0,g1⟩:=hW;go_simp)⟩) hS2 ?_
  try simp only[Act.put,List.setIfInBounds_toArray,List.set_cons_zero,List.set_cons_succ]
  refine wpAnyH_take (i:=12) (oi:={ dst:=some 4,op:=Op.assign (Operand.tmp 16),type:=4,pos:= "net.go:75",after:=#[{ on:=11,ground:=Ground.data },{ on:=9,ground:=Ground.chain },{ on:=0,ground:=Ground.phase },{ on:=1,ground:=Ground.phase },{ on:=2,ground:=Ground.phase },{ on:=3,ground:=Ground.phase },{ on:=4,ground:=Ground.phase },{ on:=5,ground:=Ground.phase },{ on:=6,ground:=Ground.phase },{ on:=7,ground:=Ground.phase },{ on:=8,ground:=Ground.phase },{ on:=9,ground:=Ground.phase },{ on:=10,ground:=Ground.phase },{ on:=11,ground:=Ground.phase }],guard:=none }) (v:=.bool true) rfl (by kernel_rfl) (by kernel_rfl) (by kernel_rfl) (fun _ _ _ h=>h) (Or.inl ⟨by rfl,by(intro W hW;obtain⟨g0,g1⟩:=hW;go_simp)⟩) hS2 ?_
  try simp only[Act.put,List.setIfInBounds_toArray,List.set_cons_zero,List.set_cons_succ]
  refine wpAnyH_done (by kernel_rfl) ?_ _
  all_goals
   go_wp2_with fail
   go_ret
   exact⟨by rw[HDF.out];rfl,HB7.out⟩
 ·go_enter Tryz.func41,Tryz.ntmps41
  go_wp2_with fail
  go_region_held3 (fun W=>W.cell? ⟨L0,0,none⟩=some (.slice pl nl cl)∧W.cell? ⟨M0,0,none⟩=some (.slice pm nm cm)) (first | (go_keep;done) | (refine⟨keep_cell hb10 ?_,keep_cell hb10 ?_⟩<;>(first | assumption | (go_split_ands;assumption))) | (refine⟨keep_cell hb9 ?_,keep_cell hb9 ?_⟩<;>(first | assumption | (go_split_ands;assumption))) | (refine⟨keep_cell hb8 ?_,keep_cell hb8 ?_⟩<;>(first | assumption | (go_split_ands;assumption))) | (refine⟨keep_cell hb7 ?_,keep_cell hb7 ?_⟩<;>(first | assumption | (go_split_ands;assumption)))) (first
   | (go_at_call 16;refine(CB.out _ HR.out.drew).mono ?_;rintro e w6 ⟨v6,rfl,hk7,hb7⟩;obtain⟨p6,n6,c6,rfl⟩:∃p n c,v6=.slice p n c:=(by obtain⟨p,c,e,_⟩:=hk7;exact⟨_,_,_,e⟩);have HB6:=z9 (bel HR.out.drew hb7);have HK6:=Hid.mk' hk7;clear hk7)
   | (go_at_call 42;refine(EB.out _ _ HB6.out HK6.out).mono ?_;rintro e w7 ⟨rfl,hb8⟩;have HB7:=z9 (bel HB6.out hb8))
   | (go_at_call 39;refine(CM.out _ HB7.out).mono ?_;rintro e w8 ⟨v8,rfl,hk9,hb9⟩;obtain⟨p8,n8,c8,rfl⟩:∃p n c,v8=.slice p n c:=(by obtain⟨p,c,e,_⟩:=hk9;exact⟨_,_,_,e⟩);have HB8:=z9 (bel HB7.out hb9);have HK8:=Hid.mk' hk9;clear hk9)
   | (go_at_call 43;refine(EM.out _ _ HB8.out HK8.out).mono ?_;rintro e w9 ⟨rfl,hb10⟩;have HB9:=z9 (bel HB8.out hb10)))
  all_goals
   cases b2
   all_goals
    go_wp2_with fail
    go_ret
    exact⟨by rw[HDF.out];rfl,HB9.out⟩
/- is any of them another one? -/
theorem idx_any (A:Option Addr) (n c L0 M0:Nat) (E:Nat→Nat) (B:Nat→Bool) (w:World) (hA:0<n→∃g o,A=some ⟨g,o,none⟩∧∀j,j<n→w.cell? ⟨g,o+j,none⟩=some (ptr (E j))) (hn:n≤10)
  (CC:∀j,j<n→∀W,Below w.heap.size w W→Calls Tryz.prog 41 #[ptr (E j),ptr L0,ptr M0] W fun e w'=>e=.returned (.bool (B j))∧Below W.heap.size W w'):
  Calls Tryz.prog 86 #[.slice A n c,.func (.func 41) #[] #[ptr L0,ptr M0]] w fun e w'=>∃z:Int,e=.returned (.int .i64 z)∧Hid ((z= -1∧∀j,j<n→B j=false)∨(0≤z∧∃j,j<n∧B j=true))∧Below w.heap.size w w':=by
 have HA:=Hid.mk' hA
 have HC:=Hid.mk' CC
 clear hA CC
 go_enter Tryz.func86,Tryz.ntmps86
 go_wp2
 go_loopw [5,8] (fun _ i wr=>∃k:Nat,k≤n∧i=.int .i64 k∧Hid (∀j,j<k→B j=false)∧Hid (Below w.heap.size w wr)) (fun _ i _=>n-(intOf i).toNat)
 case atStart=>exact⟨0,by omega,rfl,fun j hj=>absurd hj (by omega),Below.refl _ _⟩
 case round=>
  obtain⟨k,hk,rfl,HK,HBE⟩:=hrel
  by_cases hlt:k<n
  ·have hltz:(k:Int)<n:=by omega
   obtain⟨g,o,rfl,hc⟩:=HA.out (by omega)
   have x1:=keep_cell HBE.out (hc k hlt)
   have C:=HC.out k hlt wr HBE.out
   cases hB:B k
   ·rw[hB] at C
    have HB:=Hid.mk' hB
    clear hc hB
    go_wp2_with fail
    refine C.mono ?_
    rintro e w2 ⟨rfl,hb2⟩
    have HB2:=z9 (bel HBE.out hb2)
    clear hb2 C
    go_wp2_with fail
    go_roundw
    case rel=>exact⟨k+1,by omega,by go_num,fun j hj=>by
     rcases Nat.lt_succ_iff_lt_or_eq.1 hj with h | rfl
     ·exact HK.out j h
     ·exact HB.out,HB2⟩
    case measure=>simp[intOf];omega
   ·rw[hB] at C
    have HB:=Hid.mk' hB
    have HLT:=Hid.mk' hlt
    clear hc hB
    go_wp2_with fail
    refine C.mono ?_
    rintro e w2 ⟨rfl,hb2⟩
    have HB2:=z9 (bel HBE.out hb2)
    clear hb2 C
    go_wp2_with fail
    go_ret
    exact⟨(k:Int),rfl,Or.inr ⟨by omega,k,HLT.out,HB.out⟩,HB2.out⟩
  ·obtain rfl:k=n:=by omega
   have hltz:¬(k:Int)<k:=by omega
   go_wp2_with fail
   go_ret
   exact⟨-1,rfl,Or.inl ⟨rfl,HK.out⟩,HBE.out⟩
theorem con_any (A:Option Addr) (n c L0 M0:Nat) (E:Nat→Nat) (B:Nat→Bool) (w:World) (hA:0<n→∃g o,A=some ⟨g,o,none⟩∧∀j,j<n→w.cell? ⟨g,o+j,none⟩=some (ptr (E j))) (hn:n≤10)
  (CC:∀j,j<n→∀W,Below w.heap.size w W→Calls Tryz.prog 41 #[ptr (E j),ptr L0,ptr M0] W fun e w'=>e=.returned (.bool (B j))∧Below W.heap.size W w'):
  Calls Tryz.prog 40 #[.slice A n c,.func (.func 41) #[] #[ptr L0,ptr M0]] w fun e w'=>∃b,e=.returned (.bool b)∧Hid (b=true↔∃j,j<n∧B j=true)∧Below w.heap.size w w':=by
 have C:=idx_any A n c L0 M0 E B w hA hn CC
 clear hA CC hn
 go_enter Tryz.func40,Tryz.ntmps40
 go_wp2_with fail
 refine C.mono ?_
 rintro e w2 ⟨z,rfl,hz,hb2⟩
 have HB2:=Hid.mk' hb2
 clear hb2 C
 rcases hz.out with⟨rfl,h1⟩ | ⟨h0,h1⟩
 ·have H1:=Hid.mk' h1
  clear h1 hz
  go_wp2_with fail
  go_ret
  exact⟨false,rfl,⟨fun e=>(by cases e),fun ⟨j,hj,hB⟩=>(by rw[H1.out j hj] at hB;cases hB)⟩,HB2.out⟩
 ·have H1:=Hid.mk' h1
  clear h1 hz
  go_wp2_with fail
  go_ret
  exact⟨true,rfl,⟨fun _=>H1.out,fun _=>rfl⟩,HB2.out⟩
theorem same_of {N:Nt} (hn:1≤N.ds.length) {b:Bool} (h:b=true↔∃j,j<N.ds.length-1∧dif (dq N (j+1)) (dq N 0).book (dq N 0).marks=true):sameB N= !b:=by
 unfold sameB
 rw[Bool.eq_iff_iff,decide_eq_true_eq,Bool.not_eq_true',←Bool.not_eq_true,h]
 constructor
 ·rintro h1 ⟨j,hj,hd⟩
  obtain⟨q1,q2⟩:=h1 (j+1) (by omega)
  unfold dif at hd
  rw[decide_eq_true q1,decide_eq_true q2] at hd
  cases hd
 ·intro h1 i hi
  rcases i with _ | j
  ·exact⟨rfl,rfl⟩
  ·have h2:¬dif (dq N (j+1)) (dq N 0).book (dq N 0).marks=true:=fun e=>h1 ⟨j,by omega,e⟩
   unfold dif at h2
   simpa using h2
theorem Below.cells {w w':World} (h:Below w.heap.size w w'):∀p:Addr,p.block<w.heap.size→w'.cell? p=w.cell? p:=fun p hp=>h.cell hp
theorem box_old {W w':World} (hb:Below W.heap.size W w') {B:Nat} {u:Value} {t:TypeId} (h:W.heap[B]? =some (.cells #[u] t)):w'.heap[B]? =some (.cells #[u] t):=(hb.block B (Array.getElem?_eq_some_iff.1 h).1).trans h
theorem box_old1 {w:World} {O:Obj} {B:Nat} {u:Value} {t:TypeId} (h:w.heap[B]? =some (.cells #[u] t)):(w.alloc O).heap[B]? =some (.cells #[u] t):=box_old ((Below.refl _ w).alloc (Nat.le_refl _) O) h
theorem box_next (w:World) (O O':Obj):((w.alloc O).alloc O').heap[w.heap.size+1]? =some O':=by
 have h:=heap_alloc_new (w.alloc O) O'
 have e:(w.alloc O).heap.size=w.heap.size+1:=by simp
 rw[e] at h;exact h
theorem box_set {w:World} {a b:Nat} {x u:Value} {t:TypeId} (hab:b≠a) (h:w.heap[b]? =some (.cells #[u] t)):(w.setCell ⟨a,0,none⟩ x).heap[b]? =some (.cells #[u] t):=by rw[set_block _ _ _ _ (show b≠a from hab)];exact h
theorem book_alloc {w:World} {O:Obj} {v:Value} {l:List Bm.Leaf} (h:BookAt w v l):BookAt (w.alloc O) v l:=h.below ((Below.refl _ w).alloc (Nat.le_refl _) O)
theorem mks_alloc {w:World} {O:Obj} {v:Value} {l:List Mk} (h:MksAt w v l):MksAt (w.alloc O) v l:=h.below ((Below.refl _ w).alloc (Nat.le_refl _) O)
theorem bel_alloc {w W:World} {O:Obj} (h:Below w.heap.size w W):Below w.heap.size w (W.alloc O):=h.alloc h.size O
theorem alloc_cell {w:World} {O:Obj} {p:Addr} {v:Value} (h:w.cell? p=some v):(w.alloc O).cell? p=some v:=keep_cell ((Below.refl _ w).alloc (Nat.le_refl _) O) h
theorem set_cell_ne {w:World} {a o b i:Nat} {u v:Value} (hab:a≠b) (h:w.cell? ⟨a,o,none⟩=some v):(w.setCell ⟨b,i,none⟩ u).cell? ⟨a,o,none⟩=some v:=by
 unfold World.cell?
 rw[set_block _ _ _ _ (show a≠b from hab)]
 exact h
theorem cells_off {w:World} {b:Nat} {u:Value} {t:TypeId} (hb:w.heap[b]? =some (.cells #[u] t)) {a o:Nat} {v:Value} (h:w.cell? ⟨a,o,none⟩=some v) (hv:v≠u):a≠b:=by
 rintro rfl
 simp only[World.cell?,hb] at h
 rcases o with _ | o
 ·simp at h;exact hv h.symm
 ·simp at h
theorem cell_kept {w:World} {b:Nat} {u x v:Value} {t:TypeId} (hb:w.heap[b]? =some (.cells #[u] t)) {a o:Nat} (h:w.cell? ⟨a,o,none⟩=some v) (hv:v≠u):(w.setCell ⟨b,0,none⟩ x).cell? ⟨a,o,none⟩=some v:=by
 have hab:=cells_off hb h hv
 unfold World.cell?
 rw[set_block _ _ _ _ (show a≠b from hab)]
 exact h
theorem book_kept {w:World} {b:Nat} {p:Option Addr} {n c:Nat} {x v:Value} {t:TypeId} {l:List Bm.Leaf} (hb:w.heap[b]? =some (.cells #[.slice p n c] t)) (h:BookAt w v l):BookAt (w.setCell ⟨b,0,none⟩ x) v l:=by
 obtain⟨q,d,e,h1,h2⟩:=h
 refine⟨q,d,e, ?_,h2⟩
 rcases h1 with h1 | ⟨bb,o,hp,hc⟩
 ·exact Or.inl h1
 ·refine Or.inr ⟨bb,o,hp,fun j hj=> ?_⟩
  obtain⟨c1,c2,c3⟩:=hc j hj
  exact⟨cell_kept hb c1 (by intro e;cases e),cell_kept hb c2 (by intro e;cases e),cell_kept hb c3 (by intro e;cases e)⟩
theorem mks_kept {w:World} {b:Nat} {p:Option Addr} {n c:Nat} {x v:Value} {t:TypeId} {l:List Mk} (hb:w.heap[b]? =some (.cells #[.slice p n c] t)) (h:MksAt w v l):MksAt (w.setCell ⟨b,0,none⟩ x) v l:=by
 obtain⟨q,d,e,h1,h2⟩:=h
 refine⟨q,d,e, ?_,h2⟩
 rcases h1 with h1 | ⟨bb,o,hp,hc⟩
 ·exact Or.inl h1
 ·refine Or.inr ⟨bb,o,hp,fun j hj=> ?_⟩
  obtain⟨c1,c2,c3⟩:=hc j hj
  exact⟨cell_kept hb c1 (by intro e;cases e),cell_kept hb c2 (by intro e;cases e),cell_kept hb c3 (by intro e;cases e)⟩
/- the two boxes are filled -/
theorem fin_of {w Wb wf:World} {L0 M0 n6 c6 n7 c7:Nat} {p6 p7:Option Addr} {l:List Bm.Leaf} {m:List Mk} (hwf:(Wb.setCell ⟨L0,0,none⟩ (.slice p6 n6 c6)).setCell ⟨M0,0,none⟩ (.slice p7 n7 c7)=wf) (hL:Wb.heap[L0]? =some (.cells #[.slice none 0 0] 44)) (hM:Wb.heap[M0]? =some (.cells #[.slice none 0 0] 90))
  (hK:BookAt Wb (.slice p6 n6 c6) l) (hK':MksAt Wb (.slice p7 n7 c7) m) (hb:Below w.heap.size w Wb) (hLw:w.heap.size≤L0) (hMw:w.heap.size≤M0):Holds wf L0 M0 (.slice p6 n6 c6) (.slice p7 n7 c7) l m∧Below w.heap.size w wf:=by
 have hne:M0≠L0:=fun e=>by
  rw[e,hL] at hM
  injection hM with hM
  injection hM with _ hM _
  exact absurd hM (by decide)
 have hM1:(Wb.setCell ⟨L0,0,none⟩ (.slice p6 n6 c6)).heap[M0]? =some (.cells #[.slice none 0 0] 90):=by rw[set_block _ _ _ _ (show M0≠L0 from hne)];exact hM
 have hL1:=set_heap (i:=0) (v:=.slice p6 n6 c6) hL
 subst hwf
 refine⟨⟨?_, ?_,book_kept hM1 (book_kept hL hK),mks_kept hM1 (mks_kept hL hK')⟩,(hb.setCell (p:=⟨L0,0,none⟩) hLw _).setCell (p:=⟨M0,0,none⟩) hMw _⟩
 ·refine blk_cell (t:=44) (cs:=#[.slice p6 n6 c6]) ?_ rfl
  rw[set_block _ _ _ _ (show L0≠M0 from Ne.symm hne),hL1];rfl
 ·refine blk_cell (t:=90) (cs:=#[.slice p7 n7 c7]) ?_ rfl
  rw[set_heap hM1];rfl
theorem fin_b {w Wb wf:World} {L0 M0 n6 c6 n7 c7:Nat} {p6 p7:Option Addr} {l:List Bm.Leaf} {m:List Mk} (hwf:Wb.setCell ⟨M0,0,none⟩ (.slice p7 n7 c7)=wf) (hL:Wb.heap[L0]? =some (.cells #[.slice p6 n6 c6] 44)) (hM:Wb.heap[M0]? =some (.cells #[.slice none 0 0] 90))
  (hK:BookAt Wb (.slice p6 n6 c6) l) (hK':MksAt Wb (.slice p7 n7 c7) m) (hb:Below w.heap.size w Wb) (hMw:w.heap.size≤M0):Holds wf L0 M0 (.slice p6 n6 c6) (.slice p7 n7 c7) l m∧Below w.heap.size w wf:=by
 have hne:L0≠M0:=fun e=>by
  rw[←e,hL] at hM
  injection hM with hM
  injection hM with _ hM _
  exact absurd hM (by decide)
 subst hwf
 refine⟨⟨?_, ?_,book_kept hM hK,mks_kept hM hK'⟩,hb.setCell (p:=⟨M0,0,none⟩) hMw _⟩
 ·exact blk_cell (box_set hne hL) (i:=0) rfl
 ·refine blk_cell (t:=90) (cs:=#[.slice p7 n7 c7]) ?_ rfl
  rw[set_heap hM];rfl
theorem fin_c {w wf:World} {L0 M0 n6 c6 n7 c7:Nat} {p6 p7:Option Addr} {l:List Bm.Leaf} {m:List Mk} (hL:wf.heap[L0]? =some (.cells #[.slice p6 n6 c6] 44)) (hM:wf.heap[M0]? =some (.cells #[.slice p7 n7 c7] 90)) (hK:BookAt wf (.slice p6 n6 c6) l) (hK':MksAt wf (.slice p7 n7 c7) m) (hb:Below w.heap.size w wf):Holds wf L0 M0 (.slice p6 n6 c6) (.slice p7 n7 c7) l m∧Below w.heap.size w wf:=
 ⟨⟨blk_cell hL (i:=0) rfl,blk_cell hM (i:=0) rfl,hK,hK'⟩,hb⟩
theorem same_any (X:Nat) (N:Nt) (F:Nat→Prop) (w:World) (h:At w X N F) (hgl:Gl N) (h1:1≤N.ds.length):Calls Tryz.prog 9 #[ptr X] w fun e w'=>e=.returned (.bool (sameB N))∧Below w.heap.size w w':=by
 obtain⟨vd,vu,E,Fd,m,hF⟩:=h
 obtain⟨p,c,rfl,hlc,hcm,hc⟩:=m.cellD
 obtain⟨g,rfl,hg⟩:=hc (by omega)
 have hd0:=m.docs.at' 0 (by omega)
 have CB:Hid (∀W,Below w.heap.size w W→Calls Tryz.prog 16 #[ptr (E 0)] W fun e w'=>∃v',e=.returned v'∧BookAt w' v' (dq N 0).book∧Below W.heap.size W w'):=fun W hb=>(Il.book_get (E 0) _ _ W (DocAt.below hd0 hb)).mono fun e w' ⟨v',h1,h2,h3⟩=>⟨v',h1,h2.1,h3⟩
 have CM:Hid (∀W,Below w.heap.size w W→Calls Tryz.prog 39 #[ptr (E 0)] W fun e w'=>∃v',e=.returned v'∧MksAt w' v' (dq N 0).marks∧Below W.heap.size W w'):=fun W hb=>(Il.marks_get (E 0) _ _ W (DocAt.below hd0 hb)).mono fun e w' ⟨v',h1,h2,h3⟩=>⟨v',h1,h2.1,h3⟩
 obtain⟨n,hn⟩:∃n,n=N.ds.length:=⟨_,rfl⟩
 have HM:=Hid.mk' m
 have HN:=Hid.mk' hn
 have HG:=Hid.mk' hg
 have x0:w.cell? ⟨X,0,none⟩=some (.slice (some ⟨g,0,none⟩) n c):=by rw[hn];exact blk_cell m.blk (i:=0) rfl
 have xg:w.cell? ⟨g,0,none⟩=some (ptr (E 0)):=hg 0 (by omega)
 have HR:=Hid.mk' (Below.refl w.heap.size w)
 have hn4:n≤4:=by have:=m.few;omega
 have hn1:1≤n:=by omega
 have hn1z:(1:Int)≤(n:Int):=by omega
 have hn0z:(0:Int)<(n:Int):=by omega
 have hn0:0<n:=by omega
 have HXW:Hid (X<w.heap.size∧g<w.heap.size):=⟨m.ltX,World.block_lt_of_cell? _ _ (hg 0 (by omega))⟩
 have hcz:c≤9223372036854775807:=by unfold maxLen at hcm;omega
 have hnc:n≤c:=by omega
 have H1:=Hid.mk' h1
 obtain⟨A,hA,hcA⟩:∃A:Addr,(if c=1 then some (⟨g,0,none⟩:Addr) else some ⟨g,1,none⟩)=some A∧Hid (0<n-1→∃g' o',some A=some (⟨g',o',none⟩:Addr)∧∀j,j<n-1→w.cell? ⟨g',o'+j,none⟩=some (ptr (E (j+1)))):=by
  by_cases h:c=1
  ·exact⟨⟨g,0,none⟩,by rw[if_pos h],fun h2=>by omega⟩
  ·exact⟨⟨g,1,none⟩,by rw[if_neg h],fun _=>⟨g,1,rfl,fun j hj=>by rw[Nat.add_comm];exact hg (j+1) (by omega)⟩⟩
 have CC:Hid (∀wf L0 M0 p6 p7 n6 c6 n7 c7,Holds wf L0 M0 (.slice p6 n6 c6) (.slice p7 n7 c7) (dq N 0).book (dq N 0).marks→Below w.heap.size w wf→Calls Tryz.prog 40 #[.slice (some A) (n-1) (c-1),.func (.func 41) #[] #[ptr L0,ptr M0]] wf fun e w'=>∃b,e=.returned (.bool b)∧Hid (b=true↔∃j,j<n-1∧dif (dq N (j+1)) (dq N 0).book (dq N 0).marks=true)∧Below wf.heap.size wf w'):=fun wf L0 M0 p6 p7 n6 c6 n7 c7 hH hB=>
  con_any (some A) (n-1) (c-1) L0 M0 (fun j=>E (j+1)) (fun j=>dif (dq N (j+1)) (dq N 0).book (dq N 0).marks) wf (fun h=>by obtain⟨g',o',h1,h2⟩:=hcA.out h;exact⟨g',o',h1,fun j hj=>keep_cell hB (h2 j hj)⟩) (by omega)
   (fun j hj W hb=>clo_any (E (j+1)) L0 M0 _ _ _ _ _ _ W (DocAt.below (HM.out.docs.at' (j+1) (by have:=HN.out;omega)) (bel hB hb)) (hH.below hb))
 have HS:Hid (∀b:Bool,(b=true↔∃j,j<n-1∧dif (dq N (j+1)) (dq N 0).book (dq N 0).marks=true)→sameB N= !b):=fun b h=>same_of (by have:=H1.out;omega) (by rw[←HN.out];exact h)
 have na1:w.heap.size≠X:=by have:=HXW.out.1;omega
 have na2:w.heap.size+1≠X:=by have:=HXW.out.1;omega
 have na3:w.heap.size≠g:=by have:=HXW.out.2;omega
 have na4:w.heap.size+1≠g:=by have:=HXW.out.2;omega
 clear m hF hg hc hd0 hgl h1 hn hlc hcm
 go_enter Tryz.func9,Tryz.ntmps9
 go_wp2_with fail
 go_region_held3 (fun W=>W.cell? ⟨X,0,none⟩=some (.slice (some ⟨g,0,none⟩) n c)∧W.cell? ⟨g,0,none⟩=some (ptr (E 0))) (first | (go_keep;done) | (refine⟨?_, ?_⟩<;>(repeat (first | refine alloc_cell ?_ | refine set_cell_ne (by first | omega | (simp only;omega)) ?_))<;>(first | assumption | (go_split_ands;assumption))) | (refine⟨keep_cell hb8 ?_,keep_cell hb8 ?_⟩<;>(first | assumption | (go_split_ands;assumption))) | (refine⟨keep_cell hb7 ?_,keep_cell hb7 ?_⟩<;>(first | assumption | (go_split_ands;assumption)))) (first
  | (go_at_call 16;refine(CB.out _ (by first | exact HR.out.drew | exact HR.out.drew.alloc HR.out.drew.size _ | exact(HR.out.drew.alloc HR.out.drew.size _).alloc (HR.out.drew.alloc HR.out.drew.size _).size _)).mono ?_;rintro e w6 ⟨v6,rfl,hk7,hb7⟩;obtain⟨p6,n6,c6,rfl⟩:∃p n c,v6=.slice p n c:=(by obtain⟨p,c,e,_⟩:=hk7;exact⟨_,_,_,e⟩);have HB6:Hid (Below w.heap.size w w6):=bel (by first | exact HR.out.drew | exact HR.out.drew.alloc HR.out.drew.size _ | exact(HR.out.drew.alloc HR.out.drew.size _).alloc (HR.out.drew.alloc HR.out.drew.size _).size _) hb7;have HK6:=Hid.mk' hk7;have HZ6:=Hid.mk' hb7.size;have yy1:=keep_cell HB6.out x0;have yy2:=keep_cell HB6.out xg;have ne1:=World.new_ne w6 _ yy1;have ne2:=World.new_ne w6 _ yy2;have nb6:w6.heap.size+1≠X:=(by have:=HXW.out.1;have:=HB6.out.size;omega);have nc6:w6.heap.size+1≠g:=(by have:=HXW.out.2;have:=HB6.out.size;omega);(try (have b60L:w6.heap[w.heap.size]? =some (.cells #[.slice none 0 0] 44):=box_old hb7 (by first | exact heap_alloc_new _ _ | exact box_old1 (heap_alloc_new _ _));have qb60L:=blk_cell b60L (i:=0) (u:=.slice none 0 0) rfl;have fb60L:=blk_free b60L (i:=0)));(try (have b61L:w6.heap[w.heap.size+1]? =some (.cells #[.slice none 0 0] 44):=box_old hb7 (box_next _ _ _);have qb61L:=blk_cell b61L (i:=0) (u:=.slice none 0 0) rfl;have fb61L:=blk_free b61L (i:=0)));(try (have b60M:w6.heap[w.heap.size]? =some (.cells #[.slice none 0 0] 90):=box_old hb7 (by first | exact heap_alloc_new _ _ | exact box_old1 (heap_alloc_new _ _));have qb60M:=blk_cell b60M (i:=0) (u:=.slice none 0 0) rfl;have fb60M:=blk_free b60M (i:=0)));(try (have b61M:w6.heap[w.heap.size+1]? =some (.cells #[.slice none 0 0] 90):=box_old hb7 (box_next _ _ _);have qb61M:=blk_cell b61M (i:=0) (u:=.slice none 0 0) rfl;have fb61M:=blk_free b61M (i:=0)));clear hk7)
  | (go_at_call 39;refine(CM.out _ (by first | exact HB6.out | exact HB6.out.alloc HB6.out.size _ | exact(HB6.out.alloc HB6.out.size _).alloc (HB6.out.alloc HB6.out.size _).size _)).mono ?_;rintro e w7 ⟨v7,rfl,hk8,hb8⟩;obtain⟨p7,n7,c7,rfl⟩:∃p n c,v7=.slice p n c:=(by obtain⟨p,c,e,_⟩:=hk8;exact⟨_,_,_,e⟩);have HB7:Hid (Below w.heap.size w w7):=bel (by first | exact HB6.out | exact HB6.out.alloc HB6.out.size _ | exact(HB6.out.alloc HB6.out.size _).alloc (HB6.out.alloc HB6.out.size _).size _) hb8;have HK7:=Hid.mk' hk8;have HK6':Hid (BookAt w7 (.slice p6 n6 c6) (dq N 0).book):=(by first | exact HK6.out.below hb8 | exact(HK6.out.below ((Below.refl _ w6).alloc (Nat.le_refl _) _)).below hb8 | exact((HK6.out.below ((Below.refl _ w6).alloc (Nat.le_refl _) _)).below ((Below.refl _ _).alloc (Nat.le_refl _) _)).below hb8);have HZ7:=Hid.mk' hb8.size;have zz1:=keep_cell HB7.out x0;have zz2:=keep_cell HB7.out xg;have ne3:=World.new_ne w7 _ zz1;have ne4:=World.new_ne w7 _ zz2;have nb7:w7.heap.size+1≠X:=(by have:=HXW.out.1;have:=HB7.out.size;omega);have nc7:w7.heap.size+1≠g:=(by have:=HXW.out.2;have:=HB7.out.size;omega);(try (have b70L:w7.heap[w6.heap.size]? =some (.cells #[.slice none 0 0] 44):=box_old hb8 (by first | exact heap_alloc_new _ _ | exact box_old1 (heap_alloc_new _ _));have qb70L:=blk_cell b70L (i:=0) (u:=.slice none 0 0) rfl;have fb70L:=blk_free b70L (i:=0);have qob70L:=fun O=>blk_cell (box_old1 (O:=O) b70L) (i:=0) (u:=.slice none 0 0) rfl;have fob70L:=fun O=>blk_free (box_old1 (O:=O) b70L) (i:=0)));(try (have b71L:w7.heap[w6.heap.size+1]? =some (.cells #[.slice none 0 0] 44):=box_old hb8 (box_next _ _ _);have qb71L:=blk_cell b71L (i:=0) (u:=.slice none 0 0) rfl;have fb71L:=blk_free b71L (i:=0);have qob71L:=fun O=>blk_cell (box_old1 (O:=O) b71L) (i:=0) (u:=.slice none 0 0) rfl;have fob71L:=fun O=>blk_free (box_old1 (O:=O) b71L) (i:=0)));(try (have b70M:w7.heap[w6.heap.size]? =some (.cells #[.slice none 0 0] 90):=box_old hb8 (by first | exact heap_alloc_new _ _ | exact box_old1 (heap_alloc_new _ _));have qb70M:=blk_cell b70M (i:=0) (u:=.slice none 0 0) rfl;have fb70M:=blk_free b70M (i:=0);have qob70M:=fun O=>blk_cell (box_old1 (O:=O) b70M) (i:=0) (u:=.slice none 0 0) rfl;have fob70M:=fun O=>blk_free (box_old1 (O:=O) b70M) (i:=0)));(try (have b71M:w7.heap[w6.heap.size+1]? =some (.cells #[.slice none 0 0] 90):=box_old hb8 (box_next _ _ _);have qb71M:=blk_cell b71M (i:=0) (u:=.slice none 0 0) rfl;have fb71M:=blk_free b71M (i:=0);have qob71M:=fun O=>blk_cell (box_old1 (O:=O) b71M) (i:=0) (u:=.slice none 0 0) rfl;have fob71M:=fun O=>blk_free (box_old1 (O:=O) b71M) (i:=0)));(try (have c70L:=box_old hb8 (by first | exact b60L | exact box_old1 b60L | exact box_old1 (box_old1 b60L));have qc70L:=blk_cell c70L (i:=0) (u:=.slice none 0 0) rfl;have fc70L:=blk_free c70L (i:=0);have qoc70L:=fun O=>blk_cell (box_old1 (O:=O) c70L) (i:=0) (u:=.slice none 0 0) rfl;have foc70L:=fun O=>blk_free (box_old1 (O:=O) c70L) (i:=0)));(try (have c70M:=box_old hb8 (by first | exact b60M | exact box_old1 b60M | exact box_old1 (box_old1 b60M));have qc70M:=blk_cell c70M (i:=0) (u:=.slice none 0 0) rfl;have fc70M:=blk_free c70M (i:=0);have qoc70M:=fun O=>blk_cell (box_old1 (O:=O) c70M) (i:=0) (u:=.slice none 0 0) rfl;have foc70M:=fun O=>blk_free (box_old1 (O:=O) c70M) (i:=0)));(try (have c71L:=box_old hb8 (by first | exact b61L | exact box_old1 b61L | exact box_old1 (box_old1 b61L));have qc71L:=blk_cell c71L (i:=0) (u:=.slice none 0 0) rfl;have fc71L:=blk_free c71L (i:=0);have qoc71L:=fun O=>blk_cell (box_old1 (O:=O) c71L) (i:=0) (u:=.slice none 0 0) rfl;have foc71L:=fun O=>blk_free (box_old1 (O:=O) c71L) (i:=0)));(try (have c71M:=box_old hb8 (by first | exact b61M | exact box_old1 b61M | exact box_old1 (box_old1 b61M));have qc71M:=blk_cell c71M (i:=0) (u:=.slice none 0 0) rfl;have fc71M:=blk_free c71M (i:=0);have qoc71M:=fun O=>blk_cell (box_old1 (O:=O) c71M) (i:=0) (u:=.slice none 0 0) rfl;have foc71M:=fun O=>blk_free (box_old1 (O:=O) c71M) (i:=0)));(try (have nn1:w6.heap.size≠w7.heap.size:=(by have h1:=HZ7.out;have h2:=HZ6.out;(try simp at h1);(try simp at h2);omega);have nm1:=Ne.symm nn1));(try (have nn2:w6.heap.size≠w7.heap.size+1:=(by have h1:=HZ7.out;have h2:=HZ6.out;(try simp at h1);(try simp at h2);omega);have nm2:=Ne.symm nn2));(try (have nn3:w6.heap.size+1≠w7.heap.size:=(by have h1:=HZ7.out;have h2:=HZ6.out;(try simp at h1);(try simp at h2);omega);have nm3:=Ne.symm nn3));(try (have nn4:w6.heap.size+1≠w7.heap.size+1:=(by have h1:=HZ7.out;have h2:=HZ6.out;(try simp at h1);(try simp at h2);omega);have nm4:=Ne.symm nn4));(try (have nn5:w.heap.size≠w7.heap.size:=(by have h1:=HZ7.out;have h2:=HZ6.out;(try simp at h1);(try simp at h2);omega);have nm5:=Ne.symm nn5));(try (have nn6:w.heap.size≠w7.heap.size+1:=(by have h1:=HZ7.out;have h2:=HZ6.out;(try simp at h1);(try simp at h2);omega);have nm6:=Ne.symm nn6));(try (have nn7:w.heap.size+1≠w7.heap.size:=(by have h1:=HZ7.out;have h2:=HZ6.out;(try simp at h1);(try simp at h2);omega);have nm7:=Ne.symm nn7));(try (have nn8:w.heap.size+1≠w7.heap.size+1:=(by have h1:=HZ7.out;have h2:=HZ6.out;(try simp at h1);(try simp at h2);omega);have nm8:=Ne.symm nn8));(try (have nn9:w.heap.size≠w6.heap.size:=(by have h1:=HZ7.out;have h2:=HZ6.out;(try simp at h1);(try simp at h2);omega);have nm9:=Ne.symm nn9));(try (have nn10:w.heap.size≠w6.heap.size+1:=(by have h1:=HZ7.out;have h2:=HZ6.out;(try simp at h1);(try simp at h2);omega);have nm10:=Ne.symm nn10));(try (have nn11:w.heap.size+1≠w6.heap.size:=(by have h1:=HZ7.out;have h2:=HZ6.out;(try simp at h1);(try simp at h2);omega);have nm11:=Ne.symm nn11));(try (have nn12:w.heap.size+1≠w6.heap.size+1:=(by have h1:=HZ7.out;have h2:=HZ6.out;(try simp at h1);(try simp at h2);omega);have nm12:=Ne.symm nn12));(try (have sa13:∀t v,((w7.alloc (.cells #[.slice none 0 0] t)).setCell ⟨w6.heap.size,0,none⟩ v).cell? ⟨w7.heap.size,0,none⟩=some (.slice none 0 0):=fun t v=>set_cell_ne (by have h1:=HZ7.out;have h2:=HZ6.out;(try simp at h1);(try simp at h2);omega) (blk_cell (heap_alloc_new w7 _) (i:=0) rfl)));(try (have sa14:∀t v,((w7.alloc (.cells #[.slice none 0 0] t)).setCell ⟨w6.heap.size+1,0,none⟩ v).cell? ⟨w7.heap.size,0,none⟩=some (.slice none 0 0):=fun t v=>set_cell_ne (by have h1:=HZ7.out;have h2:=HZ6.out;(try simp at h1);(try simp at h2);omega) (blk_cell (heap_alloc_new w7 _) (i:=0) rfl)));(try (have sa15:∀t v,((w7.alloc (.cells #[.slice none 0 0] t)).setCell ⟨w.heap.size,0,none⟩ v).cell? ⟨w7.heap.size,0,none⟩=some (.slice none 0 0):=fun t v=>set_cell_ne (by have h1:=HZ7.out;have h2:=HZ6.out;(try simp at h1);(try simp at h2);omega) (blk_cell (heap_alloc_new w7 _) (i:=0) rfl)));(try (have sa16:∀t v,((w7.alloc (.cells #[.slice none 0 0] t)).setCell ⟨w.heap.size+1,0,none⟩ v).cell? ⟨w7.heap.size,0,none⟩=some (.slice none 0 0):=fun t v=>set_cell_ne (by have h1:=HZ7.out;have h2:=HZ6.out;(try simp at h1);(try simp at h2);omega) (blk_cell (heap_alloc_new w7 _) (i:=0) rfl)));(try (have sb17:∀v,(w7.setCell ⟨w6.heap.size,0,none⟩ v).cell? ⟨w6.heap.size+1,0,none⟩=some (.slice none 0 0):=fun v=>set_cell_ne (by have h1:=HZ7.out;have h2:=HZ6.out;(try simp at h1);(try simp at h2);omega) (blk_cell b71L (i:=0) rfl)));(try (have sb18:∀v,(w7.setCell ⟨w6.heap.size,0,none⟩ v).cell? ⟨w6.heap.size+1,0,none⟩=some (.slice none 0 0):=fun v=>set_cell_ne (by have h1:=HZ7.out;have h2:=HZ6.out;(try simp at h1);(try simp at h2);omega) (blk_cell b71M (i:=0) rfl)));(try (have sb19:∀v,(w7.setCell ⟨w6.heap.size,0,none⟩ v).cell? ⟨w.heap.size,0,none⟩=some (.slice none 0 0):=fun v=>set_cell_ne (by have h1:=HZ7.out;have h2:=HZ6.out;(try simp at h1);(try simp at h2);omega) (blk_cell c70L (i:=0) rfl)));(try (have sb20:∀v,(w7.setCell ⟨w6.heap.size,0,none⟩ v).cell? ⟨w.heap.size,0,none⟩=some (.slice none 0 0):=fun v=>set_cell_ne (by have h1:=HZ7.out;have h2:=HZ6.out;(try simp at h1);(try simp at h2);omega) (blk_cell c70M (i:=0) rfl)));(try (have sb21:∀v,(w7.setCell ⟨w6.heap.size,0,none⟩ v).cell? ⟨w.heap.size+1,0,none⟩=some (.slice none 0 0):=fun v=>set_cell_ne (by have h1:=HZ7.out;have h2:=HZ6.out;(try simp at h1);(try simp at h2);omega) (blk_cell c71L (i:=0) rfl)));(try (have sb22:∀v,(w7.setCell ⟨w6.heap.size,0,none⟩ v).cell? ⟨w.heap.size+1,0,none⟩=some (.slice none 0 0):=fun v=>set_cell_ne (by have h1:=HZ7.out;have h2:=HZ6.out;(try simp at h1);(try simp at h2);omega) (blk_cell c71M (i:=0) rfl)));(try (have sb23:∀v,(w7.setCell ⟨w6.heap.size+1,0,none⟩ v).cell? ⟨w6.heap.size,0,none⟩=some (.slice none 0 0):=fun v=>set_cell_ne (by have h1:=HZ7.out;have h2:=HZ6.out;(try simp at h1);(try simp at h2);omega) (blk_cell b70L (i:=0) rfl)));(try (have sb24:∀v,(w7.setCell ⟨w6.heap.size+1,0,none⟩ v).cell? ⟨w6.heap.size,0,none⟩=some (.slice none 0 0):=fun v=>set_cell_ne (by have h1:=HZ7.out;have h2:=HZ6.out;(try simp at h1);(try simp at h2);omega) (blk_cell b70M (i:=0) rfl)));(try (have sb25:∀v,(w7.setCell ⟨w6.heap.size+1,0,none⟩ v).cell? ⟨w.heap.size,0,none⟩=some (.slice none 0 0):=fun v=>set_cell_ne (by have h1:=HZ7.out;have h2:=HZ6.out;(try simp at h1);(try simp at h2);omega) (blk_cell c70L (i:=0) rfl)));(try (have sb26:∀v,(w7.setCell ⟨w6.heap.size+1,0,none⟩ v).cell? ⟨w.heap.size,0,none⟩=some (.slice none 0 0):=fun v=>set_cell_ne (by have h1:=HZ7.out;have h2:=HZ6.out;(try simp at h1);(try simp at h2);omega) (blk_cell c70M (i:=0) rfl)));(try (have sb27:∀v,(w7.setCell ⟨w6.heap.size+1,0,none⟩ v).cell? ⟨w.heap.size+1,0,none⟩=some (.slice none 0 0):=fun v=>set_cell_ne (by have h1:=HZ7.out;have h2:=HZ6.out;(try simp at h1);(try simp at h2);omega) (blk_cell c71L (i:=0) rfl)));(try (have sb28:∀v,(w7.setCell ⟨w6.heap.size+1,0,none⟩ v).cell? ⟨w.heap.size+1,0,none⟩=some (.slice none 0 0):=fun v=>set_cell_ne (by have h1:=HZ7.out;have h2:=HZ6.out;(try simp at h1);(try simp at h2);omega) (blk_cell c71M (i:=0) rfl)));(try (have sb29:∀v,(w7.setCell ⟨w.heap.size,0,none⟩ v).cell? ⟨w6.heap.size,0,none⟩=some (.slice none 0 0):=fun v=>set_cell_ne (by have h1:=HZ7.out;have h2:=HZ6.out;(try simp at h1);(try simp at h2);omega) (blk_cell b70L (i:=0) rfl)));(try (have sb30:∀v,(w7.setCell ⟨w.heap.size,0,none⟩ v).cell? ⟨w6.heap.size,0,none⟩=some (.slice none 0 0):=fun v=>set_cell_ne (by have h1:=HZ7.out;have h2:=HZ6.out;(try simp at h1);(try simp at h2);omega) (blk_cell b70M (i:=0) rfl)));(try (have sb31:∀v,(w7.setCell ⟨w.heap.size,0,none⟩ v).cell? ⟨w6.heap.size+1,0,none⟩=some (.slice none 0 0):=fun v=>set_cell_ne (by have h1:=HZ7.out;have h2:=HZ6.out;(try simp at h1);(try simp at h2);omega) (blk_cell b71L (i:=0) rfl)));(try (have sb32:∀v,(w7.setCell ⟨w.heap.size,0,none⟩ v).cell? ⟨w6.heap.size+1,0,none⟩=some (.slice none 0 0):=fun v=>set_cell_ne (by have h1:=HZ7.out;have h2:=HZ6.out;(try simp at h1);(try simp at h2);omega) (blk_cell b71M (i:=0) rfl)));(try (have sb33:∀v,(w7.setCell ⟨w.heap.size,0,none⟩ v).cell? ⟨w.heap.size+1,0,none⟩=some (.slice none 0 0):=fun v=>set_cell_ne (by have h1:=HZ7.out;have h2:=HZ6.out;(try simp at h1);(try simp at h2);omega) (blk_cell c71L (i:=0) rfl)));(try (have sb34:∀v,(w7.setCell ⟨w.heap.size,0,none⟩ v).cell? ⟨w.heap.size+1,0,none⟩=some (.slice none 0 0):=fun v=>set_cell_ne (by have h1:=HZ7.out;have h2:=HZ6.out;(try simp at h1);(try simp at h2);omega) (blk_cell c71M (i:=0) rfl)));(try (have sb35:∀v,(w7.setCell ⟨w.heap.size+1,0,none⟩ v).cell? ⟨w6.heap.size,0,none⟩=some (.slice none 0 0):=fun v=>set_cell_ne (by have h1:=HZ7.out;have h2:=HZ6.out;(try simp at h1);(try simp at h2);omega) (blk_cell b70L (i:=0) rfl)));(try (have sb36:∀v,(w7.setCell ⟨w.heap.size+1,0,none⟩ v).cell? ⟨w6.heap.size,0,none⟩=some (.slice none 0 0):=fun v=>set_cell_ne (by have h1:=HZ7.out;have h2:=HZ6.out;(try simp at h1);(try simp at h2);omega) (blk_cell b70M (i:=0) rfl)));(try (have sb37:∀v,(w7.setCell ⟨w.heap.size+1,0,none⟩ v).cell? ⟨w6.heap.size+1,0,none⟩=some (.slice none 0 0):=fun v=>set_cell_ne (by have h1:=HZ7.out;have h2:=HZ6.out;(try simp at h1);(try simp at h2);omega) (blk_cell b71L (i:=0) rfl)));(try (have sb38:∀v,(w7.setCell ⟨w.heap.size+1,0,none⟩ v).cell? ⟨w6.heap.size+1,0,none⟩=some (.slice none 0 0):=fun v=>set_cell_ne (by have h1:=HZ7.out;have h2:=HZ6.out;(try simp at h1);(try simp at h2);omega) (blk_cell b71M (i:=0) rfl)));(try (have sb39:∀v,(w7.setCell ⟨w.heap.size+1,0,none⟩ v).cell? ⟨w.heap.size,0,none⟩=some (.slice none 0 0):=fun v=>set_cell_ne (by have h1:=HZ7.out;have h2:=HZ6.out;(try simp at h1);(try simp at h2);omega) (blk_cell c70L (i:=0) rfl)));(try (have sb40:∀v,(w7.setCell ⟨w.heap.size+1,0,none⟩ v).cell? ⟨w.heap.size,0,none⟩=some (.slice none 0 0):=fun v=>set_cell_ne (by have h1:=HZ7.out;have h2:=HZ6.out;(try simp at h1);(try simp at h2);omega) (blk_cell c70M (i:=0) rfl)));clear hk8))
 ·have hF:Holds ((w7.alloc (.cells #[.slice p6 n6 c6] 44)).alloc (.cells #[.slice p7 n7 c7] 90)) (w7.heap.size) (w7.heap.size+1) (.slice p6 n6 c6) (.slice p7 n7 c7) (dq N 0).book (dq N 0).marks∧Below w.heap.size w ((w7.alloc (.cells #[.slice p6 n6 c6] 44)).alloc (.cells #[.slice p7 n7 c7] 90)):=fin_c (box_old1 (heap_alloc_new w7 _)) (box_next w7 _ _) (book_alloc (book_alloc HK6'.out)) (mks_alloc (mks_alloc HK7.out)) (bel_alloc (bel_alloc HB7.out))
  generalize ((w7.alloc (.cells #[.slice p6 n6 c6] 44)).alloc (.cells #[.slice p7 n7 c7] 90))=wf at hF ⊢
  have HF:=Hid.mk' hF
  clear hF CB CM
  have C:=CC.out wf (w7.heap.size) (w7.heap.size+1) p6 p7 n6 c6 n7 c7 HF.out.1 HF.out.2
  have x9:=keep_cell HF.out.2 x0
  go_wp2_with fail
  refine C.mono ?_
  rintro e w9 ⟨b,rfl,hb9,hbb⟩
  have HE:=z9 (HS.out b hb9.out)
  have HB9:=z9 (bel HF.out.2 hbb)
  clear hb9 hbb C
  go_wp2_with fail
  go_ret
  exact⟨by rw[HE.out];rfl,HB9.out⟩
 ·have hF:Holds ((w7.alloc (.cells #[.slice p7 n7 c7] 90)).alloc (.cells #[.slice p6 n6 c6] 44)) (w7.heap.size+1) (w7.heap.size) (.slice p6 n6 c6) (.slice p7 n7 c7) (dq N 0).book (dq N 0).marks∧Below w.heap.size w ((w7.alloc (.cells #[.slice p7 n7 c7] 90)).alloc (.cells #[.slice p6 n6 c6] 44)):=fin_c (box_next w7 _ _) (box_old1 (heap_alloc_new w7 _)) (book_alloc (book_alloc HK6'.out)) (mks_alloc (mks_alloc HK7.out)) (bel_alloc (bel_alloc HB7.out))
  generalize ((w7.alloc (.cells #[.slice p7 n7 c7] 90)).alloc (.cells #[.slice p6 n6 c6] 44))=wf at hF ⊢
  have HF:=Hid.mk' hF
  clear hF CB CM
  have C:=CC.out wf (w7.heap.size+1) (w7.heap.size) p6 p7 n6 c6 n7 c7 HF.out.1 HF.out.2
  have x9:=keep_cell HF.out.2 x0
  go_wp2_with fail
  refine C.mono ?_
  rintro e w9 ⟨b,rfl,hb9,hbb⟩
  have HE:=z9 (HS.out b hb9.out)
  have HB9:=z9 (bel HF.out.2 hbb)
  clear hb9 hbb C
  go_wp2_with fail
  go_ret
  exact⟨by rw[HE.out];rfl,HB9.out⟩
 ·have hF:Holds (((w7.alloc (.cells #[.slice none 0 0] 90)).setCell ⟨w6.heap.size,0,none⟩ (.slice p6 n6 c6)).setCell ⟨w7.heap.size,0,none⟩ (.slice p7 n7 c7)) (w6.heap.size) (w7.heap.size) (.slice p6 n6 c6) (.slice p7 n7 c7) (dq N 0).book (dq N 0).marks∧Below w.heap.size w (((w7.alloc (.cells #[.slice none 0 0] 90)).setCell ⟨w6.heap.size,0,none⟩ (.slice p6 n6 c6)).setCell ⟨w7.heap.size,0,none⟩ (.slice p7 n7 c7)):=fin_of rfl (box_old1 b70L) (heap_alloc_new w7 _) (book_alloc HK6'.out) (mks_alloc HK7.out) (bel_alloc HB7.out) (by have h1:=HB6.out.size;have h2:=HB7.out.size;omega) (by have h1:=HB6.out.size;have h2:=HB7.out.size;omega)
  generalize (((w7.alloc (.cells #[.slice none 0 0] 90)).setCell ⟨w6.heap.size,0,none⟩ (.slice p6 n6 c6)).setCell ⟨w7.heap.size,0,none⟩ (.slice p7 n7 c7))=wf at hF ⊢
  have HF:=Hid.mk' hF
  clear hF CB CM
  have C:=CC.out wf (w6.heap.size) (w7.heap.size) p6 p7 n6 c6 n7 c7 HF.out.1 HF.out.2
  have x9:=keep_cell HF.out.2 x0
  go_wp2_with fail
  refine C.mono ?_
  rintro e w9 ⟨b,rfl,hb9,hbb⟩
  have HE:=z9 (HS.out b hb9.out)
  have HB9:=z9 (bel HF.out.2 hbb)
  clear hb9 hbb C
  go_wp2_with fail
  go_ret
  exact⟨by rw[HE.out];rfl,HB9.out⟩
 ·have hF:Holds ((w7.setCell ⟨w6.heap.size,0,none⟩ (.slice p6 n6 c6)).setCell ⟨w6.heap.size+1,0,none⟩ (.slice p7 n7 c7)) (w6.heap.size) (w6.heap.size+1) (.slice p6 n6 c6) (.slice p7 n7 c7) (dq N 0).book (dq N 0).marks∧Below w.heap.size w ((w7.setCell ⟨w6.heap.size,0,none⟩ (.slice p6 n6 c6)).setCell ⟨w6.heap.size+1,0,none⟩ (.slice p7 n7 c7)):=fin_of rfl b70L b71M HK6'.out HK7.out HB7.out (by have h1:=HB6.out.size;have h2:=HB7.out.size;omega) (by have h1:=HB6.out.size;have h2:=HB7.out.size;omega)
  generalize ((w7.setCell ⟨w6.heap.size,0,none⟩ (.slice p6 n6 c6)).setCell ⟨w6.heap.size+1,0,none⟩ (.slice p7 n7 c7))=wf at hF ⊢
  have HF:=Hid.mk' hF
  clear hF CB CM
  have C:=CC.out wf (w6.heap.size) (w6.heap.size+1) p6 p7 n6 c6 n7 c7 HF.out.1 HF.out.2
  have x9:=keep_cell HF.out.2 x0
  go_wp2_with fail
  refine C.mono ?_
  rintro e w9 ⟨b,rfl,hb9,hbb⟩
  have HE:=z9 (HS.out b hb9.out)
  have HB9:=z9 (bel HF.out.2 hbb)
  clear hb9 hbb C
  go_wp2_with fail
  go_ret
  exact⟨by rw[HE.out];rfl,HB9.out⟩
 ·have hF:Holds ((w7.alloc (.cells #[.slice p6 n6 c6] 44)).setCell ⟨w6.heap.size,0,none⟩ (.slice p7 n7 c7)) (w7.heap.size) (w6.heap.size) (.slice p6 n6 c6) (.slice p7 n7 c7) (dq N 0).book (dq N 0).marks∧Below w.heap.size w ((w7.alloc (.cells #[.slice p6 n6 c6] 44)).setCell ⟨w6.heap.size,0,none⟩ (.slice p7 n7 c7)):=fin_b rfl (heap_alloc_new w7 _) (box_old1 b70M) (book_alloc HK6'.out) (mks_alloc HK7.out) (bel_alloc HB7.out) (by have h1:=HB6.out.size;have h2:=HB7.out.size;omega)
  generalize ((w7.alloc (.cells #[.slice p6 n6 c6] 44)).setCell ⟨w6.heap.size,0,none⟩ (.slice p7 n7 c7))=wf at hF ⊢
  have HF:=Hid.mk' hF
  clear hF CB CM
  have C:=CC.out wf (w7.heap.size) (w6.heap.size) p6 p7 n6 c6 n7 c7 HF.out.1 HF.out.2
  have x9:=keep_cell HF.out.2 x0
  go_wp2_with fail
  refine C.mono ?_
  rintro e w9 ⟨b,rfl,hb9,hbb⟩
  have HE:=z9 (HS.out b hb9.out)
  have HB9:=z9 (bel HF.out.2 hbb)
  clear hb9 hbb C
  go_wp2_with fail
  go_ret
  exact⟨by rw[HE.out];rfl,HB9.out⟩
 ·have hF:Holds ((w7.setCell ⟨w6.heap.size+1,0,none⟩ (.slice p6 n6 c6)).setCell ⟨w6.heap.size,0,none⟩ (.slice p7 n7 c7)) (w6.heap.size+1) (w6.heap.size) (.slice p6 n6 c6) (.slice p7 n7 c7) (dq N 0).book (dq N 0).marks∧Below w.heap.size w ((w7.setCell ⟨w6.heap.size+1,0,none⟩ (.slice p6 n6 c6)).setCell ⟨w6.heap.size,0,none⟩ (.slice p7 n7 c7)):=fin_of rfl b71L b70M HK6'.out HK7.out HB7.out (by have h1:=HB6.out.size;have h2:=HB7.out.size;omega) (by have h1:=HB6.out.size;have h2:=HB7.out.size;omega)
  generalize ((w7.setCell ⟨w6.heap.size+1,0,none⟩ (.slice p6 n6 c6)).setCell ⟨w6.heap.size,0,none⟩ (.slice p7 n7 c7))=wf at hF ⊢
  have HF:=Hid.mk' hF
  clear hF CB CM
  have C:=CC.out wf (w6.heap.size+1) (w6.heap.size) p6 p7 n6 c6 n7 c7 HF.out.1 HF.out.2
  have x9:=keep_cell HF.out.2 x0
  go_wp2_with fail
  refine C.mono ?_
  rintro e w9 ⟨b,rfl,hb9,hbb⟩
  have HE:=z9 (HS.out b hb9.out)
  have HB9:=z9 (bel HF.out.2 hbb)
  clear hb9 hbb C
  go_wp2_with fail
  go_ret
  exact⟨by rw[HE.out];rfl,HB9.out⟩
 ·have hF:Holds (((w7.alloc (.cells #[.slice none 0 0] 90)).setCell ⟨w.heap.size,0,none⟩ (.slice p6 n6 c6)).setCell ⟨w7.heap.size,0,none⟩ (.slice p7 n7 c7)) (w.heap.size) (w7.heap.size) (.slice p6 n6 c6) (.slice p7 n7 c7) (dq N 0).book (dq N 0).marks∧Below w.heap.size w (((w7.alloc (.cells #[.slice none 0 0] 90)).setCell ⟨w.heap.size,0,none⟩ (.slice p6 n6 c6)).setCell ⟨w7.heap.size,0,none⟩ (.slice p7 n7 c7)):=fin_of rfl (box_old1 c70L) (heap_alloc_new w7 _) (book_alloc HK6'.out) (mks_alloc HK7.out) (bel_alloc HB7.out) (by have h1:=HB6.out.size;have h2:=HB7.out.size;omega) (by have h1:=HB6.out.size;have h2:=HB7.out.size;omega)
  generalize (((w7.alloc (.cells #[.slice none 0 0] 90)).setCell ⟨w.heap.size,0,none⟩ (.slice p6 n6 c6)).setCell ⟨w7.heap.size,0,none⟩ (.slice p7 n7 c7))=wf at hF ⊢
  have HF:=Hid.mk' hF
  clear hF CB CM
  have C:=CC.out wf (w.heap.size) (w7.heap.size) p6 p7 n6 c6 n7 c7 HF.out.1 HF.out.2
  have x9:=keep_cell HF.out.2 x0
  go_wp2_with fail
  refine C.mono ?_
  rintro e w9 ⟨b,rfl,hb9,hbb⟩
  have HE:=z9 (HS.out b hb9.out)
  have HB9:=z9 (bel HF.out.2 hbb)
  clear hb9 hbb C
  go_wp2_with fail
  go_ret
  exact⟨by rw[HE.out];rfl,HB9.out⟩
 ·have hF:Holds ((w7.setCell ⟨w.heap.size,0,none⟩ (.slice p6 n6 c6)).setCell ⟨w6.heap.size,0,none⟩ (.slice p7 n7 c7)) (w.heap.size) (w6.heap.size) (.slice p6 n6 c6) (.slice p7 n7 c7) (dq N 0).book (dq N 0).marks∧Below w.heap.size w ((w7.setCell ⟨w.heap.size,0,none⟩ (.slice p6 n6 c6)).setCell ⟨w6.heap.size,0,none⟩ (.slice p7 n7 c7)):=fin_of rfl c70L b70M HK6'.out HK7.out HB7.out (by have h1:=HB6.out.size;have h2:=HB7.out.size;omega) (by have h1:=HB6.out.size;have h2:=HB7.out.size;omega)
  generalize ((w7.setCell ⟨w.heap.size,0,none⟩ (.slice p6 n6 c6)).setCell ⟨w6.heap.size,0,none⟩ (.slice p7 n7 c7))=wf at hF ⊢
  have HF:=Hid.mk' hF
  clear hF CB CM
  have C:=CC.out wf (w.heap.size) (w6.heap.size) p6 p7 n6 c6 n7 c7 HF.out.1 HF.out.2
  have x9:=keep_cell HF.out.2 x0
  go_wp2_with fail
  refine C.mono ?_
  rintro e w9 ⟨b,rfl,hb9,hbb⟩
  have HE:=z9 (HS.out b hb9.out)
  have HB9:=z9 (bel HF.out.2 hbb)
  clear hb9 hbb C
  go_wp2_with fail
  go_ret
  exact⟨by rw[HE.out];rfl,HB9.out⟩
 ·have hF:Holds ((w7.setCell ⟨w.heap.size,0,none⟩ (.slice p6 n6 c6)).setCell ⟨w.heap.size+1,0,none⟩ (.slice p7 n7 c7)) (w.heap.size) (w.heap.size+1) (.slice p6 n6 c6) (.slice p7 n7 c7) (dq N 0).book (dq N 0).marks∧Below w.heap.size w ((w7.setCell ⟨w.heap.size,0,none⟩ (.slice p6 n6 c6)).setCell ⟨w.heap.size+1,0,none⟩ (.slice p7 n7 c7)):=fin_of rfl c70L c71M HK6'.out HK7.out HB7.out (by have h1:=HB6.out.size;have h2:=HB7.out.size;omega) (by have h1:=HB6.out.size;have h2:=HB7.out.size;omega)
  generalize ((w7.setCell ⟨w.heap.size,0,none⟩ (.slice p6 n6 c6)).setCell ⟨w.heap.size+1,0,none⟩ (.slice p7 n7 c7))=wf at hF ⊢
  have HF:=Hid.mk' hF
  clear hF CB CM
  have C:=CC.out wf (w.heap.size) (w.heap.size+1) p6 p7 n6 c6 n7 c7 HF.out.1 HF.out.2
  have x9:=keep_cell HF.out.2 x0
  go_wp2_with fail
  refine C.mono ?_
  rintro e w9 ⟨b,rfl,hb9,hbb⟩
  have HE:=z9 (HS.out b hb9.out)
  have HB9:=z9 (bel HF.out.2 hbb)
  clear hb9 hbb C
  go_wp2_with fail
  go_ret
  exact⟨by rw[HE.out];rfl,HB9.out⟩
 ·have hF:Holds ((w7.alloc (.cells #[.slice p6 n6 c6] 44)).setCell ⟨w.heap.size,0,none⟩ (.slice p7 n7 c7)) (w7.heap.size) (w.heap.size) (.slice p6 n6 c6) (.slice p7 n7 c7) (dq N 0).book (dq N 0).marks∧Below w.heap.size w ((w7.alloc (.cells #[.slice p6 n6 c6] 44)).setCell ⟨w.heap.size,0,none⟩ (.slice p7 n7 c7)):=fin_b rfl (heap_alloc_new w7 _) (box_old1 c70M) (book_alloc HK6'.out) (mks_alloc HK7.out) (bel_alloc HB7.out) (by have h1:=HB6.out.size;have h2:=HB7.out.size;omega)
  generalize ((w7.alloc (.cells #[.slice p6 n6 c6] 44)).setCell ⟨w.heap.size,0,none⟩ (.slice p7 n7 c7))=wf at hF ⊢
  have HF:=Hid.mk' hF
  clear hF CB CM
  have C:=CC.out wf (w7.heap.size) (w.heap.size) p6 p7 n6 c6 n7 c7 HF.out.1 HF.out.2
  have x9:=keep_cell HF.out.2 x0
  go_wp2_with fail
  refine C.mono ?_
  rintro e w9 ⟨b,rfl,hb9,hbb⟩
  have HE:=z9 (HS.out b hb9.out)
  have HB9:=z9 (bel HF.out.2 hbb)
  clear hb9 hbb C
  go_wp2_with fail
  go_ret
  exact⟨by rw[HE.out];rfl,HB9.out⟩
 ·have hF:Holds ((w7.setCell ⟨w6.heap.size,0,none⟩ (.slice p6 n6 c6)).setCell ⟨w.heap.size,0,none⟩ (.slice p7 n7 c7)) (w6.heap.size) (w.heap.size) (.slice p6 n6 c6) (.slice p7 n7 c7) (dq N 0).book (dq N 0).marks∧Below w.heap.size w ((w7.setCell ⟨w6.heap.size,0,none⟩ (.slice p6 n6 c6)).setCell ⟨w.heap.size,0,none⟩ (.slice p7 n7 c7)):=fin_of rfl b70L c70M HK6'.out HK7.out HB7.out (by have h1:=HB6.out.size;have h2:=HB7.out.size;omega) (by have h1:=HB6.out.size;have h2:=HB7.out.size;omega)
  generalize ((w7.setCell ⟨w6.heap.size,0,none⟩ (.slice p6 n6 c6)).setCell ⟨w.heap.size,0,none⟩ (.slice p7 n7 c7))=wf at hF ⊢
  have HF:=Hid.mk' hF
  clear hF CB CM
  have C:=CC.out wf (w6.heap.size) (w.heap.size) p6 p7 n6 c6 n7 c7 HF.out.1 HF.out.2
  have x9:=keep_cell HF.out.2 x0
  go_wp2_with fail
  refine C.mono ?_
  rintro e w9 ⟨b,rfl,hb9,hbb⟩
  have HE:=z9 (HS.out b hb9.out)
  have HB9:=z9 (bel HF.out.2 hbb)
  clear hb9 hbb C
  go_wp2_with fail
  go_ret
  exact⟨by rw[HE.out];rfl,HB9.out⟩
 ·have hF:Holds ((w7.setCell ⟨w.heap.size+1,0,none⟩ (.slice p6 n6 c6)).setCell ⟨w.heap.size,0,none⟩ (.slice p7 n7 c7)) (w.heap.size+1) (w.heap.size) (.slice p6 n6 c6) (.slice p7 n7 c7) (dq N 0).book (dq N 0).marks∧Below w.heap.size w ((w7.setCell ⟨w.heap.size+1,0,none⟩ (.slice p6 n6 c6)).setCell ⟨w.heap.size,0,none⟩ (.slice p7 n7 c7)):=fin_of rfl c71L c70M HK6'.out HK7.out HB7.out (by have h1:=HB6.out.size;have h2:=HB7.out.size;omega) (by have h1:=HB6.out.size;have h2:=HB7.out.size;omega)
  generalize ((w7.setCell ⟨w.heap.size+1,0,none⟩ (.slice p6 n6 c6)).setCell ⟨w.heap.size,0,none⟩ (.slice p7 n7 c7))=wf at hF ⊢
  have HF:=Hid.mk' hF
  clear hF CB CM
  have C:=CC.out wf (w.heap.size+1) (w.heap.size) p6 p7 n6 c6 n7 c7 HF.out.1 HF.out.2
  have x9:=keep_cell HF.out.2 x0
  go_wp2_with fail
  refine C.mono ?_
  rintro e w9 ⟨b,rfl,hb9,hbb⟩
  have HE:=z9 (HS.out b hb9.out)
  have HB9:=z9 (bel HF.out.2 hbb)
  clear hb9 hbb C
  go_wp2_with fail
  go_ret
  exact⟨by rw[HE.out];rfl,HB9.out⟩
end Gf
end Go.Proofs.YtlmdchpbpgcfmaaGreatDoor
