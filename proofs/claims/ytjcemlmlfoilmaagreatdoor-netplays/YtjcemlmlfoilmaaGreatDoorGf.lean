import Derived.Test.YtjcemlmlfoilmaaGreatDoorN2
set_option linter.unusedSimpArgs false
set_option linter.unusedVariables false
set_option maxRecDepth 100000
set_option maxHeartbeats 8000000
namespace Go.Proofs.YtjcemlmlfoilmaaGreatDoor
open Go.Proofs.Tryz (prog)
namespace Gf
open Go.RowKit Cm Na Om Oz Oc Oi Hm Ia Ic Ie Hc Hd Hl
open La (bel)
open Lj (BookAt)
variable {W w Wb wf:World}{u x v:Value}{t:TypeId}{O:Obj}{a b o n6 c6 n7 c7:Nat}{l:List Bm.Leaf}{p p6 p7:Option Addr}{m:List Mk}(A:Option Addr)(n c L0 M0:Nat)(E:Nat->Nat)(B:Nat->Bool)
theorem mX{ops:Array Oper}{o:Oper}{a:Act}{K:Act->World->Prop}{Q:Exit->Act->World->Prop}{E:Prop}{R:Value->World->Prop}(hgd:o.guard=none)(F:FuncId)(x:Operand)(T:TypeId)(ho:o.op=.call { callee:=.value (.func F),args:=#[x],argTypes:=#[T] })(v0:Value)(hx:a.eval x=v0)(hcf:∀args W,(callFunc F args).run prog W=.ok (.enter F args) W)(hC:Calls prog F #[v0] W fun e w'=>∃v,e=.returned v/\R v w')(h:∀v w',R v w'->K (a.put o.dst v) w'):
  if Region.wanted o (yielded ops a.tmps)=true then Oper.wp prog o a W K Q else E:=by
 have b:Region.wanted o (yielded ops a.tmps)=true:=by simp[Region.wanted,hgd]
 rw[if_pos b]
 have c:(execOp a.eval o).run prog W=.ok (.enter F #[v0]) W:=by
  have d:a.eval (.func F)=.func (.func F) #[] #[]:=rfl;unfold execOp;simp only[ho,resolve,invoke,xN,jY,vM,hx,d];exact hcf _ _
 unfold Oper.wp;rw[c,Oper.upon_enter];refine hC.mono ?_;rintro e w' ⟨v,rfl,f⟩;exact h v w' f
def dif (S:Dq) (l:List Bm.Leaf) (m:List Mk):Bool:= !(decide (S.book=l)) || !(decide (S.marks=m))
structure Holds (w:World) (L0 M0:Nat) (vl vm:Value) (l:List Bm.Leaf) (m:List Mk):Prop where
 cl:w.cell? ⟨L0,0,none⟩=some vl
 cm:w.cell? ⟨M0,0,none⟩=some vm
 bl:BookAt w vl l
 bm:MksAt w vm m
theorem Holds.below{w w':World}{L0 M0:Nat}{vl vm:Value}{l:List Bm.Leaf}{m:List Mk}(h:Holds w L0 M0 vl vm l m)(hb:zB w w'):Holds w' L0 M0 vl vm l m:=
 ⟨aA hb h.cl,aA hb h.cm,h.bl.below hb,h.bm.below hb⟩
theorem aIg(D L0 M0:Nat)(S:Dq)(Fd:Nat->Prop)(vl vm:Value)(l:List Bm.Leaf)(m:List Mk)(w:World)(hd:DocAt w D S Fd)(hh:Holds w L0 M0 vl vm l m):
  Calls prog 31 #[ptr D,ptr L0,ptr M0] w fun e w'=>e=.returned (.bool (dif S l m))/\zB w w':=by
 obtain⟨t,y,z,rfl⟩:∃p n c,vl=.slice p n c:=by obtain⟨p,c,e,_⟩:=hh.bl;exact⟨_,_,_,e⟩
 obtain⟨M,N,O,rfl⟩:∃p n c,vm=.slice p n c:=by obtain⟨p,c,e,_⟩:=hh.bm;exact⟨_,_,_,e⟩
 have CB:Hid (∀W,zB w W->Calls prog 16 #[ptr D] W fun e w'=>∃v',e=.returned v'/\BookAt w' v' S.book/\zB W w'):=fun W hb=>(Il.eJ D _ _ W (hd.below hb)).mono fun e w' ⟨v',h1,h2,h3⟩=>⟨v',h1,h2.1,h3⟩
 have R:Hid (∀W,zB w W->Calls prog 29 #[ptr D] W fun e w'=>∃v',e=.returned v'/\MksAt w' v' S.marks/\zB W w'):=fun W hb=>(Il.oO D _ _ W (hd.below hb)).mono fun e w' ⟨v',h1,h2,h3⟩=>⟨v',h1,h2.1,h3⟩
 have EB:Hid (∀W v,zB w W->BookAt W v S.book->Calls prog 32 #[v,.slice t y z] W fun e w'=>e=.returned (.bool (decide (S.book=l)))/\zB W w'):=fun W v hb h1=>Hy.aGy v _ _ _ W h1 (hh.below hb).bl (by have:=Il.bR hd.inv;omega)
 have P:Hid (∀W v,zB w W->MksAt W v S.marks->Calls prog 33 #[v,.slice M N O] W fun e w'=>e=.returned (.bool (decide (S.marks=m)))/\zB W w'):=fun W v hb h1=>Hy.aFJ v _ _ _ W h1 (hh.below hb).bm (by have:=Il.gX hd.inv;omega)
 have T:=hh.cl
 have U:=hh.cm
 have Q:=Hid.mk' (qD w.heap.size w)
 have d:Hid (dif S l m=(!(decide (S.book=l)) || !(decide (S.marks=m)))):=rfl
 generalize dif S l m=r at d |-
 generalize decide (S.book=l)=b1 at EB d
 generalize decide (S.marks=m)=b2 at P d
 clear hd hh
 cases b1
 ·have V:∀args W,(callFunc 16 args).run prog W=.ok (.enter 16 args) W:=fun _ _=>by kernel_rfl
  have X:∀args W,(callFunc 32 args).run prog W=.ok (.enter 32 args) W:=fun _ _=>by kernel_rfl
  have CB':Hid (∀W,zB w W->Calls prog 16 #[ptr D] W fun e w'=>∃v,e=.returned v/\((∃p n c,v=.slice p n c)/\BookAt w' v S.book/\zB w w')):=fun W hb=>(CB.out W hb).mono fun e w' ⟨v,h1,h2,h3⟩=>⟨v,h1,(by obtain⟨p,c,e,_⟩:=h2;exact⟨_,_,_,e⟩),h2,bel hb h3⟩
  have EB':Hid (∀W v,zB w W->BookAt W v S.book->Calls prog 32 #[v,.slice t y z] W fun e w'=>∃v,e=.returned v/\(v=.bool false/\zB w w'/\zB W w')):=fun W v hb h=>(EB.out W v hb h).mono fun e w' ⟨h1,h2⟩=>⟨_,h1,rfl,bel hb h2,h2⟩
  clear CB EB R P
  go_in
  go_wp2_with fail
  refine wp_region_held_drew (S:=fun W=>W.cell? (zA L0)=some (.slice t y z)/\W.cell? (zA M0)=some (.slice M N O)) (by kernel_rfl) ⟨T,U⟩ (fun hS0=> ?_)
  refine wpAnyH_take (i:=0) (oi:={ dst:=some 5,op:=Op.move (Operand.tmp 0),type:=43,pos:= "net.go:75",after:=#[],guard:=none }) (v:=ptr D) rfl (by kernel_rfl) (by kernel_rfl) (by kernel_rfl) (fun _ _ _ h=>h) (qH ⟨by rfl,by(intro W hW;obtain⟨A,B⟩:=hW;go_simp)⟩) hS0 ?_
  try simp only[Act.put,qL,qZ,qU]
  refine wpAnyH_take (i:=2) (oi:={ dst:=some 7,op:=Op.load 47 (Operand.tmp 1),type:=47,pos:= "net.go:75",after:=#[],guard:=none }) (v:=.slice t y z) rfl (by kernel_rfl) (by kernel_rfl) (by kernel_rfl) (fun _ _ _ h=>h) (qH ⟨by rfl,by(intro W hW;obtain⟨A,B⟩:=hW;go_simp)⟩) hS0 ?_
  try simp only[Act.put,qL,qZ,qU]
  refine wpAnyH_ready (rs:=[1]) (by kernel_rfl) (by simp) ?_
  refine AllReadyH.cons (o:={ dst:=some 6,op:=Op.call { callee:=Callee.value (Operand.func 16),args:=#[Operand.tmp 5],argTypes:=#[43] },type:=47,pos:= "net.go:75",after:=#[{ on:=0,ground:=Ground.data }],guard:=none }) rfl (fun K hK=> ?_) AllReadyH.nil
  refine mX rfl 16 (.tmp 5) _ rfl (ptr D) rfl V (CB'.out _ Q.out.drew) ?_
  rintro Y w6 ⟨⟨Z,n6,c6,rfl⟩,J,k⟩
  have q:=Hid.mk' k
  have C:=Hid.mk' J
  have y1:=aA k T
  have y2:=aA k U
  clear J k
  refine hK _ _ ⟨y1,y2⟩ (fun hS1=> ?_)
  try simp only[Act.put,qL,qZ,qU]
  refine wpAnyH_ready (rs:=[3]) (by kernel_rfl) (by simp) ?_
  refine AllReadyH.cons (o:={ dst:=some 8,op:=Op.call { callee:=Callee.value (Operand.func 32),args:=#[Operand.tmp 6,Operand.tmp 7],argTypes:=#[47,47] },type:=4,pos:= "net.go:75",after:=#[{ on:=1,ground:=Ground.data },{ on:=2,ground:=Ground.data },{ on:=1,ground:=Ground.chain }],guard:=none }) rfl (fun K hK=> ?_) AllReadyH.nil
  refine Ig.mN rfl 32 (.tmp 6) (.tmp 7) _ _ rfl (.slice Z n6 c6) (.slice t y z) rfl rfl X (EB'.out _ _ q.out C.out) ?_
  rintro v7 w7 ⟨rfl,b,E⟩
  have s:=Hid.mk' b
  have z1:=aA E y1
  have z2:=aA E y2
  clear b E
  refine hK _ _ ⟨z1,z2⟩ (fun hS2=> ?_)
  try simp only[Act.put,qL,qZ,qU]
  refine wpAnyH_take (i:=4) (oi:={ dst:=some 9,op:=Op.unOp UnOp.not 4 (Operand.tmp 8),type:=4,pos:= "net.go:75",after:=#[{ on:=3,ground:=Ground.data }],guard:=none }) (v:=.bool true) rfl (by kernel_rfl) (by kernel_rfl) (by kernel_rfl) (fun _ _ _ h=>h) (qH ⟨by rfl,by(intro W hW;obtain⟨A,B⟩:=hW;go_simp)⟩) hS2 ?_
  try simp only[Act.put,qL,qZ,qU]
  refine wpAnyH_take (i:=5) (oi:={ dst:=some 10,op:=Op.move (Operand.tmp 9),type:=4,pos:= "net.go:75",after:=#[{ on:=4,ground:=Ground.data },{ on:=3,ground:=Ground.chain }],guard:=none }) (v:=.bool true) rfl (by kernel_rfl) (by kernel_rfl) (by kernel_rfl) (fun _ _ _ h=>h) (qH ⟨by rfl,by(intro W hW;obtain⟨A,B⟩:=hW;go_simp)⟩) hS2 ?_
  try simp only[Act.put,qL,qZ,qU]
  refine wpAnyH_take (i:=6) (oi:={ dst:=some 11,op:=Op.move (Operand.tmp 0),type:=43,pos:= "net.go:75",after:=#[{ on:=5,ground:=Ground.guard }],guard:=some (5,false) }) (v:=undef) rfl (by kernel_rfl) (by kernel_rfl) (by kernel_rfl) (fun _ _ _ h=>h) (qF ⟨by rfl,rfl⟩) hS2 ?_
  try simp only[Act.put,qL,qZ,qU]
  refine wpAnyH_take (i:=7) (oi:={ dst:=some 12,op:=Op.call { callee:=Callee.value (Operand.func 29),args:=#[Operand.tmp 11],argTypes:=#[43] },type:=48,pos:= "net.go:75",after:=#[{ on:=6,ground:=Ground.data },{ on:=5,ground:=Ground.chain },{ on:=5,ground:=Ground.guard }],guard:=some (5,false) }) (v:=undef) rfl (by kernel_rfl) (by kernel_rfl) (by kernel_rfl) (fun _ _ _ h=>h) (qF ⟨by rfl,rfl⟩) hS2 ?_
  try simp only[Act.put,qL,qZ,qU]
  refine wpAnyH_take (i:=8) (oi:={ dst:=some 13,op:=Op.load 48 (Operand.tmp 2),type:=48,pos:= "net.go:75",after:=#[{ on:=5,ground:=Ground.guard }],guard:=some (5,false) }) (v:=undef) rfl (by kernel_rfl) (by kernel_rfl) (by kernel_rfl) (fun _ _ _ h=>h) (qF ⟨by rfl,rfl⟩) hS2 ?_
  try simp only[Act.put,qL,qZ,qU]
  refine wpAnyH_take (i:=9) (oi:={ dst:=some 14,op:=Op.call { callee:=Callee.value (Operand.func 33),args:=#[Operand.tmp 12,Operand.tmp 13],argTypes:=#[48,48] },type:=4,pos:= "net.go:75",after:=#[{ on:=7,ground:=Ground.data },{ on:=8,ground:=Ground.data },{ on:=7,ground:=Ground.chain },{ on:=5,ground:=Ground.guard }],guard:=some (5,false) }) (v:=undef) rfl (by kernel_rfl) (by kernel_rfl) (by kernel_rfl) (fun _ _ _ h=>h) (qF ⟨by rfl,rfl⟩) hS2 ?_
  try simp only[Act.put,qL,qZ,qU]
  refine wpAnyH_take (i:=10) (oi:={ dst:=some 15,op:=Op.unOp UnOp.not 4 (Operand.tmp 14),type:=4,pos:= "net.go:75",after:=#[{ on:=9,ground:=Ground.data },{ on:=5,ground:=Ground.guard }],guard:=some (5,false) }) (v:=undef) rfl (by kernel_rfl) (by kernel_rfl) (by kernel_rfl) (fun _ _ _ h=>h) (qF ⟨by rfl,rfl⟩) hS2 ?_
  try simp only[Act.put,qL,qZ,qU]
  refine wpAnyH_take (i:=11) (oi:={ dst:=some 16,op:=Op.pick (Operand.tmp 10) (Operand.const (Value.bool true)) (Operand.tmp 15),type:=4,pos:= "net.go:75",after:=#[{ on:=5,ground:=Ground.data },{ on:=10,ground:=Ground.data }],guard:=none }) (v:=.bool true) rfl (by kernel_rfl) (by kernel_rfl) (by kernel_rfl) (fun _ _ _ h=>h) (qH ⟨by rfl,by(intro W hW;obtain⟨A,B⟩:=hW;go_simp)⟩) hS2 ?_
  try simp only[Act.put,qL,qZ,qU]
  refine wpAnyH_take (i:=12) (oi:={ dst:=some 4,op:=Op.assign (Operand.tmp 16),type:=4,pos:= "net.go:75",after:=#[{ on:=11,ground:=Ground.data },{ on:=9,ground:=Ground.chain },{ on:=0,ground:=Ground.phase },{ on:=1,ground:=Ground.phase },{ on:=2,ground:=Ground.phase },{ on:=3,ground:=Ground.phase },{ on:=4,ground:=Ground.phase },{ on:=5,ground:=Ground.phase },{ on:=6,ground:=Ground.phase },{ on:=7,ground:=Ground.phase },{ on:=8,ground:=Ground.phase },{ on:=9,ground:=Ground.phase },{ on:=10,ground:=Ground.phase },{ on:=11,ground:=Ground.phase }],guard:=none }) (v:=.bool true) rfl (by kernel_rfl) (by kernel_rfl) (by kernel_rfl) (fun _ _ _ h=>h) (qH ⟨by rfl,by(intro W hW;obtain⟨A,B⟩:=hW;go_simp)⟩) hS2 ?_
  try simp only[Act.put,qL,qZ,qU]
  refine wpAnyH_done (by kernel_rfl) ?_ _
  all_goals
   go_wp2_with fail
   go_ret
   exact⟨by rw[d.out];rfl,s.out⟩
 ·go_in
  go_wp2_with fail
  go_region_held3 (fun W=>W.cell? (zA L0)=some (.slice t y z)/\W.cell? (zA M0)=some (.slice M N O)) (first | (go_keep;done) | (refine⟨aA f ?_,aA f ?_⟩<;>(first | assumption | (go_split_ands;assumption))) | (refine⟨aA F ?_,aA F ?_⟩<;>(first | assumption | (go_split_ands;assumption))) | (refine⟨aA G ?_,aA G ?_⟩<;>(first | assumption | (go_split_ands;assumption))) | (refine⟨aA b ?_,aA b ?_⟩<;>(first | assumption | (go_split_ands;assumption)))) (first
   | (go_at_call 16;refine(CB.out _ Q.out.drew).mono ?_;rintro e w6 ⟨Y,rfl,H,b⟩;obtain⟨Z,n6,c6,rfl⟩:∃p n c,Y=.slice p n c:=(by obtain⟨p,c,e,_⟩:=H;exact⟨_,_,_,e⟩);have q:=z9 (bel Q.out.drew b);have C:=Hid.mk' H;clear H)
   | (go_at_call 32;refine(EB.out _ _ q.out C.out).mono ?_;rintro e w7 ⟨rfl,G⟩;have s:=z9 (bel q.out G))
   | (go_at_call 29;refine(R.out _ s.out).mono ?_;rintro e w8 ⟨v8,rfl,I,F⟩;obtain⟨p8,n8,c8,rfl⟩:∃p n c,v8=.slice p n c:=(by obtain⟨p,c,e,_⟩:=I;exact⟨_,_,_,e⟩);have L:=z9 (bel s.out F);have ae:=Hid.mk' I;clear I)
   | (go_at_call 33;refine(P.out _ _ L.out ae.out).mono ?_;rintro e w9 ⟨rfl,f⟩;have af:=z9 (bel L.out f)))
  all_goals
   cases b2
   all_goals
    go_wp2_with fail
    go_ret
    exact⟨by rw[d.out];rfl,af.out⟩
theorem aHo(w:World)(hA:0<n->∃g o,A=some ⟨g,o,none⟩/\∀j,j<n->w.cell? ⟨g,o+j,none⟩=some (ptr (E j)))(hn:n<=10)(CC:∀j,j<n->∀W,zB w W->Calls prog 31 #[ptr (E j),ptr L0,ptr M0] W fun e w'=>e=.returned (.bool (B j))/\zB W w'):
  Calls prog 58 #[.slice A n c,.func (.func 31) #[] #[ptr L0,ptr M0]] w fun e w'=>∃z:Int,e=.returned (.int .i64 z)/\Hid ((z= -1/\∀j,j<n->B j=false)\/(0<=z/\∃j,j<n/\B j=true))/\zB w w':=by
 have v:=Hid.mk' hA;have y:=Hid.mk' CC;clear hA CC;go_in;go_wp2;go_loopw [5,8] (fun _ i wr=>∃k:Nat,k<=n/\i=zI k/\Hid (∀j,j<k->B j=false)/\Hid (zB w wr)) (fun _ i _=>n-(intOf i).toNat)
 case atStart=>exact⟨0,by omega,rfl,fun j hj=>absurd hj (by omega),qD _ _⟩
 case round=>
  obtain⟨k,D,rfl,s,a⟩:=hrel;by_cases f:k<n
  ·have m:(k:Int)<n:=by omega
   obtain⟨g,o,rfl,p⟩:=v.out (by omega);have F:=aA a.out (p k f);have C:=y.out k f wr a.out;cases hB:B k
   ·rw[hB] at C;have q:=Hid.mk' hB;clear p hB;go_wp2_with fail;refine C.mono ?_;rintro e w2 ⟨rfl,b⟩;have l:=z9 (bel a.out b);clear b C;go_wp2_with fail;go_roundw
    case rel=>exact⟨k+1,by omega,by go_num,fun j hj=>by
     rcases jS.1 hj with h | rfl
     ·exact s.out j h
     ·exact q.out,l⟩
    case measure=>simp[intOf];omega
   ·rw[hB] at C;have q:=Hid.mk' hB;have t:=Hid.mk' f;clear p hB;go_wp2_with fail;refine C.mono ?_;rintro e w2 ⟨rfl,b⟩;have l:=z9 (bel a.out b);clear b C;go_wp2_with fail;go_ret;exact⟨(k:Int),rfl,qF ⟨by omega,k,t.out,q.out⟩,l.out⟩
  ·obtain rfl:k=n:=by omega
   have m:¬(k:Int)<k:=by omega
   go_wp2_with fail;go_ret;exact⟨-1,rfl,qH ⟨rfl,s.out⟩,a.out⟩
theorem aHk(w:World)(hA:0<n->∃g o,A=some ⟨g,o,none⟩/\∀j,j<n->w.cell? ⟨g,o+j,none⟩=some (ptr (E j)))(hn:n<=10)(CC:∀j,j<n->∀W,zB w W->Calls prog 31 #[ptr (E j),ptr L0,ptr M0] W fun e w'=>e=.returned (.bool (B j))/\zB W w'):
  Calls prog 30 #[.slice A n c,.func (.func 31) #[] #[ptr L0,ptr M0]] w fun e w'=>∃b,e=.returned (.bool b)/\Hid (b=true↔∃j,j<n/\B j=true)/\zB w w':=by
 have C:=aHo A n c L0 M0 E B w hA hn CC;clear hA CC hn;go_in;go_wp2_with fail;refine C.mono ?_;rintro e w2 ⟨z,rfl,f,a⟩;have d:=Hid.mk' a;clear a C;rcases f.out with⟨rfl,h1⟩ | ⟨h0,h1⟩
 ·have h:=Hid.mk' h1;clear h1 f;go_wp2_with fail;go_ret;exact⟨false,rfl,⟨fun e=>(by cases e),fun ⟨j,hj,hB⟩=>(by rw[h.out j hj] at hB;cases hB)⟩,d.out⟩
 ·have h:=Hid.mk' h1;clear h1 f;go_wp2_with fail;go_ret;exact⟨true,rfl,⟨fun _=>h.out,fun _=>rfl⟩,d.out⟩
theorem aHO{N:Nt}(hn:1<=N.ds.length){b:Bool}(h:b=true↔∃j,j<N.ds.length-1/\dif (dq N (j+1)) (dq N 0).book (dq N 0).marks=true):sameB N= !b:=by
 unfold sameB;rw[xP,decide_eq_true_eq,Bool.not_eq_true',<-Bool.not_eq_true,h];constructor
 ·rintro a ⟨j,k,c⟩;obtain⟨f,g⟩:=a (j+1) (by omega);unfold dif at c;rw[decide_eq_true f,decide_eq_true g] at c;cases c
 ·intro a i hi;rcases i with _ | j
  ·exact⟨rfl,rfl⟩
  ·have d:¬dif (dq N (j+1)) (dq N 0).book (dq N 0).marks=true:=fun e=>a ⟨j,by omega,e⟩
   unfold dif at d;simpa using d
theorem dK{w':World}(hb:zB W w'){B:Nat}(h:W.heap[B]? =some (.cells #[u] t)):w'.heap[B]? =some (.cells #[u] t):=(hb.block B (qG.1 h).1).trans h
theorem aR{B:Nat}(h:w.heap[B]? =some (.cells #[u] t)):(w.alloc O).heap[B]? =some (.cells #[u] t):=dK (zb w O) h
theorem iB(w:World)(O O':Obj):((w.alloc O).alloc O').heap[w.heap.size+1]? =some O':=by
 have h:=heap_alloc_new (w.alloc O) O';have e:(w.alloc O).heap.size=w.heap.size+1:=by simp
 rw[e] at h;exact h
theorem aHK(hab:b≠a)(h:w.heap[b]? =some (.cells #[u] t)):(w.setCell ⟨a,0,none⟩ x).heap[b]? =some (.cells #[u] t):=by rw[set_block _ _ _ _ (show b≠a from hab)];exact h
theorem dE(h:BookAt w v l):BookAt (w.alloc O) v l:=h.below (zb w O)
theorem dW{l:List Mk}(h:MksAt w v l):MksAt (w.alloc O) v l:=h.below (zb w O)
theorem dY(h:zB w W):zB w (W.alloc O):=h.alloc h.size O
theorem aCo{p:Addr}(h:w.cell? p=some v):(w.alloc O).cell? p=some v:=aA (zb w O) h
theorem aN{i:Nat}(hab:a≠b)(h:w.cell? ⟨a,o,none⟩=some v):(w.setCell ⟨b,i,none⟩ u).cell? ⟨a,o,none⟩=some v:=by
 unfold World.cell?;rw[set_block _ _ _ _ (show a≠b from hab)];exact h
theorem cells_off(hb:w.heap[b]? =some (.cells #[u] t))(h:w.cell? ⟨a,o,none⟩=some v)(hv:v≠u):a≠b:=by
 rintro rfl;simp only[World.cell?,hb] at h;rcases o with _ | o
 ·simp at h;exact hv h.symm
 ·simp at h
theorem cell_kept(hb:w.heap[b]? =some (.cells #[u] t))(h:w.cell? ⟨a,o,none⟩=some v)(hv:v≠u):(w.setCell ⟨b,0,none⟩ x).cell? ⟨a,o,none⟩=some v:=by
 unfold World.cell?;rw[set_block _ _ _ _ (show a≠b from(cells_off hb h hv))];exact h
theorem oS{n c:Nat}(hb:w.heap[b]? =some (.cells #[.slice p n c] t))(h:BookAt w v l):BookAt (w.setCell ⟨b,0,none⟩ x) v l:=by
 obtain⟨q,d,e,f,g⟩:=h;refine⟨q,d,e, ?_,g⟩;rcases f with f | ⟨bb,o,hp,hc⟩
 ·exact qH f
 ·refine qF ⟨bb,o,hp,fun j hj=> ?_⟩;obtain⟨i,k,m⟩:=hc j hj;exact⟨cell_kept hb i (by intro e;cases e),cell_kept hb k (by intro e;cases e),cell_kept hb m (by intro e;cases e)⟩
theorem sM{n c:Nat}{l:List Mk}(hb:w.heap[b]? =some (.cells #[.slice p n c] t))(h:MksAt w v l):MksAt (w.setCell ⟨b,0,none⟩ x) v l:=by
 obtain⟨q,d,e,f,g⟩:=h;refine⟨q,d,e, ?_,g⟩;rcases f with f | ⟨bb,o,hp,hc⟩
 ·exact qH f
 ·refine qF ⟨bb,o,hp,fun j hj=> ?_⟩;obtain⟨i,k,m⟩:=hc j hj;exact⟨cell_kept hb i (by intro e;cases e),cell_kept hb k (by intro e;cases e),cell_kept hb m (by intro e;cases e)⟩
theorem kQ{L0 M0:Nat}(hwf:(Wb.setCell ⟨L0,0,none⟩ (.slice p6 n6 c6)).setCell ⟨M0,0,none⟩ (.slice p7 n7 c7)=wf)(hL:Wb.heap[L0]? =some (.cells #[.slice none 0 0] 47))(hM:Wb.heap[M0]? =some (.cells #[.slice none 0 0] 48))(hK:BookAt Wb (.slice p6 n6 c6) l)(hK':MksAt Wb (.slice p7 n7 c7) m)(hb:zB w Wb)(hLw:w.heap.size<=L0)(hMw:w.heap.size<=M0):Holds wf L0 M0 (.slice p6 n6 c6) (.slice p7 n7 c7) l m/\zB w wf:=by
 have b:M0≠L0:=fun e=>by
  rw[e,hL] at hM;injection hM with hM
  injection hM with _ hM _
  exact absurd hM (by decide)
 have a:(Wb.setCell (zA L0) (.slice p6 n6 c6)).heap[M0]? =some (.cells #[zS] 48):=by rw[set_block _ _ _ _ (show M0≠L0 from b)];exact hM
 subst hwf;refine⟨⟨?_, ?_,oS a (oS hL hK),sM a (sM hL hK')⟩,(hb.setCell (p:=(zA L0)) hLw _).setCell (p:=(zA M0)) hMw _⟩
 ·refine aB (t:=47) (cs:=#[.slice p6 n6 c6]) ?_ rfl;rw[set_block _ _ _ _ (show L0≠M0 from Ne.symm b),(set_heap (i:=0) (v:=.slice p6 n6 c6) hL)];rfl
 ·refine aB (t:=48) (cs:=#[.slice p7 n7 c7]) ?_ rfl;rw[set_heap a];rfl
theorem aIp{L0 M0:Nat}(hwf:Wb.setCell ⟨M0,0,none⟩ (.slice p7 n7 c7)=wf)(hL:Wb.heap[L0]? =some (.cells #[.slice p6 n6 c6] 47))(hM:Wb.heap[M0]? =some (.cells #[.slice none 0 0] 48))(hK:BookAt Wb (.slice p6 n6 c6) l)(hK':MksAt Wb (.slice p7 n7 c7) m)(hb:zB w Wb)(hMw:w.heap.size<=M0):Holds wf L0 M0 (.slice p6 n6 c6) (.slice p7 n7 c7) l m/\zB w wf:=by
 have a:L0≠M0:=fun e=>by
  rw[<-e,hL] at hM;injection hM with hM
  injection hM with _ hM _
  exact absurd hM (by decide)
 subst hwf;refine⟨⟨?_, ?_,oS hM hK,sM hM hK'⟩,hb.setCell (p:=(zA M0)) hMw _⟩
 ·exact aB (aHK a hL) (i:=0) rfl
 ·refine aB (t:=48) (cs:=#[.slice p7 n7 c7]) ?_ rfl;rw[set_heap hM];rfl
theorem aIu{L0 M0:Nat}(hL:wf.heap[L0]? =some (.cells #[.slice p6 n6 c6] 47))(hM:wf.heap[M0]? =some (.cells #[.slice p7 n7 c7] 48))(hK:BookAt wf (.slice p6 n6 c6) l)(hK':MksAt wf (.slice p7 n7 c7) m)(hb:zB w wf):Holds wf L0 M0 (.slice p6 n6 c6) (.slice p7 n7 c7) l m/\zB w wf:=
 ⟨⟨aB hL (i:=0) rfl,aB hM (i:=0) rfl,hK,hK'⟩,hb⟩
theorem sK(X:Nat)(N:Nt)(F:Nat->Prop)(w:World)(h:At w X N F)(hgl:Gl N)(h1:1<=N.ds.length):Calls prog 10 #[ptr X] w fun e w'=>e=.returned (.bool (sameB N))/\zB w w':=by
 obtain⟨vd,vu,E,Fd,m,H⟩:=h
 obtain⟨p,c,rfl,a4,ax,hc⟩:=m.fC
 obtain⟨g,rfl,hg⟩:=hc (by omega)
 have ar:=m.docs.at' 0 (by omega)
 have CB:Hid (∀W,zB w W->Calls prog 16 #[ptr (E 0)] W fun e w'=>∃v',e=.returned v'/\BookAt w' v' (dq N 0).book/\zB W w'):=fun W hb=>(Il.eJ (E 0) _ _ W (DocAt.below ar hb)).mono fun e w' ⟨v',h1,a,h3⟩=>⟨v',h1,a.1,h3⟩
 have CM:Hid (∀W,zB w W->Calls prog 29 #[ptr (E 0)] W fun e w'=>∃v',e=.returned v'/\MksAt w' v' (dq N 0).marks/\zB W w'):=fun W hb=>(Il.oO (E 0) _ _ W (DocAt.below ar hb)).mono fun e w' ⟨v',h1,a,h3⟩=>⟨v',h1,a.1,h3⟩
 obtain⟨n,hn⟩:=zx N.ds.length
 have HM:=Hid.mk' m
 have HN:=Hid.mk' hn
 have HG:=Hid.mk' hg
 have x0:w.cell? (zA X)=some (.slice (some (zA g)) n c):=by rw[hn];exact aB m.blk (i:=0) rfl
 have xg:w.cell? (zA g)=some (ptr (E 0)):=hg 0 (by omega)
 have HR:=Hid.mk' (qD w.heap.size w)
 have dy:n<=4:=by have:=m.few;omega
 have dz:1<=n:=by omega
 have ct:(1:Int)<=(n:Int):=by omega
 have cu:(0:Int)<(n:Int):=by omega
 have d0:0<n:=by omega
 have af:Hid (X<w.heap.size/\g<w.heap.size):=⟨m.oM,qJ _ _ (hg 0 (by omega))⟩
 have d1:c<=9223372036854775807:=by unfold maxLen at ax;omega
 have d2:n<=c:=by omega
 have H1:=Hid.mk' h1
 obtain⟨A,hA,a9⟩:∃A:Addr,(if c=1 then some ((zA g):Addr) else some ⟨g,1,none⟩)=some A/\Hid (0<n-1->∃g' o',some A=some (⟨g',o',none⟩:Addr)/\∀j,j<n-1->w.cell? ⟨g',o'+j,none⟩=some (ptr (E (j+1)))):=by
  by_cases h:c=1
  ·exact⟨(zA g),by rw[if_pos h],fun a=>by omega⟩
  ·exact⟨⟨g,1,none⟩,by rw[if_neg h],fun _=>⟨g,1,rfl,fun j hj=>by rw[Nat.add_comm];exact hg (j+1) (by omega)⟩⟩
 have CC:Hid (∀wf L0 M0 d l f k o q,Holds wf L0 M0 (.slice d f k) (.slice l o q) (dq N 0).book (dq N 0).marks->zB w wf->Calls prog 30 #[.slice (some A) (n-1) (c-1),.func (.func 31) #[] #[ptr L0,ptr M0]] wf fun e w'=>∃b,e=.returned (.bool b)/\Hid (b=true↔∃j,j<n-1/\dif (dq N (j+1)) (dq N 0).book (dq N 0).marks=true)/\zB wf w'):=fun wf L0 M0 d l f k o q hH hB=>
  aHk (some A) (n-1) (c-1) L0 M0 (fun j=>E (j+1)) (fun j=>dif (dq N (j+1)) (dq N 0).book (dq N 0).marks) wf (fun h=>by obtain⟨g',o',h1,a⟩:=a9.out h;exact⟨g',o',h1,fun j hj=>aA hB (a j hj)⟩) (by omega)
   (fun j hj W hb=>aIg (E (j+1)) L0 M0 _ _ _ _ _ _ W (DocAt.below (HM.out.docs.at' (j+1) (by have:=HN.out;omega)) (bel hB hb)) (hH.below hb))
 have HS:Hid (∀b:Bool,(b=true↔∃j,j<n-1/\dif (dq N (j+1)) (dq N 0).book (dq N 0).marks=true)->sameB N= !b):=fun b h=>aHO (by have:=H1.out;omega) (by rw[<-HN.out];exact h)
 have d3:w.heap.size≠X:=by have:=af.out.1;omega
 have d4:w.heap.size+1≠X:=by have:=af.out.1;omega
 have d5:w.heap.size≠g:=by have:=af.out.2;omega
 have d6:w.heap.size+1≠g:=by have:=af.out.2;omega
 clear m H hg hc ar hgl h1 hn a4 ax
 go_in
 go_wp2_with fail
 go_region_held3 (fun W=>W.cell? (zA X)=some (.slice (some (zA g)) n c)/\W.cell? (zA g)=some (ptr (E 0))) (first | (go_keep;done) | (refine⟨?_, ?_⟩<;>(repeat (first | refine aCo ?_ | refine aN (by first | omega | (simp only;omega)) ?_))<;>(first | assumption | (go_split_ands;assumption))) | (refine⟨aA K ?_,aA K ?_⟩<;>(first | assumption | (go_split_ands;assumption))) | (refine⟨aA ag ?_,aA ag ?_⟩<;>(first | assumption | (go_split_ands;assumption)))) (first
  | (go_at_call 16;refine(CB.out _ (by first | exact HR.out.drew | exact HR.out.drew.alloc HR.out.drew.size _ | exact(HR.out.drew.alloc HR.out.drew.size _).alloc (HR.out.drew.alloc HR.out.drew.size _).size _)).mono ?_;rintro e w6 ⟨v6,rfl,au,ag⟩;obtain⟨d,f,k,rfl⟩:∃p n c,v6=.slice p n c:=(by obtain⟨p,c,e,_⟩:=au;exact⟨_,_,_,e⟩);have z:Hid (zB w w6):=bel (by first | exact HR.out.drew | exact HR.out.drew.alloc HR.out.drew.size _ | exact(HR.out.drew.alloc HR.out.drew.size _).alloc (HR.out.drew.alloc HR.out.drew.size _).size _) ag;have HK6:=Hid.mk' au;have r:=Hid.mk' ag.size;have ba:=aA z.out x0;have bb:=aA z.out xg;have d7:=World.new_ne w6 _ ba;have d8:=World.new_ne w6 _ bb;have d9:w6.heap.size+1≠X:=(by have:=af.out.1;have:=z.out.size;omega);have ea:w6.heap.size+1≠g:=(by have:=af.out.2;have:=z.out.size;omega);(try (have aj:w6.heap[w.heap.size]? =some (.cells #[zS] 47):=dK ag (by first | exact heap_alloc_new _ _ | exact aR (heap_alloc_new _ _));have b4:=aB aj (i:=0) (u:=zS) rfl;have b5:=aF aj (i:=0)));(try (have ak:w6.heap[w.heap.size+1]? =some (.cells #[zS] 47):=dK ag (iB _ _ _);have b6:=aB ak (i:=0) (u:=zS) rfl;have b7:=aF ak (i:=0)));(try (have al:w6.heap[w.heap.size]? =some (.cells #[zS] 48):=dK ag (by first | exact heap_alloc_new _ _ | exact aR (heap_alloc_new _ _));have b8:=aB al (i:=0) (u:=zS) rfl;have b9:=aF al (i:=0)));(try (have am:w6.heap[w.heap.size+1]? =some (.cells #[zS] 48):=dK ag (iB _ _ _);have ca:=aB am (i:=0) (u:=zS) rfl;have cb:=aF am (i:=0)));clear au)
  | (go_at_call 29;refine(CM.out _ (by first | exact z.out | exact z.out.alloc z.out.size _ | exact(z.out.alloc z.out.size _).alloc (z.out.alloc z.out.size _).size _)).mono ?_;rintro e w7 ⟨v7,rfl,av,K⟩;obtain⟨l,o,q,rfl⟩:∃p n c,v7=.slice p n c:=(by obtain⟨p,c,e,_⟩:=av;exact⟨_,_,_,e⟩);have G:Hid (zB w w7):=bel (by first | exact z.out | exact z.out.alloc z.out.size _ | exact(z.out.alloc z.out.size _).alloc (z.out.alloc z.out.size _).size _) K;have S:=Hid.mk' av;have HK6':Hid (BookAt w7 (.slice d f k) (dq N 0).book):=(by first | exact HK6.out.below K | exact(HK6.out.below ((qD _ w6).alloc (qC _) _)).below K | exact((HK6.out.below ((qD _ w6).alloc (qC _) _)).below ((qD _ _).alloc (qC _) _)).below K);have s:=Hid.mk' K.size;have bc:=aA G.out x0;have bd:=aA G.out xg;have eb:=World.new_ne w7 _ bc;have ec:=World.new_ne w7 _ bd;have ed:w7.heap.size+1≠X:=(by have:=af.out.1;have:=G.out.size;omega);have ee:w7.heap.size+1≠g:=(by have:=af.out.2;have:=G.out.size;omega);(try (have M:w7.heap[w6.heap.size]? =some (.cells #[zS] 47):=dK K (by first | exact heap_alloc_new _ _ | exact aR (heap_alloc_new _ _));have cc:=aB M (i:=0) (u:=zS) rfl;have cd:=aF M (i:=0);have be:=fun O=>aB (aR (O:=O) M) (i:=0) (u:=zS) rfl;have bf:=fun O=>aF (aR (O:=O) M) (i:=0)));(try (have T:w7.heap[w6.heap.size+1]? =some (.cells #[zS] 47):=dK K (iB _ _ _);have ce:=aB T (i:=0) (u:=zS) rfl;have cf:=aF T (i:=0);have bg:=fun O=>aB (aR (O:=O) T) (i:=0) (u:=zS) rfl;have bh:=fun O=>aF (aR (O:=O) T) (i:=0)));(try (have P:w7.heap[w6.heap.size]? =some (.cells #[zS] 48):=dK K (by first | exact heap_alloc_new _ _ | exact aR (heap_alloc_new _ _));have cg:=aB P (i:=0) (u:=zS) rfl;have ch:=aF P (i:=0);have bi:=fun O=>aB (aR (O:=O) P) (i:=0) (u:=zS) rfl;have bj:=fun O=>aF (aR (O:=O) P) (i:=0)));(try (have U:w7.heap[w6.heap.size+1]? =some (.cells #[zS] 48):=dK K (iB _ _ _);have ci:=aB U (i:=0) (u:=zS) rfl;have cj:=aF U (i:=0);have bk:=fun O=>aB (aR (O:=O) U) (i:=0) (u:=zS) rfl;have bl:=fun O=>aF (aR (O:=O) U) (i:=0)));(try (have Q:=dK K (by first | exact aj | exact aR aj | exact aR (aR aj));have ck:=aB Q (i:=0) (u:=zS) rfl;have cl:=aF Q (i:=0);have bm:=fun O=>aB (aR (O:=O) Q) (i:=0) (u:=zS) rfl;have bn:=fun O=>aF (aR (O:=O) Q) (i:=0)));(try (have R:=dK K (by first | exact al | exact aR al | exact aR (aR al));have cm:=aB R (i:=0) (u:=zS) rfl;have cn:=aF R (i:=0);have bo:=fun O=>aB (aR (O:=O) R) (i:=0) (u:=zS) rfl;have bp:=fun O=>aF (aR (O:=O) R) (i:=0)));(try (have V:=dK K (by first | exact ak | exact aR ak | exact aR (aR ak));have co:=aB V (i:=0) (u:=zS) rfl;have cp:=aF V (i:=0);have bq:=fun O=>aB (aR (O:=O) V) (i:=0) (u:=zS) rfl;have br:=fun O=>aF (aR (O:=O) V) (i:=0)));(try (have Y:=dK K (by first | exact am | exact aR am | exact aR (aR am));have cq:=aB Y (i:=0) (u:=zS) rfl;have cr:=aF Y (i:=0);have bs:=fun O=>aB (aR (O:=O) Y) (i:=0) (u:=zS) rfl;have bt:=fun O=>aF (aR (O:=O) Y) (i:=0)));(try (have bu:w6.heap.size≠w7.heap.size:=(by have h1:=s.out;have a:=r.out;(try simp at h1);(try simp at a);omega);have ef:=Ne.symm bu));(try (have bv:w6.heap.size≠w7.heap.size+1:=(by have h1:=s.out;have a:=r.out;(try simp at h1);(try simp at a);omega);have eg:=Ne.symm bv));(try (have bw:w6.heap.size+1≠w7.heap.size:=(by have h1:=s.out;have a:=r.out;(try simp at h1);(try simp at a);omega);have eh:=Ne.symm bw));(try (have bx:w6.heap.size+1≠w7.heap.size+1:=(by have h1:=s.out;have a:=r.out;(try simp at h1);(try simp at a);omega);have ei:=Ne.symm bx));(try (have bz:w.heap.size≠w7.heap.size:=(by have h1:=s.out;have a:=r.out;(try simp at h1);(try simp at a);omega);have ej:=Ne.symm bz));(try (have b0:w.heap.size≠w7.heap.size+1:=(by have h1:=s.out;have a:=r.out;(try simp at h1);(try simp at a);omega);have ek:=Ne.symm b0));(try (have b1:w.heap.size+1≠w7.heap.size:=(by have h1:=s.out;have a:=r.out;(try simp at h1);(try simp at a);omega);have el:=Ne.symm b1));(try (have b2:w.heap.size+1≠w7.heap.size+1:=(by have h1:=s.out;have a:=r.out;(try simp at h1);(try simp at a);omega);have em:=Ne.symm b2));(try (have b3:w.heap.size≠w6.heap.size:=(by have h1:=s.out;have a:=r.out;(try simp at h1);(try simp at a);omega);have en:=Ne.symm b3));(try (have a0:w.heap.size≠w6.heap.size+1:=(by have h1:=s.out;have a:=r.out;(try simp at h1);(try simp at a);omega);have cy:=Ne.symm a0));(try (have a1:w.heap.size+1≠w6.heap.size:=(by have h1:=s.out;have a:=r.out;(try simp at h1);(try simp at a);omega);have cz:=Ne.symm a1));(try (have a2:w.heap.size+1≠w6.heap.size+1:=(by have h1:=s.out;have a:=r.out;(try simp at h1);(try simp at a);omega);have c0:=Ne.symm a2));(try (have c1:∀t v,((w7.alloc (.cells #[zS] t)).setCell (zW w6) v).cell? (zW w7)=some (zS):=fun t v=>aN (by have h1:=s.out;have a:=r.out;(try simp at h1);(try simp at a);omega) (aB (heap_alloc_new w7 _) (i:=0) rfl)));(try (have c2:∀t v,((w7.alloc (.cells #[zS] t)).setCell (zV w6) v).cell? (zW w7)=some (zS):=fun t v=>aN (by have h1:=s.out;have a:=r.out;(try simp at h1);(try simp at a);omega) (aB (heap_alloc_new w7 _) (i:=0) rfl)));(try (have c3:∀t v,((w7.alloc (.cells #[zS] t)).setCell (zW w) v).cell? (zW w7)=some (zS):=fun t v=>aN (by have h1:=s.out;have a:=r.out;(try simp at h1);(try simp at a);omega) (aB (heap_alloc_new w7 _) (i:=0) rfl)));(try (have c4:∀t v,((w7.alloc (.cells #[zS] t)).setCell (zV w) v).cell? (zW w7)=some (zS):=fun t v=>aN (by have h1:=s.out;have a:=r.out;(try simp at h1);(try simp at a);omega) (aB (heap_alloc_new w7 _) (i:=0) rfl)));(try (have c5:∀v,(w7.setCell (zW w6) v).cell? (zV w6)=some (zS):=fun v=>aN (by have h1:=s.out;have a:=r.out;(try simp at h1);(try simp at a);omega) (aB T (i:=0) rfl)));(try (have c8:∀v,(w7.setCell (zW w6) v).cell? (zV w6)=some (zS):=fun v=>aN (by have h1:=s.out;have a:=r.out;(try simp at h1);(try simp at a);omega) (aB U (i:=0) rfl)));(try (have c9:∀v,(w7.setCell (zW w6) v).cell? (zW w)=some (zS):=fun v=>aN (by have h1:=s.out;have a:=r.out;(try simp at h1);(try simp at a);omega) (aB Q (i:=0) rfl)));(try (have da:∀v,(w7.setCell (zW w6) v).cell? (zW w)=some (zS):=fun v=>aN (by have h1:=s.out;have a:=r.out;(try simp at h1);(try simp at a);omega) (aB R (i:=0) rfl)));(try (have db:∀v,(w7.setCell (zW w6) v).cell? (zV w)=some (zS):=fun v=>aN (by have h1:=s.out;have a:=r.out;(try simp at h1);(try simp at a);omega) (aB V (i:=0) rfl)));(try (have dc:∀v,(w7.setCell (zW w6) v).cell? (zV w)=some (zS):=fun v=>aN (by have h1:=s.out;have a:=r.out;(try simp at h1);(try simp at a);omega) (aB Y (i:=0) rfl)));(try (have dd:∀v,(w7.setCell (zV w6) v).cell? (zW w6)=some (zS):=fun v=>aN (by have h1:=s.out;have a:=r.out;(try simp at h1);(try simp at a);omega) (aB M (i:=0) rfl)));(try (have de:∀v,(w7.setCell (zV w6) v).cell? (zW w6)=some (zS):=fun v=>aN (by have h1:=s.out;have a:=r.out;(try simp at h1);(try simp at a);omega) (aB P (i:=0) rfl)));(try (have df:∀v,(w7.setCell (zV w6) v).cell? (zW w)=some (zS):=fun v=>aN (by have h1:=s.out;have a:=r.out;(try simp at h1);(try simp at a);omega) (aB Q (i:=0) rfl)));(try (have dg:∀v,(w7.setCell (zV w6) v).cell? (zW w)=some (zS):=fun v=>aN (by have h1:=s.out;have a:=r.out;(try simp at h1);(try simp at a);omega) (aB R (i:=0) rfl)));(try (have dh:∀v,(w7.setCell (zV w6) v).cell? (zV w)=some (zS):=fun v=>aN (by have h1:=s.out;have a:=r.out;(try simp at h1);(try simp at a);omega) (aB V (i:=0) rfl)));(try (have di:∀v,(w7.setCell (zV w6) v).cell? (zV w)=some (zS):=fun v=>aN (by have h1:=s.out;have a:=r.out;(try simp at h1);(try simp at a);omega) (aB Y (i:=0) rfl)));(try (have dj:∀v,(w7.setCell (zW w) v).cell? (zW w6)=some (zS):=fun v=>aN (by have h1:=s.out;have a:=r.out;(try simp at h1);(try simp at a);omega) (aB M (i:=0) rfl)));(try (have dk:∀v,(w7.setCell (zW w) v).cell? (zW w6)=some (zS):=fun v=>aN (by have h1:=s.out;have a:=r.out;(try simp at h1);(try simp at a);omega) (aB P (i:=0) rfl)));(try (have dl:∀v,(w7.setCell (zW w) v).cell? (zV w6)=some (zS):=fun v=>aN (by have h1:=s.out;have a:=r.out;(try simp at h1);(try simp at a);omega) (aB T (i:=0) rfl)));(try (have dm:∀v,(w7.setCell (zW w) v).cell? (zV w6)=some (zS):=fun v=>aN (by have h1:=s.out;have a:=r.out;(try simp at h1);(try simp at a);omega) (aB U (i:=0) rfl)));(try (have dn:∀v,(w7.setCell (zW w) v).cell? (zV w)=some (zS):=fun v=>aN (by have h1:=s.out;have a:=r.out;(try simp at h1);(try simp at a);omega) (aB V (i:=0) rfl)));(try (have dp:∀v,(w7.setCell (zW w) v).cell? (zV w)=some (zS):=fun v=>aN (by have h1:=s.out;have a:=r.out;(try simp at h1);(try simp at a);omega) (aB Y (i:=0) rfl)));(try (have dr:∀v,(w7.setCell (zV w) v).cell? (zW w6)=some (zS):=fun v=>aN (by have h1:=s.out;have a:=r.out;(try simp at h1);(try simp at a);omega) (aB M (i:=0) rfl)));(try (have dt:∀v,(w7.setCell (zV w) v).cell? (zW w6)=some (zS):=fun v=>aN (by have h1:=s.out;have a:=r.out;(try simp at h1);(try simp at a);omega) (aB P (i:=0) rfl)));(try (have du:∀v,(w7.setCell (zV w) v).cell? (zV w6)=some (zS):=fun v=>aN (by have h1:=s.out;have a:=r.out;(try simp at h1);(try simp at a);omega) (aB T (i:=0) rfl)));(try (have dv:∀v,(w7.setCell (zV w) v).cell? (zV w6)=some (zS):=fun v=>aN (by have h1:=s.out;have a:=r.out;(try simp at h1);(try simp at a);omega) (aB U (i:=0) rfl)));(try (have dw:∀v,(w7.setCell (zV w) v).cell? (zW w)=some (zS):=fun v=>aN (by have h1:=s.out;have a:=r.out;(try simp at h1);(try simp at a);omega) (aB Q (i:=0) rfl)));(try (have dx:∀v,(w7.setCell (zV w) v).cell? (zW w)=some (zS):=fun v=>aN (by have h1:=s.out;have a:=r.out;(try simp at h1);(try simp at a);omega) (aB R (i:=0) rfl)));clear av))
 ·have H:Holds ((w7.alloc (.cells #[.slice d f k] 47)).alloc (.cells #[.slice l o q] 48)) (w7.heap.size) (w7.heap.size+1) (.slice d f k) (.slice l o q) (dq N 0).book (dq N 0).marks/\zB w ((w7.alloc (.cells #[.slice d f k] 47)).alloc (.cells #[.slice l o q] 48)):=aIu (aR (heap_alloc_new w7 _)) (iB w7 _ _) (dE (dE HK6'.out)) (dW (dW S.out)) (dY (dY G.out))
  generalize ((w7.alloc (.cells #[.slice d f k] 47)).alloc (.cells #[.slice l o q] 48))=wf at H |-
  have y:=Hid.mk' H
  clear H CB CM
  have C:=CC.out wf (w7.heap.size) (w7.heap.size+1) d l f k o q y.out.1 y.out.2
  have x9:=aA y.out.2 x0
  go_wp2_with fail
  refine C.mono ?_
  rintro e w9 ⟨b,rfl,B,D⟩
  have L:=z9 (HS.out b B.out)
  have J:=z9 (bel y.out.2 D)
  clear B D C
  go_wp2_with fail
  go_ret
  exact⟨by rw[L.out];rfl,J.out⟩
 ·have H:Holds ((w7.alloc (.cells #[.slice l o q] 48)).alloc (.cells #[.slice d f k] 47)) (w7.heap.size+1) (w7.heap.size) (.slice d f k) (.slice l o q) (dq N 0).book (dq N 0).marks/\zB w ((w7.alloc (.cells #[.slice l o q] 48)).alloc (.cells #[.slice d f k] 47)):=aIu (iB w7 _ _) (aR (heap_alloc_new w7 _)) (dE (dE HK6'.out)) (dW (dW S.out)) (dY (dY G.out))
  generalize ((w7.alloc (.cells #[.slice l o q] 48)).alloc (.cells #[.slice d f k] 47))=wf at H |-
  have y:=Hid.mk' H
  clear H CB CM
  have C:=CC.out wf (w7.heap.size+1) (w7.heap.size) d l f k o q y.out.1 y.out.2
  have x9:=aA y.out.2 x0
  go_wp2_with fail
  refine C.mono ?_
  rintro e w9 ⟨b,rfl,B,D⟩
  have L:=z9 (HS.out b B.out)
  have J:=z9 (bel y.out.2 D)
  clear B D C
  go_wp2_with fail
  go_ret
  exact⟨by rw[L.out];rfl,J.out⟩
 ·have H:Holds (((w7.alloc (.cells #[zS] 48)).setCell (zW w6) (.slice d f k)).setCell (zW w7) (.slice l o q)) (w6.heap.size) (w7.heap.size) (.slice d f k) (.slice l o q) (dq N 0).book (dq N 0).marks/\zB w (((w7.alloc (.cells #[zS] 48)).setCell (zW w6) (.slice d f k)).setCell (zW w7) (.slice l o q)):=kQ rfl (aR M) (heap_alloc_new w7 _) (dE HK6'.out) (dW S.out) (dY G.out) (by have h1:=z.out.size;have a:=G.out.size;omega) (by have h1:=z.out.size;have a:=G.out.size;omega)
  generalize (((w7.alloc (.cells #[zS] 48)).setCell (zW w6) (.slice d f k)).setCell (zW w7) (.slice l o q))=wf at H |-
  have y:=Hid.mk' H
  clear H CB CM
  have C:=CC.out wf (w6.heap.size) (w7.heap.size) d l f k o q y.out.1 y.out.2
  have x9:=aA y.out.2 x0
  go_wp2_with fail
  refine C.mono ?_
  rintro e w9 ⟨b,rfl,B,D⟩
  have L:=z9 (HS.out b B.out)
  have J:=z9 (bel y.out.2 D)
  clear B D C
  go_wp2_with fail
  go_ret
  exact⟨by rw[L.out];rfl,J.out⟩
 ·have H:Holds ((w7.setCell (zW w6) (.slice d f k)).setCell (zV w6) (.slice l o q)) (w6.heap.size) (w6.heap.size+1) (.slice d f k) (.slice l o q) (dq N 0).book (dq N 0).marks/\zB w ((w7.setCell (zW w6) (.slice d f k)).setCell (zV w6) (.slice l o q)):=kQ rfl M U HK6'.out S.out G.out (by have h1:=z.out.size;have a:=G.out.size;omega) (by have h1:=z.out.size;have a:=G.out.size;omega)
  generalize ((w7.setCell (zW w6) (.slice d f k)).setCell (zV w6) (.slice l o q))=wf at H |-
  have y:=Hid.mk' H
  clear H CB CM
  have C:=CC.out wf (w6.heap.size) (w6.heap.size+1) d l f k o q y.out.1 y.out.2
  have x9:=aA y.out.2 x0
  go_wp2_with fail
  refine C.mono ?_
  rintro e w9 ⟨b,rfl,B,D⟩
  have L:=z9 (HS.out b B.out)
  have J:=z9 (bel y.out.2 D)
  clear B D C
  go_wp2_with fail
  go_ret
  exact⟨by rw[L.out];rfl,J.out⟩
 ·have H:Holds ((w7.alloc (.cells #[.slice d f k] 47)).setCell (zW w6) (.slice l o q)) (w7.heap.size) (w6.heap.size) (.slice d f k) (.slice l o q) (dq N 0).book (dq N 0).marks/\zB w ((w7.alloc (.cells #[.slice d f k] 47)).setCell (zW w6) (.slice l o q)):=aIp rfl (heap_alloc_new w7 _) (aR P) (dE HK6'.out) (dW S.out) (dY G.out) (by have h1:=z.out.size;have a:=G.out.size;omega)
  generalize ((w7.alloc (.cells #[.slice d f k] 47)).setCell (zW w6) (.slice l o q))=wf at H |-
  have y:=Hid.mk' H
  clear H CB CM
  have C:=CC.out wf (w7.heap.size) (w6.heap.size) d l f k o q y.out.1 y.out.2
  have x9:=aA y.out.2 x0
  go_wp2_with fail
  refine C.mono ?_
  rintro e w9 ⟨b,rfl,B,D⟩
  have L:=z9 (HS.out b B.out)
  have J:=z9 (bel y.out.2 D)
  clear B D C
  go_wp2_with fail
  go_ret
  exact⟨by rw[L.out];rfl,J.out⟩
 ·have H:Holds ((w7.setCell (zV w6) (.slice d f k)).setCell (zW w6) (.slice l o q)) (w6.heap.size+1) (w6.heap.size) (.slice d f k) (.slice l o q) (dq N 0).book (dq N 0).marks/\zB w ((w7.setCell (zV w6) (.slice d f k)).setCell (zW w6) (.slice l o q)):=kQ rfl T P HK6'.out S.out G.out (by have h1:=z.out.size;have a:=G.out.size;omega) (by have h1:=z.out.size;have a:=G.out.size;omega)
  generalize ((w7.setCell (zV w6) (.slice d f k)).setCell (zW w6) (.slice l o q))=wf at H |-
  have y:=Hid.mk' H
  clear H CB CM
  have C:=CC.out wf (w6.heap.size+1) (w6.heap.size) d l f k o q y.out.1 y.out.2
  have x9:=aA y.out.2 x0
  go_wp2_with fail
  refine C.mono ?_
  rintro e w9 ⟨b,rfl,B,D⟩
  have L:=z9 (HS.out b B.out)
  have J:=z9 (bel y.out.2 D)
  clear B D C
  go_wp2_with fail
  go_ret
  exact⟨by rw[L.out];rfl,J.out⟩
 ·have H:Holds (((w7.alloc (.cells #[zS] 48)).setCell (zW w) (.slice d f k)).setCell (zW w7) (.slice l o q)) (w.heap.size) (w7.heap.size) (.slice d f k) (.slice l o q) (dq N 0).book (dq N 0).marks/\zB w (((w7.alloc (.cells #[zS] 48)).setCell (zW w) (.slice d f k)).setCell (zW w7) (.slice l o q)):=kQ rfl (aR Q) (heap_alloc_new w7 _) (dE HK6'.out) (dW S.out) (dY G.out) (by have h1:=z.out.size;have a:=G.out.size;omega) (by have h1:=z.out.size;have a:=G.out.size;omega)
  generalize (((w7.alloc (.cells #[zS] 48)).setCell (zW w) (.slice d f k)).setCell (zW w7) (.slice l o q))=wf at H |-
  have y:=Hid.mk' H
  clear H CB CM
  have C:=CC.out wf (w.heap.size) (w7.heap.size) d l f k o q y.out.1 y.out.2
  have x9:=aA y.out.2 x0
  go_wp2_with fail
  refine C.mono ?_
  rintro e w9 ⟨b,rfl,B,D⟩
  have L:=z9 (HS.out b B.out)
  have J:=z9 (bel y.out.2 D)
  clear B D C
  go_wp2_with fail
  go_ret
  exact⟨by rw[L.out];rfl,J.out⟩
 ·have H:Holds ((w7.setCell (zW w) (.slice d f k)).setCell (zW w6) (.slice l o q)) (w.heap.size) (w6.heap.size) (.slice d f k) (.slice l o q) (dq N 0).book (dq N 0).marks/\zB w ((w7.setCell (zW w) (.slice d f k)).setCell (zW w6) (.slice l o q)):=kQ rfl Q P HK6'.out S.out G.out (by have h1:=z.out.size;have a:=G.out.size;omega) (by have h1:=z.out.size;have a:=G.out.size;omega)
  generalize ((w7.setCell (zW w) (.slice d f k)).setCell (zW w6) (.slice l o q))=wf at H |-
  have y:=Hid.mk' H
  clear H CB CM
  have C:=CC.out wf (w.heap.size) (w6.heap.size) d l f k o q y.out.1 y.out.2
  have x9:=aA y.out.2 x0
  go_wp2_with fail
  refine C.mono ?_
  rintro e w9 ⟨b,rfl,B,D⟩
  have L:=z9 (HS.out b B.out)
  have J:=z9 (bel y.out.2 D)
  clear B D C
  go_wp2_with fail
  go_ret
  exact⟨by rw[L.out];rfl,J.out⟩
 ·have H:Holds ((w7.setCell (zW w) (.slice d f k)).setCell (zV w) (.slice l o q)) (w.heap.size) (w.heap.size+1) (.slice d f k) (.slice l o q) (dq N 0).book (dq N 0).marks/\zB w ((w7.setCell (zW w) (.slice d f k)).setCell (zV w) (.slice l o q)):=kQ rfl Q Y HK6'.out S.out G.out (by have h1:=z.out.size;have a:=G.out.size;omega) (by have h1:=z.out.size;have a:=G.out.size;omega)
  generalize ((w7.setCell (zW w) (.slice d f k)).setCell (zV w) (.slice l o q))=wf at H |-
  have y:=Hid.mk' H
  clear H CB CM
  have C:=CC.out wf (w.heap.size) (w.heap.size+1) d l f k o q y.out.1 y.out.2
  have x9:=aA y.out.2 x0
  go_wp2_with fail
  refine C.mono ?_
  rintro e w9 ⟨b,rfl,B,D⟩
  have L:=z9 (HS.out b B.out)
  have J:=z9 (bel y.out.2 D)
  clear B D C
  go_wp2_with fail
  go_ret
  exact⟨by rw[L.out];rfl,J.out⟩
 ·have H:Holds ((w7.alloc (.cells #[.slice d f k] 47)).setCell (zW w) (.slice l o q)) (w7.heap.size) (w.heap.size) (.slice d f k) (.slice l o q) (dq N 0).book (dq N 0).marks/\zB w ((w7.alloc (.cells #[.slice d f k] 47)).setCell (zW w) (.slice l o q)):=aIp rfl (heap_alloc_new w7 _) (aR R) (dE HK6'.out) (dW S.out) (dY G.out) (by have h1:=z.out.size;have a:=G.out.size;omega)
  generalize ((w7.alloc (.cells #[.slice d f k] 47)).setCell (zW w) (.slice l o q))=wf at H |-
  have y:=Hid.mk' H
  clear H CB CM
  have C:=CC.out wf (w7.heap.size) (w.heap.size) d l f k o q y.out.1 y.out.2
  have x9:=aA y.out.2 x0
  go_wp2_with fail
  refine C.mono ?_
  rintro e w9 ⟨b,rfl,B,D⟩
  have L:=z9 (HS.out b B.out)
  have J:=z9 (bel y.out.2 D)
  clear B D C
  go_wp2_with fail
  go_ret
  exact⟨by rw[L.out];rfl,J.out⟩
 ·have H:Holds ((w7.setCell (zW w6) (.slice d f k)).setCell (zW w) (.slice l o q)) (w6.heap.size) (w.heap.size) (.slice d f k) (.slice l o q) (dq N 0).book (dq N 0).marks/\zB w ((w7.setCell (zW w6) (.slice d f k)).setCell (zW w) (.slice l o q)):=kQ rfl M R HK6'.out S.out G.out (by have h1:=z.out.size;have a:=G.out.size;omega) (by have h1:=z.out.size;have a:=G.out.size;omega)
  generalize ((w7.setCell (zW w6) (.slice d f k)).setCell (zW w) (.slice l o q))=wf at H |-
  have y:=Hid.mk' H
  clear H CB CM
  have C:=CC.out wf (w6.heap.size) (w.heap.size) d l f k o q y.out.1 y.out.2
  have x9:=aA y.out.2 x0
  go_wp2_with fail
  refine C.mono ?_
  rintro e w9 ⟨b,rfl,B,D⟩
  have L:=z9 (HS.out b B.out)
  have J:=z9 (bel y.out.2 D)
  clear B D C
  go_wp2_with fail
  go_ret
  exact⟨by rw[L.out];rfl,J.out⟩
 ·have H:Holds ((w7.setCell (zV w) (.slice d f k)).setCell (zW w) (.slice l o q)) (w.heap.size+1) (w.heap.size) (.slice d f k) (.slice l o q) (dq N 0).book (dq N 0).marks/\zB w ((w7.setCell (zV w) (.slice d f k)).setCell (zW w) (.slice l o q)):=kQ rfl V R HK6'.out S.out G.out (by have h1:=z.out.size;have a:=G.out.size;omega) (by have h1:=z.out.size;have a:=G.out.size;omega)
  generalize ((w7.setCell (zV w) (.slice d f k)).setCell (zW w) (.slice l o q))=wf at H |-
  have y:=Hid.mk' H
  clear H CB CM
  have C:=CC.out wf (w.heap.size+1) (w.heap.size) d l f k o q y.out.1 y.out.2
  have x9:=aA y.out.2 x0
  go_wp2_with fail
  refine C.mono ?_
  rintro e w9 ⟨b,rfl,B,D⟩
  have L:=z9 (HS.out b B.out)
  have J:=z9 (bel y.out.2 D)
  clear B D C
  go_wp2_with fail
  go_ret
  exact⟨by rw[L.out];rfl,J.out⟩
end Gf
end Go.Proofs.YtjcemlmlfoilmaaGreatDoor
