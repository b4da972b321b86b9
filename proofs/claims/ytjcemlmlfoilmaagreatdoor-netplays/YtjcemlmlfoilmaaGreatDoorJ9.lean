import Derived.Test.YtjcemlmlfoilmaaGreatDoorJ7
import Derived.Lib.Split
import Derived.Lib.Join
import Derived.Lib.ItoaNum
import Derived.Lib.Atoi
import Derived.RegionTactic
set_option linter.unusedVariables false
set_option maxRecDepth 100000
set_option maxHeartbeats 8000000
namespace Go.Proofs.YtjcemlmlfoilmaaGreatDoor
open Om Go.RowKit
open Go.Proofs.Tryz (prog)
namespace Hm
open Cm
structure Dq where
 book:List Bm.Leaf
 marks:List Mk
 known:List Int
 ops:List Ox
def d0:Dq:=⟨[],[],List.replicate 8 0,[]⟩
def kn (S:Dq) (who:Int):Int:=S.known.getD (who-1).toNat 0
def saw (l:List Ox) (p:ByteArray) (d:Dt):Bool:=l.any fun o=>decide (o.2.1=4)&&(decide (o.2.2.1=p)&&decide (d ∈ o.2.2.2.2))
def doE (S:Dq) (o:Ox):Int:=
 if o.2.1=1 then Bm.writeE S.book o.2.2.1 o.2.2.2.1
 else if o.2.1=2 then Bm.strikeE S.book o.2.2.1
 else if o.2.1=3 then(if saw S.ops o.2.2.1 o.1 then 0 else withM S.marks (o.2.2.1,o.1))
 else 0
def doB (S:Dq) (o:Ox):List Bm.Leaf:=
 if o.2.1=1 then Bm.writeL S.book o.2.2.1 o.2.2.2.1 else if o.2.1=2 then Bm.strikeL S.book o.2.2.1 else S.book
def doM (S:Dq) (o:Ox):List Mk:=
 if o.2.1=3 then(if saw S.ops o.2.2.1 o.1 then S.marks else ins mlt S.marks (o.2.2.1,o.1)) else if o.2.1=4 then without S.marks o.2.2.1 o.2.2.2.2 else S.marks
def next (S:Dq) (o:Ox):Dq:=⟨doB S o,doM S o,S.known.set (o.1.1-1).toNat o.1.2,S.ops++[o]⟩
def apE (S:Dq) (o:Ox):Int:=
 if opE o≠0 then opE o else if o.1.2≤kn S o.1.1 then 0 else if kn S o.1.1<o.1.2-1 then 6 else if 400≤S.ops.length then 4 else doE S o
def isNew (S:Dq) (o:Ox):Bool:=decide (opE o=0)&&(decide (kn S o.1.1+1=o.1.2)&&(decide (S.ops.length<400)&&decide (doE S o=0)))
def apS (S:Dq) (o:Ox):Dq:=if isNew S o then next S o else S
variable {S:Dq}{o:Ox}{l:List Ox}{p:ByteArray}{d:Dt}
theorem aZ:isNew S o=true↔opE o=0/\kn S o.1.1+1=o.1.2/\S.ops.length<400/\doE S o=0:=by
 unfold isNew;simp
theorem aAl:saw l p d=true↔∃o ∈ l,o.2.1=4/\o.2.2.1=p/\d ∈ o.2.2.2.2:=by
 unfold saw;simp
theorem oE:saw (l++[o]) p d=(saw l p d||(decide (o.2.1=4)&&(decide (o.2.2.1=p)&&decide (d ∈ o.2.2.2.2)))):=by
 unfold saw;rw[List.any_append];simp
theorem oX(h:o.2.1≠4):saw (l++[o]) p d=saw l p d:=by
 rw[oE,decide_eq_false h];simp
structure Inv (S:Dq):Prop where
 book:Bm.bookE S.book=0
 marks:marksE S.marks=0
 klen:S.known.length=8
 few:S.ops.length≤400
 right:∀o ∈ S.ops,opE o=0
 wr:∀o ∈ S.ops,o.2.1=1→(Bm.leafAt S.book o.2.2.1).2.1=o.2.2.2.1
 st:∀o ∈ S.ops,o.2.1=2→(Bm.leafAt S.book o.2.2.1).2.2=true
 wr':∀p,(Bm.leafAt S.book p).2.1≠0→∃o ∈ S.ops,o.2.1=1∧o.2.2.1=p
 st':∀p,(Bm.leafAt S.book p).2.2=true→∃o ∈ S.ops,o.2.1=2∧o.2.2.1=p
 cutm:∀m,m ∈ S.marks↔(∃o ∈ S.ops,o.2.1=3∧(o.2.2.1,o.1)=m)∧saw S.ops m.1 m.2=false
 kno:∀w:Int,1≤w→w≤8→kn S w=((S.ops.filter fun o=>decide (o.1.1=w)).length:Int)
theorem tT(p:ByteArray):Bm.leafAt [] p=(p,0,false):=by unfold Bm.leafAt Bm.has;simp
theorem inv_zero:Inv d0:=by
 refine⟨rfl,rfl,rfl,by simp[d0],by simp[d0],by simp[d0],by simp[d0], ?_, ?_,by simp[d0], ?_⟩
 ·intro p h;rw[show d0.book=[] from rfl,tT] at h;exact absurd rfl h
 ·intro p h;rw[show d0.book=[] from rfl,tT] at h;cases h
 ·intro w h1 h2
  have:kn d0 w=0:=by
   unfold kn d0;simp only[qA,kF];split<;>rfl
  rw[this];rfl
theorem rO(S:Dq)(o:Ox)(w:Int)(hl:S.known.length=8)(h1:1<=w)(h2:w<=8)(h3:1<=o.1.1)(h4:o.1.1<=8):kn (next S o) w=if w=o.1.1 then o.1.2 else kn S w:=by
 unfold kn next
 simp only[qA];by_cases h:w=o.1.1
 ·rw[if_pos h,h,jR (by omega)];rfl
 ·rw[if_neg h,qS (by omega)]
theorem aG4(l:List Ox)(o:Ox)(w:Int):((l++[o]).filter fun x=>decide (x.1.1=w)).length=(l.filter fun x=>decide (x.1.1=w)).length+(if o.1.1=w then 1 else 0):=by
 rw[vS,qE];congr 1;by_cases h:o.1.1=w
 ·rw[if_pos h];simp[h]
 ·rw[if_neg h];simp[h]
theorem inv_next(I:Inv S)(h:isNew S o=true):Inv (next S o):=by
 obtain⟨L,hk,T,j⟩:=aZ.1 h
 obtain⟨M,e2,U,e4⟩:=aO.1 L
 obtain⟨V,X,d3,d4⟩:=bH.1 M
 have N:=(Bm.aU.1 I.book).2.2
 have D:∀w:Int,1<=w->w<=8->kn (next S o) w=(((next S o).ops.filter fun x=>decide (x.1.1=w)).length:Int):=by
  intro w hw1 hw2
  rw[rO S o w I.klen hw1 hw2 V X]
  show _=(((S.ops++[o]).filter fun x=>decide (x.1.1=w)).length:Int)
  rw[aG4]
  by_cases B:w=o.1.1
  ·rw[if_pos B,if_pos B.symm]
   have:=I.kno w hw1 hw2
   rw[B] at this |-
   omega
  ·rw[if_neg B,if_neg (fun e=>B e.symm)]
   have:=I.kno w hw1 hw2
   omega
 have v:(next S o).known.length=8:=by unfold next;simp[I.klen]
 have E:(next S o).ops.length<=400:=by unfold next;simp;omega
 have l:∀x ∈ (next S o).ops,opE x=0:=by
  intro x c
  rcases jB.1 (show x ∈ S.ops++[o] from c) with c | c
  ·exact I.right x c
  ·rw[qP.1 c];exact L
 have n:∀{P:Ox->Prop},¬P o->((∃x ∈ S.ops++[o],P x)↔∃x ∈ S.ops,P x):=by
  intro P hP
  constructor
  ·rintro⟨x,c,d⟩
   rcases jB.1 c with c | c
   ·exact⟨x,c,d⟩
   ·rw[qP.1 c] at d;exact absurd d hP
  ·rintro⟨x,c,d⟩;exact⟨x,xC _ c,d⟩
 have Y:o.2.1=1\/o.2.1=2\/o.2.1=3\/o.2.1=4:=by omega
 rcases Y with t | t | t | t
 ·
  have z:Bm.writeE S.book o.2.2.1 o.2.2.2.1=0:=by unfold doE at j;rw[if_pos t] at j;exact j
  have f:(next S o).book=Bm.putL S.book o.2.2.1 (Bm.wrX S.book o.2.2.1 o.2.2.2.1):=by
   show doB S o=_;unfold doB;rw[if_pos t,(Bm.mF z).2]
  have k:(next S o).marks=S.marks:=by
   show doM S o=_;unfold doM;rw[if_neg (by omega),if_neg (by omega)]
  have y:∀q,Bm.leafAt (next S o).book q=if q=o.2.2.1 then Bm.wrX S.book o.2.2.1 o.2.2.2.1 else Bm.leafAt S.book q:=fun q=>by
   rw[f];exact Bm.tG N (p:=o.2.2.1) (x:=Bm.wrX S.book o.2.2.1 o.2.2.2.1) rfl q
  obtain⟨_,B⟩:=Bm.rD.1 z
  obtain⟨Z,F,_⟩:=Bm.aBr.1 B
  have ad:=(Bm.sB Z).1
  refine⟨by rw[f,<-(Bm.mF z).2];exact(Bm.mF z).1,by rw[k];exact I.marks,v,E,l, ?_, ?_, ?_, ?_, ?_,D⟩
  ·intro x c hx1
   rw[y]
   rcases jB.1 (show x ∈ S.ops++[o] from c) with c | c
   ·by_cases d:x.2.2.1=o.2.2.1
    ·rw[if_pos d]
     have A:=I.wr x c hx1
     rw[d] at A
     have ae:=(bB.1 (aO.1 (I.right x c)).2.2.2).1 hx1
     unfold Bm.clash at F
     rw[A] at F
     simp only[xX,bne_eq_false_iff_eq] at F
     show o.2.2.2.1=x.2.2.2.1
     rcases F with e | e
     ·omega
     ·exact e.symm
    ·rw[if_neg d];exact I.wr x c hx1
   ·rw[qP.1 c,if_pos rfl];rfl
  ·intro x c hx2
   rw[y]
   rcases jB.1 (show x ∈ S.ops++[o] from c) with c | c
   ·by_cases d:x.2.2.1=o.2.2.1
    ·rw[if_pos d]
     have A:=I.st x c hx2
     rw[d] at A;exact A
    ·rw[if_neg d];exact I.st x c hx2
   ·rw[qP.1 c] at hx2;omega
  ·intro p d
   rw[y] at d
   by_cases e:p=o.2.2.1
   ·exact⟨o,yI _ (qP.2 rfl),t,e.symm⟩
   ·rw[if_neg e] at d
    obtain⟨x,c,i,C⟩:=I.wr' p d
    exact⟨x,xC _ c,i,C⟩
  ·intro p d
   rw[y] at d
   have G:(Bm.leafAt S.book p).2.2=true:=by
    by_cases e:p=o.2.2.1
    ·rw[if_pos e] at d;rw[e];exact d
    ·rw[if_neg e] at d;exact d
   obtain⟨x,c,i,C⟩:=I.st' p G
   exact⟨x,xC _ c,i,C⟩
  ·intro m
   rw[k,I.cutm m]
   show _↔(∃x ∈ S.ops++[o],x.2.1=3/\(x.2.2.1,x.1)=m)/\saw (S.ops++[o]) m.1 m.2=false
   rw[n (P:=fun x=>x.2.1=3/\(x.2.2.1,x.1)=m) (fun e=>by omega),oX (by omega)]
 ·
  have z:Bm.strikeE S.book o.2.2.1=0:=by unfold doE at j;rw[if_neg (by omega),if_pos t] at j;exact j
  have f:(next S o).book=Bm.putL S.book o.2.2.1 (Bm.stX S.book o.2.2.1):=by
   show doB S o=_;unfold doB;rw[if_neg (by omega),if_pos t,(Bm.kX z).2]
  have k:(next S o).marks=S.marks:=by
   show doM S o=_;unfold doM;rw[if_neg (by omega),if_neg (by omega)]
  have y:∀q,Bm.leafAt (next S o).book q=if q=o.2.2.1 then Bm.stX S.book o.2.2.1 else Bm.leafAt S.book q:=fun q=>by
   rw[f];exact Bm.tG N (p:=o.2.2.1) (x:=Bm.stX S.book o.2.2.1) rfl q
  refine⟨by rw[f,<-(Bm.kX z).2];exact(Bm.kX z).1,by rw[k];exact I.marks,v,E,l, ?_, ?_, ?_, ?_, ?_,D⟩
  ·intro x c hx1
   rw[y]
   rcases jB.1 (show x ∈ S.ops++[o] from c) with c | c
   ·by_cases d:x.2.2.1=o.2.2.1
    ·rw[if_pos d]
     have A:=I.wr x c hx1
     rw[d] at A;exact A
    ·rw[if_neg d];exact I.wr x c hx1
   ·rw[qP.1 c] at hx1;omega
  ·intro x c hx2
   rw[y]
   by_cases d:x.2.2.1=o.2.2.1
   ·rw[if_pos d];rfl
   ·rw[if_neg d]
    rcases jB.1 (show x ∈ S.ops++[o] from c) with c | c
    ·exact I.st x c hx2
    ·rw[qP.1 c] at d;exact absurd rfl d
  ·intro p d
   rw[y] at d
   have G:(Bm.leafAt S.book p).2.1≠0:=by
    by_cases e:p=o.2.2.1
    ·rw[if_pos e] at d;rw[e];exact d
    ·rw[if_neg e] at d;exact d
   obtain⟨x,c,i,C⟩:=I.wr' p G
   exact⟨x,xC _ c,i,C⟩
  ·intro p d
   rw[y] at d
   by_cases e:p=o.2.2.1
   ·exact⟨o,yI _ (qP.2 rfl),t,e.symm⟩
   ·rw[if_neg e] at d
    obtain⟨x,c,i,C⟩:=I.st' p d
    exact⟨x,xC _ c,i,C⟩
  ·intro m
   rw[k,I.cutm m]
   show _↔(∃x ∈ S.ops++[o],x.2.1=3/\(x.2.2.1,x.1)=m)/\saw (S.ops++[o]) m.1 m.2=false
   rw[n (P:=fun x=>x.2.1=3/\(x.2.2.1,x.1)=m) (fun e=>by omega),oX (by omega)]
 ·
  have f:(next S o).book=S.book:=by
   show doB S o=_;unfold doB;rw[if_neg (by omega),if_neg (by omega)]
  have H:∀x ∈ S.ops++[o],x.2.1=1\/x.2.1=2->x ∈ S.ops:=by
   intro x c hx2
   rcases jB.1 c with c | c
   ·exact c
   ·rw[qP.1 c] at hx2;omega
  have J:marksE (next S o).marks=0/\∀m,m ∈ (next S o).marks↔(∃x ∈ S.ops++[o],x.2.1=3/\(x.2.2.1,x.1)=m)/\saw S.ops m.1 m.2=false:=by
   cases hs:saw S.ops o.2.2.1 o.1 with
   | true=>
    have k:(next S o).marks=S.marks:=by show doM S o=_;unfold doM;rw[if_pos t,hs,if_pos rfl]
    rw[k]
    refine⟨I.marks,fun m=> ?_⟩
    rw[I.cutm m]
    constructor
    ·rintro⟨⟨x,c,d⟩,r⟩;exact⟨⟨x,xC _ c,d⟩,r⟩
    ·rintro⟨⟨x,c,d⟩,r⟩
     rcases jB.1 c with c | c
     ·exact⟨⟨x,c,d⟩,r⟩
     ·rw[qP.1 c] at d
      rw[<-d.2] at r
      simp only at r
      rw[hs] at r;cases r
   | false=>
    have k:(next S o).marks=ins mlt S.marks (o.2.2.1,o.1):=by show doM S o=_;unfold doM;rw[if_pos t,hs,if_neg (by decide)]
    have O:withM S.marks (o.2.2.1,o.1)=0:=by unfold doE at j;rw[if_neg (by omega),if_neg (by omega),if_pos t,hs,if_neg (by decide)] at j;exact j
    have Q:markE (o.2.2.1,o.1)=0:=by unfold markE;rw[if_neg (by simpa using U)];exact M
    have K:cutE S.marks (o.2.2.1,o.1)=0:=by unfold cutE;rw[if_neg (by simpa using I.marks),if_neg (by simpa using Q)];exact O
    refine⟨by rw[k,<-(wB K).1];exact(wB K).2,fun m=> ?_⟩
    rw[k,mem_ins,I.cutm m]
    constructor
    ·rintro(rfl | ⟨⟨x,c,d⟩,r⟩)
     ·exact⟨⟨o,yI _ (qP.2 rfl),t,rfl⟩,hs⟩
     ·exact⟨⟨x,xC _ c,d⟩,r⟩
    ·rintro⟨⟨x,c,d⟩,r⟩
     rcases jB.1 c with c | c
     ·exact qF ⟨⟨x,c,d⟩,r⟩
     ·rw[qP.1 c] at d;exact qH d.2.symm
  refine⟨by rw[f];exact I.book,J.1,v,E,l, ?_, ?_, ?_, ?_, ?_,D⟩
  ·intro x c hx1;rw[f];exact I.wr x (H x c (qH hx1)) hx1
  ·intro x c hx2;rw[f];exact I.st x (H x c (qF hx2)) hx2
  ·intro p d;rw[f] at d;obtain⟨x,c,i⟩:=I.wr' p d;exact⟨x,xC _ c,i⟩
  ·intro p d;rw[f] at d;obtain⟨x,c,i⟩:=I.st' p d;exact⟨x,xC _ c,i⟩
  ·intro m
   rw[J.2 m]
   show _↔(∃x ∈ S.ops++[o],x.2.1=3/\(x.2.2.1,x.1)=m)/\saw (S.ops++[o]) m.1 m.2=false
   rw[oX (by omega)]
 ·
  have f:(next S o).book=S.book:=by
   show doB S o=_;unfold doB;rw[if_neg (by omega),if_neg (by omega)]
  have k:(next S o).marks=without S.marks o.2.2.1 o.2.2.2.2:=by
   show doM S o=_;unfold doM;rw[if_neg (by omega),if_pos t]
  have H:∀x ∈ S.ops++[o],x.2.1=1\/x.2.1=2->x ∈ S.ops:=by
   intro x c hx2
   rcases jB.1 c with c | c
   ·exact c
   ·rw[qP.1 c] at hx2;omega
  obtain⟨m1,m2,m3⟩:=aY.1 I.marks
  refine⟨by rw[f];exact I.book, ?_,v,E,l, ?_, ?_, ?_, ?_, ?_,D⟩
  ·rw[k]
   refine aY.2 ⟨?_,fun m hm=> ?_, ?_⟩
   ·exact qO (vQ _ _) m1
   ·exact m2 m (yH.1 hm).1
   ·exact aA8 m3 _
  ·intro x c hx1;rw[f];exact I.wr x (H x c (qH hx1)) hx1
  ·intro x c hx2;rw[f];exact I.st x (H x c (qF hx2)) hx2
  ·intro p d;rw[f] at d;obtain⟨x,c,i⟩:=I.wr' p d;exact⟨x,xC _ c,i⟩
  ·intro p d;rw[f] at d;obtain⟨x,c,i⟩:=I.st' p d;exact⟨x,xC _ c,i⟩
  ·intro m
   rw[k]
   unfold without
   rw[yH,I.cutm m]
   show _↔(∃x ∈ S.ops++[o],x.2.1=3/\(x.2.2.1,x.1)=m)/\saw (S.ops++[o]) m.1 m.2=false
   rw[n (P:=fun x=>x.2.1=3/\(x.2.2.1,x.1)=m) (fun e=>by omega),oE,decide_eq_true t]
   simp only[yY,vK,Bool.not_eq_true',and_assoc]
   have R:(decide (m.1=o.2.2.1)&&decide (m.2 ∈ o.2.2.2.2))=(decide (o.2.2.1=m.1)&&decide (m.2 ∈ o.2.2.2.2)):=by
    rw[decide_eq_decide.2 (eq_comm (a:=m.1) (b:=o.2.2.1))]
   rw[R]
theorem aJj:∀(x y:Bm.Leaf),x.1=y.1->x.2.1=y.2.1->x.2.2=y.2.2->x=y:=by
 rintro⟨a,b,c⟩ ⟨a',b',c'⟩ d e f;simp only at d e f;rw[d,e,f]
theorem meet{R:Dq}(I:Inv S)(J:Inv R)(hp:S.ops.Perm R.ops):S.book=R.book/\S.marks=R.marks/\S.known=R.known:=by
 have k:∀o,o ∈ S.ops↔o ∈ R.ops:=fun o=>hp.mem_iff
 have t:∀p d,saw S.ops p d=saw R.ops p d:=by
  intro p d;rw[xP,aAl,aAl];exact⟨fun ⟨o,a,b⟩=>⟨o,(k o).1 a,b⟩,fun ⟨o,a,b⟩=>⟨o,(k o).2 a,b⟩⟩
 have q:∀{A B:Dq},Inv A->Inv B->(∀o,o ∈ A.ops↔o ∈ B.ops)->∀p,Bm.leafAt A.book p=Bm.leafAt B.book p:=by
  intro A B IA IB hAB p
  have v:(Bm.leafAt A.book p).2.1=(Bm.leafAt B.book p).2.1:=by
   by_cases h:(Bm.leafAt A.book p).2.1=0
   ·by_cases h':(Bm.leafAt B.book p).2.1=0
    ·rw[h,h']
    ·obtain⟨x,g,a,b⟩:=IB.wr' p h';have:=IA.wr x ((hAB x).2 g) a;have j:=IB.wr x g a;rw[b] at this j;rw[this,j]
   ·obtain⟨x,g,a,b⟩:=IA.wr' p h;have:=IB.wr x ((hAB x).1 g) a;have j:=IA.wr x g a;rw[b] at this j;rw[this,j]
  have y:(Bm.leafAt A.book p).2.2=(Bm.leafAt B.book p).2.2:=by
   rw[xP];constructor
   ·intro h;obtain⟨x,g,a,b⟩:=IA.st' p h;have:=IB.st x ((hAB x).1 g) a;rw[b] at this;exact this
   ·intro h;obtain⟨x,g,a,b⟩:=IB.st' p h;have:=IA.st x ((hAB x).2 g) a;rw[b] at this;exact this
  exact aJj _ _ ((Bm.iV (Bm.aU.1 IA.book).2.2 p).trans (Bm.iV (Bm.aU.1 IB.book).2.2 p).symm) v y
 have l:∀{A B:Dq},Inv A->Inv B->(∀o,o ∈ A.ops↔o ∈ B.ops)->∀x,x ∈ A.book->x ∈ B.book:=by
  intro A B IA IB hAB x g;have a:=Bm.mJ (Bm.aU.1 IA.book).2.2 g;have b:=q IA IB hAB x.1;rw[a] at b;have r:=Bm.cG.1 ((Bm.aU.1 IA.book).2.1 x g);by_cases s:Bm.has B.book x.1.toList=true
  ·have:=(Bm.cX (Bm.aU.1 IB.book).2.2 s).1;rw[<-b] at this;exact this
  ·have z:Bm.leafAt B.book x.1=(x.1,0,false):=by unfold Bm.leafAt;rw[if_neg s]
   rw[z] at b;rw[b] at r;rcases r.2.2 with e | e
   ·exact absurd rfl e
   ·cases e
 refine⟨?_, ?_, ?_⟩
 ·exact Bm.kA ((Bm.aU.1 I.book).2.2) ((Bm.aU.1 J.book).2.2) (fun x=>⟨l I J k x,l J I (fun o=>(k o).symm) x⟩)
 ·refine kA dB (aY.1 I.marks).2.2 (aY.1 J.marks).2.2 (fun m=> ?_);rw[I.cutm m,J.cutm m,t];constructor
  ·rintro⟨⟨o,a,b⟩,j⟩;exact⟨⟨o,(k o).1 a,b⟩,j⟩
  ·rintro⟨⟨o,a,b⟩,j⟩;exact⟨⟨o,(k o).2 a,b⟩,j⟩
 ·apply yE;intro i;by_cases n:i<8
  ·have a:=I.kno ((i:Int)+1) (by omega) (by omega);have b:=J.kno ((i:Int)+1) (by omega) (by omega);have C:(S.ops.filter fun o=>decide (o.1.1=(i:Int)+1)).length=(R.ops.filter fun o=>decide (o.1.1=(i:Int)+1)).length:=(hp.filter _).length_eq;rw[C,<-b] at a;unfold kn at a;rw[show((i:Int)+1-1).toNat=i by omega,qA,qA,qB (by rw[I.klen];exact n),qB (by rw[J.klen];exact n)] at a;rw[qB (by rw[I.klen];exact n),qB (by rw[J.klen];exact n)];simpa using a
  ·rw[jP (by rw[I.klen];omega),jP (by rw[J.klen];omega)]
end Hm
namespace Hm
theorem aCg{S:Dq}{o:Ox}(I:Inv S):Inv (apS S o):=by
 unfold apS
 cases h:isNew S o with
 | true=>exact inv_next I h
 | false=>exact I
theorem aBf{S:Dq}{o:Ox}(h:opE o=0)(hk:o.1.2<=kn S o.1.1):apE S o=0/\isNew S o=false/\apS S o=S:=by
 have a:isNew S o=false:=by
  cases h9:isNew S o with
  | false=>rfl
  | true=>have:=(aZ.1 h9).2.1;omega
 refine⟨?_,a,by unfold apS;rw[a];rfl⟩
 unfold apE;rw[if_neg (by simpa using h),if_pos hk]
def up (k:Int→Int) (o:Ox):Int→Int:=fun w=>if w=o.1.1 then o.1.2 else k w
def Seq:(Int→Int)→List Ox→Prop
 | _,[]=>True
 | k,o::l=>k o.1.1+1=o.1.2∧Seq (up k o) l
theorem aAU:∀{l:List Ox} {k:Int->Int} {o:Ox},Seq k l->(∀(k':Int->Int),k'=l.foldl up k->k' o.1.1+1=o.1.2)->Seq k (l++[o])
 | [],k,o,_,h=>⟨h k rfl,trivial⟩
 | x::l,k,o,hs,h=>⟨hs.1,aAU hs.2 (fun k' hk=>h k' hk)⟩
structure Ord (S:Dq):Prop where
 seq:Seq (fun _=>0) S.ops
 kn:∀w,1≤w→w≤8→kn S w=S.ops.foldl up (fun _=>0) w
theorem aHa:Ord d0:=by
 refine⟨trivial,fun w h1 h2=> ?_⟩;show kn d0 w=0
 have:=inv_zero.kno w h1 h2;rw[this];rfl
theorem aGA{S:Dq}{o:Ox}(I:Inv S)(O:Ord S)(h:isNew S o=true):Ord (next S o):=by
 obtain⟨d,hk,_,_⟩:=aZ.1 h;obtain⟨b,c,_,_⟩:=bH.1 (aO.1 d).1;refine⟨?_,fun w h1 h2=> ?_⟩
 ·show Seq _ (S.ops++[o])
  refine aAU O.seq (fun k' hk'=> ?_);rw[hk',<-O.kn _ b c];exact hk
 ·rw[rO S o w I.klen h1 h2 b c];show _=(S.ops++[o]).foldl up (fun _=>0) w
  rw[List.foldl_append];show _=up (S.ops.foldl up (fun _=>0)) o w
  unfold up;split
  ·rfl
  ·exact O.kn w h1 h2
theorem aGh{S:Dq}{o:Ox}(I:Inv S)(O:Ord S):Ord (apS S o):=by
 unfold apS
 cases h:isNew S o with
 | true=>exact aGA I O h
 | false=>exact O
end Hm
namespace Dm
end Dm
namespace Dm
def bad (n:Int):Bool:=decide (n<0)||decide (9999<n)
def vecE (v:List Int):Int:=if v.length=8 then(if v.any bad then 1 else 0) else 3
def dotE (who n:Int):Int:=if who<1∨8<who∨n<1∨9999<n then 1 else 0
def withE (v:List Int) (who n:Int):Int:=if vecE v=0 then dotE who n else vecE v
def known (v:List Int) (who:Int):Int:=v.getD (who-1).toNat 0
def hasB (v:List Int) (who n:Int):Bool:=decide (withE v who n=0)&&decide (n≤known v who)
def oZ (v:List Int) (who n:Int):Int:=
 if withE v who n≠0 then withE v who n else if n≤known v who then 7 else if known v who+1<n then 6 else 0
theorem fO{v:List Int}:vecE v=0↔v.length=8/\∀n ∈ v,0<=n/\n<=9999:=by
 unfold vecE;by_cases h:v.length=8
 ·rw[if_pos h];by_cases a:v.any bad=true
  ·rw[if_pos a];refine⟨fun e=>absurd e (by decide),fun e=> ?_⟩;obtain⟨n,b,c⟩:=List.any_eq_true.1 a;have:=e.2 n b;simp[bad] at c;omega
  ·rw[if_neg a];refine⟨fun _=>⟨h,fun n b=> ?_⟩,fun _=>rfl⟩
   have f:bad n=false:=by
    cases c:bad n
    ·rfl
    ·exact absurd (List.any_eq_true.2 ⟨n,b,c⟩) a
   simp[bad] at f;omega
 ·rw[if_neg h];exact⟨fun e=>absurd e (by decide),fun e=>absurd e.1 h⟩
end Dm
namespace Za
theorem aW{a b:Bool}(h:a=b):Ending.returned (.bool a)=.returned (.bool b):=by rw[h]
def errV (n:Int):Value:=if n=0 then .nilIface else .iface 59 (.int .i64 n)
theorem aD:errV 0=.nilIface:=rfl
theorem aH{n:Int}(h:n≠0):errV n=.iface 59 (.int .i64 n):=by unfold errV;rw[if_neg h]
theorem bel{w w1 w2:World}(h1:zB w w1)(h2:zB w1 w2):zB w w2:=
 h1.trans (h2.mono h1.size)
theorem aC{B:Nat}{a w:World}(h:Below B a w)(q:Nat):Below B a (w.drewN q):=⟨h.os,h.tape,h.output,h.size,h.block⟩
def IntsIn (w:World) (p:Option Addr) (l:List Int):Prop:=
 l=[]∨∃b o,p=some ⟨b,o,none⟩∧∀j,j<l.length→w.cell? ⟨b,o+j,none⟩=some (.int .i64 (l.getD j 0))
theorem IntsIn.below{w w':World}{p:Option Addr}{l:List Int}(h:IntsIn w p l)(hb:zB w w'):IntsIn w' p l:=by
 rcases h with h | ⟨b,o,hp,hc⟩
 ·exact qH h
 ·refine qF ⟨b,o,hp,fun j hj=> ?_⟩;have a:=hc j hj;rw[hb.cell (p:=⟨b,o+j,none⟩) (qJ _ _ a)];exact a
theorem aE6{w:World}{g o i:Nat}{l:List Int}{x:Int}(hi:i<l.length)(hc:∀j,j<l.length->w.cell? ⟨g,o+j,none⟩=some (.int .i64 (l.getD j 0))):
  ∀j,j<(l.set i x).length->(w.setCell ⟨g,o+i,none⟩ (.int .i64 x)).cell? ⟨g,o+j,none⟩=some (.int .i64 ((l.set i x).getD j 0)):=by
 intro j hj;rw[jN] at hj;by_cases h:j=i
 ·subst h;rw[xE _ _ _ (hc j hj),qA,jR hj];rfl
 ·rw[qN _ _ _ _ (by intro e;injection e;omega),hc j hj,qA,qA,qS (by omega)]
theorem IntsIn.some{w:World}{p:Option Addr}{l:List Int}(h:IntsIn w p l)(hl:l≠[]):∃b o,p=some ⟨b,o,none⟩∧∀j,j<l.length→w.cell? ⟨b,o+j,none⟩=some (.int .i64 (l.getD j 0)):=by
 rcases h with h | h
 ·exact absurd h hl
 ·exact h
theorem aAr:(prog.info? 3).map (fun i=>(i.zero,i.size,i.bytes))=some (some (.int .i64 0),1,8):=by kernel_rfl
end Za
namespace Db
open Za
theorem aDd(n:Int)(w:World):Calls prog 137 #[.int .i64 n] w fun e w'=>e=.returned (.bool (Dm.bad n))/\w'=w:=by
 go_in;go_wp2
 all_goals
  go_ret;exact⟨aW (by simp[Dm.bad, *]),rfl⟩
theorem hI(b o n c:Nat)(l:List Int)(w:World)(hl:l.length=n)(hn:n<=9223372036854775807)(hc:∀j,j<l.length->w.cell? ⟨b,o+j,none⟩=some (.int .i64 (l.getD j 0))):
  Calls prog 163 #[.slice (some ⟨b,o,none⟩) n c,.func (.func 137) #[] #[]] w fun e w'=>(∃r,e=.returned (.int .i64 r)/\decide (0<=r)=l.any Dm.bad)/\w'=w:=by
 have t:Hid (∀j,j<n->w.cell? ⟨b,o+j,none⟩=some (zI (l.getD j 0))):=fun j hj=>hc j (by omega)
 have m:=z9 hl
 clear hc hl
 go_in
 go_wp2
 go_loop [5,8] (fun _ v=>∃k:Nat,k<=n/\v=zI k/\Hid (∀j,j<k->Dm.bad (l.getD j 0)=false)) (fun _ v=>n-(intOf v).toNat)
 case atStart=>exact⟨0,by omega,rfl,fun j hj=>absurd hj (by omega)⟩
 case round=>
  obtain⟨k,C,rfl,p⟩:=hrel
  by_cases g:k<n
  ·have y:(k:Int)<n:=by omega
   have f:=t.out k g
   obtain⟨x,a⟩:=zx (l.getD k 0)
   have q:=z9 a
   rw[<-a] at f
   clear a
   cases hbad:Dm.bad x
   ·go_wp2_with (go_at_call 137;refine(aDd _ _).mono ?_;rintro e w' ⟨rfl,A⟩;subst w')
    go_round
    case rel=>exact⟨k+1,by omega,by simp,fun j hj=>by
     rcases jS.1 hj with h | rfl
     ·exact p.out j h
     ·rw[<-q.out];exact hbad⟩
    case measure=>simp[intOf];omega
   ·go_wp2_with (go_at_call 137;refine(aDd _ _).mono ?_;rintro e w' ⟨rfl,A⟩;subst w')
    go_ret
    refine⟨⟨_,rfl, ?_⟩,rfl⟩
    rw[decide_eq_true (by omega)]
    refine(List.any_eq_true.2 ⟨x, ?_,hbad⟩).symm
    rw[q.out,qA,qB (by rw[m.out];exact g)]
    exact jF _
  ·obtain rfl:k=n:=by omega
   go_wp2
   go_ret
   refine⟨⟨_,rfl, ?_⟩,rfl⟩
   cases ha:l.any Dm.bad with
   | false=>rfl
   | true=>
    obtain⟨x,a,B⟩:=List.any_eq_true.1 ha
    obtain⟨i,s,e⟩:=vP a
    have:=p.out i (by rw[<-m.out];exact s)
    rw[qA,qB s] at this
    simp only[xT] at this
    rw[e,B] at this
    exact absurd this (by decide)
theorem cN(b o n c:Nat)(l:List Int)(w:World)(hl:l.length=n)(hn:n<=9223372036854775807)(hc:∀j,j<l.length->w.cell? ⟨b,o+j,none⟩=some (.int .i64 (l.getD j 0))):
  Calls prog 136 #[.slice (some ⟨b,o,none⟩) n c,.func (.func 137) #[] #[]] w fun e w'=>e=.returned (.bool (l.any Dm.bad))/\w'=w:=by
 have C:=hI b o n c l w hl hn hc;clear hc hl;go_in;go_wp2_with (go_at_call 163;refine C.mono ?_;rintro e w' ⟨⟨r,rfl,a⟩,d⟩;have f:=d.symm;subst f;clear d;have g:=z9 a;clear a)
 all_goals
  go_ret;exact⟨aW g.out,rfl⟩
theorem tW(p:Option Addr)(n c:Nat)(l:List Int)(w:World)(hl:l.length=n)(h:IntsIn w p l):
  Calls prog 107 #[.slice p n c] w fun e w'=>e=.returned (errV (Dm.vecE l))/\w'=w:=by
 by_cases h8:n=8
 ·subst h8;obtain⟨b,o,rfl,d⟩:=h.some (by rintro rfl;simp at hl);have C:=cN b o 8 c l w hl (by omega) d;have f:=z9 hl;clear d h hl;cases ha:l.any Dm.bad
  ·rw[ha] at C;have a:=z9 ha;clear ha;go_in;go_wp2_with (go_at_call 136;refine C.mono ?_;rintro e w' ⟨rfl,i⟩;subst w');go_ret;exact⟨by unfold Dm.vecE;rw[if_pos f.out,a.out];rfl,rfl⟩
  ·rw[ha] at C;have a:=z9 ha;clear ha;go_in;go_wp2_with (go_at_call 136;refine C.mono ?_;rintro e w' ⟨rfl,i⟩;subst w');go_ret;exact⟨by unfold Dm.vecE;rw[if_pos f.out,a.out];rfl,rfl⟩
 ·have j:Hid (errV (Dm.vecE l)=.iface 59 (zI 3)):=by
   unfold Hid Dm.vecE;rw[if_neg (by omega)];rfl
  have h8':((n:Int)==8)=false:=by simp;omega
  clear h hl h8;go_in;go_wp2_with fail;go_ret;exact⟨by rw[j.out];rfl,rfl⟩
end Db
namespace Dc
open Za Db
theorem cQ(who m:Int)(w:World):
  Calls prog 138 #[.agg #[.int .i64 who,.int .i64 m]] w fun e w'=>e=.returned (errV (Dm.dotE who m))/\zB w w':=by
 go_in
 go_wp2
 all_goals
  go_ret
  refine⟨?_,zb w _⟩
  unfold Dm.dotE
  first
   | (rw[if_pos (by omega)];rfl)
   | (rw[if_neg (by omega)];rfl)
theorem sH(p:Option Addr)(n c:Nat)(l:List Int)(who m:Int)(w:World)(hl:l.length=n)(h:IntsIn w p l):
  Calls prog 142 #[.slice p n c,.agg #[.int .i64 who,.int .i64 m]] w fun e w'=>e=.returned (errV (Dm.withE l who m))/\zB w w':=by
 have d:zB w (w.alloc (.cells #[zI who,zI m] 80)):=zb w _;have C:=tW p n c l _ hl (h.below d);clear hl h;by_cases a:Dm.vecE l=0
 ·rw[a,aD] at C;have b:Hid (Dm.withE l who m=Dm.dotE who m):=by unfold Hid Dm.withE;rw[if_pos a]
  clear a;go_in;go_wp2_with (go_at_call 107;refine C.mono ?_;rintro e w' ⟨rfl,j⟩;subst w');refine(cQ who m _).mono ?_;rintro e w' ⟨rfl,g⟩;go_wp2_with fail;go_ret;exact⟨by rw[b.out];rfl,bel d g⟩
 ·rw[aH a] at C;have b:Hid (errV (Dm.withE l who m)=.iface 59 (zI (Dm.vecE l))):=by unfold Hid Dm.withE;rw[if_neg a,aH a]
  obtain⟨k,i⟩:=zx (Dm.vecE l);rw[<-i] at C b;clear a i;go_in;go_wp2_with (go_at_call 107;refine C.mono ?_;rintro e w' ⟨rfl,j⟩;subst w');go_ret;exact⟨by rw[b.out];rfl,d⟩
theorem dL(b o n c:Nat)(l:List Int)(w:World)(hl:l.length=n)(hn:0<n)(hn2:n<=1048576)(hc:∀j,j<l.length->w.cell? ⟨b,o+j,none⟩=some (.int .i64 (l.getD j 0))):
  Calls prog 82 #[.slice (some ⟨b,o,none⟩) n c] w fun e w'=>∃g cap cur,e=.returned (.slice (some ⟨g,0,none⟩) n cap)/\w.heap.size<=g/\w'.heap[g]? =some (.cells cur 3 (0,0))/\n<=cur.size/\cur.toList.take n=l.map (fun x=>Value.int .i64 x)/\zB w w':=by
 obtain⟨t,v,m,p,q⟩:=info_parts aAr
 have y:Hid (∀j u,(l.map (fun x=>Value.int .i64 x))[j]? =some u->(w.alloc (.cells #[] 3)).cell? ((⟨b,o,none⟩:Addr).add j)=some u):=by
  intro j u hu
  rw[qT] at hu
  cases hx:l[j]? with
  | none=>rw[hx] at hu;cases hu
  | some x=>
   rw[hx] at hu
   simp only[xU,Option.some.injEq] at hu
   subst hu
   have k:j<l.length:=(jK.1 hx).1
   have i:=hc j k
   rw[qA,hx] at i
   rw[jU,World.cell?_alloc_old _ _ _ (kO (qJ _ _ i))]
   exact i
 have z:=z9 hl
 have A:Hid ((w.alloc (.cells #[] 3)).ownsRow w.heap.size 3 1 (.slice (some (zW w)) 0 0) 0 []):=
  ⟨rfl,qF ⟨w.heap.size,0,#[],rfl,qC _,heap_alloc_new w _,qC _,by unfold maxLen;omega,rfl,rfl⟩⟩
 have C:∀(a:Addr) (n c:Nat) (w:World),Sem.run prog (binOp .eql 49 (.slice (some a) n c) (zS)) w=.ok (.bool false) w:=fun _ _ _ _=>by kernel_rfl
 clear hc hl
 go_in
 go_wp2_with (at_builtin;refine wpList_append_own_at _ rfl (.tmp 5) (.tmp 6) 49 rfl w.heap.size 3 t z0 1 8 Tryz.underlying49 v m p q rfl (by decide) (.slice (some (zW w)) 0 0) 0 [] rfl A.out ⟨b,o,none⟩ n c (l.map (fun x=>Value.int .i64 x)) rfl (by rw[jM,z.out,Nat.mul_one]) y.out (by intro u hu;obtain⟨x,_,rfl⟩:=xV.1 hu;rfl) (by unfold maxLen;omega) (by omega) (by simp) ?_;intro v' w1 hown' hgrow _ hat;obtain⟨B,f⟩:=hown';have r:=z9 f;have s:Hid (zB w w1):=((qD _ w).alloc (qC _) (.cells #[] 3)).grown hgrow (by simp) (by intro j k;simp[Value.ownBlock] at k;omega);clear f hgrow hat B)
 go_ret
 rcases r.out with⟨_,h⟩ | ⟨g,cap,cur,rfl,i,h2,h3,h4,h5,h6⟩
 ·omega
 ·refine⟨g,cap,cur,by simp,i,h2,by omega,by simpa using h6,s.out⟩
theorem lP{w:World}{g:Nat}{cur:Array Value}{t:TypeId}{l:List Int}(h:w.heap[g]? =some (.cells cur t (0,0)))(h2:cur.toList.take l.length=l.map (fun x=>Value.int .i64 x)):
  (∀j,j<l.length->w.cell? ⟨g,0+j,none⟩=some (.int .i64 (l.getD j 0)))/\∀j,w.frozen? ⟨g,j,none⟩=false:=by
 refine⟨fun j hj=> ?_,fun j=>by simp[World.frozen?,h]⟩
 have e:(cur.toList.take l.length)[j]? =some (zI (l.getD j 0)):=by
  rw[h2,qT,qA,qB hj];rfl
 rw[jC hj] at e;rw[qY];simp only[World.cell?,h];simpa using e
theorem pX(b o n c:Nat)(l:List Int)(w:World)(hl:l.length=n)(hn:0<n)(hn2:n<=1048576)(hc:∀j,j<l.length->w.cell? ⟨b,o+j,none⟩=some (.int .i64 (l.getD j 0))):
  Calls prog 82 #[.slice (some ⟨b,o,none⟩) n c] w fun e w'=>∃g cap,e=.returned (.slice (some ⟨g,0,none⟩) n cap)/\w.heap.size<=g/\(∀j,j<l.length->w'.cell? ⟨g,0+j,none⟩=some (.int .i64 (l.getD j 0)))/\(∀j,w'.frozen? ⟨g,j,none⟩=false)/\zB w w':=by
 refine(dL b o n c l w hl hn hn2 hc).mono ?_;rintro e w' ⟨g,cap,i,rfl,f,d,k,a,h⟩;rw[<-hl] at a;exact⟨g,cap,rfl,f,(lP d a).1,(lP d a).2,h⟩
end Dc
namespace Dd
open Za Dc
theorem bG{x:Int}(h1: -1000000<=x)(h2:x<=1000000):IntKind.i64.wrap x=x:=by
 rw[IntKind.wrap_i64];omega
theorem pK{l:List Int}{who m:Int}(h:Dm.withE l who m=0):Dm.vecE l=0/\1<=who/\who<=8/\1<=m/\m<=9999:=by
 unfold Dm.withE at h;split at h
 ·next h1=>
  unfold Dm.dotE at h;split at h
  ·exact absurd h (by decide)
  ·exact⟨h1,by omega,by omega,by omega,by omega⟩
 ·next h1=>exact absurd h h1
variable (p:Option Addr)(n c:Nat)(l:List Int)(who m:Int)(w:World)
theorem lU(who m:Int){w2:World}(hb:Below (w.alloc (.cells #[.int .i64 who,.int .i64 m] 80)).heap.size (w.alloc (.cells #[.int .i64 who,.int .i64 m] 80)) w2):
  w2.cell? ⟨w.heap.size,0,none⟩=some (.int .i64 who)/\w2.cell? ⟨w.heap.size,1,none⟩=some (.int .i64 m):=by
 have a:(w.alloc (.cells #[zI who,zI m] 80)).heap.size=w.heap.size+1:=by simp
 refine⟨?_, ?_⟩
 ·rw[hb.cell (p:=(zW w)) (by rw[a];exact Nat.lt_succ_self _)];go_simp
 ·rw[hb.cell (p:=⟨w.heap.size,1,none⟩) (by rw[a];exact Nat.lt_succ_self _)];go_simp
theorem aDm(hl:l.length=n)(h:IntsIn w p l):
  Calls prog 109 #[.slice p n c,.agg #[.int .i64 who,.int .i64 m]] w fun e w'=>e=.returned (.tuple #[.bool (Dm.hasB l who m),errV (Dm.withE l who m)])/\zB w w':=by
 have g:zB w (w.alloc (.cells #[zI who,zI m] 80)):=(qD _ w).alloc (qC _) _;have C:=sH p n c l who m _ hl (h.below g);by_cases f:Dm.withE l who m=0
 ·obtain⟨z,L,M,N,O⟩:=pK f;have i:=(Dm.fO.1 z).1;obtain rfl:n=8:=by omega
  obtain⟨b,o,rfl,A⟩:=h.some (by rintro rfl;simp at i);have j:(who-1).toNat=who.toNat-1:=by omega
  have a:=A (who.toNat-1) (by omega);obtain⟨x,r⟩:=zx (l.getD (who.toNat-1) 0);rw[<-r] at a;have s:Hid (Dm.hasB l who m=decide (m<=x)):=by unfold Hid Dm.hasB Dm.known;rw[f,j,<-r];simp
  have t:Hid (errV (Dm.withE l who m)=.nilIface):=by unfold Hid;rw[f];rfl
  have q:Hid (∀w2,Below (w.alloc (.cells #[zI who,zI m] 80)).heap.size (w.alloc (.cells #[zI who,zI m] 80)) w2->w2.cell? ⟨b,o+(who.toNat-1),none⟩=some (zI x)):=by
   intro w2 d;rw[(bel g d).cell (p:=⟨b,o+(who.toNat-1),none⟩) (qJ _ _ a)];exact a
  rw[f,aD] at C;clear A h hl i z f a r j;go_in;go_wp2_with (go_at_call 142;refine C.mono ?_;rintro e w2 ⟨rfl,d⟩;have a:=q.out w2 d;obtain⟨B,D⟩:=lU w who m d;have E:=z9 (bel g d);clear d g q C);have I:0<=who-1:=by omega
  have J:who-1<8:=by omega
  have K:IntKind.i64.wrap (who-1)=who-1:=bG (by omega) (by omega);go_quiet (fail)
  go_wp2
  all_goals
   go_ret2;refine⟨?_, ?_⟩
   ·rw[s.out,t.out];simp[*]
   ·exact aC E.out _
 ·rw[aH f] at C;obtain⟨k,v⟩:=zx (Dm.withE l who m);have t:Hid (errV (Dm.withE l who m)=.iface 59 (zI k)):=by unfold Hid;rw[aH f,v]
  have s:Hid (Dm.hasB l who m=false):=by unfold Hid Dm.hasB;simp[f]
  rw[<-v] at C;clear f v;go_in;go_wp2_with (go_at_call 142;refine C.mono ?_;rintro e w2 ⟨rfl,d⟩);go_ret2;exact⟨by rw[t.out,s.out];rfl,bel g d⟩
theorem aI1(hl:l.length=n)(h:IntsIn w p l)(hne:Dm.oZ l who m≠0)(k:Int)(hk:Dm.oZ l who m=k):
  Calls prog 133 #[.slice p n c,.agg #[.int .i64 who,.int .i64 m]] w fun e w'=>e=.returned (.tuple #[.slice none 0 0,.iface 59 (.int .i64 k)])/\zB w w':=by
 have f:zB w (w.alloc (.cells #[zI who,zI m] 80)):=(qD _ w).alloc (qC _) _;have C:=sH p n c l who m _ hl (h.below f);by_cases g:Dm.withE l who m=0
 ·obtain⟨A,O,P,Q,R⟩:=pK g;have q:=(Dm.fO.1 A).1;obtain rfl:n=8:=by omega
  obtain⟨b,o,rfl,H⟩:=h.some (by rintro rfl;simp at q);have r:(who-1).toNat=who.toNat-1:=by omega
  have d:=H (who.toNat-1) (by omega);obtain⟨x,j⟩:=zx (l.getD (who.toNat-1) 0);rw[<-j] at d
  have s:0<=x/\x<=9999:=by
   rw[j,qA,qB (by omega)];exact(Dm.fO.1 A).2 _ (jF _)
  have t:Dm.known l who=x:=by unfold Dm.known;rw[r,j]
  have i:Hid (∀w2,Below (w.alloc (.cells #[zI who,zI m] 80)).heap.size (w.alloc (.cells #[zI who,zI m] 80)) w2->w2.cell? ⟨b,o+(who.toNat-1),none⟩=some (zI x)):=by
   intro w2 a;rw[(bel f a).cell (p:=⟨b,o+(who.toNat-1),none⟩) (qJ _ _ d)];exact d
  rw[g,aD] at C;unfold Dm.oZ at hk hne;rw[g,if_neg (by simp),t] at hk hne;have L:0<=who-1:=by omega
  have M:who-1<8:=by omega
  obtain⟨N,s⟩:=s;clear H h hl q A g d j r t;by_cases I:m<=x
  ·rw[if_pos I] at hk;have B:=z9 hk;clear hk hne;go_in;go_wp2_with (go_at_call 142;refine C.mono ?_;rintro e w2 ⟨rfl,a⟩;have d:=i.out w2 a;obtain⟨D,E⟩:=lU w who m a;have F:=z9 (bel f a);clear a f i C);go_ret2;exact⟨by rw[<-B.out];rfl,F.out⟩
  ·rw[if_neg I] at hk hne;by_cases v:x+1<m
   ·rw[if_pos v] at hk;have B:=z9 hk;clear hk hne;go_in;go_wp2_with (go_at_call 142;refine C.mono ?_;rintro e w2 ⟨rfl,a⟩;have d:=i.out w2 a;obtain⟨D,E⟩:=lU w who m a;have F:=z9 (bel f a);clear a f i C);go_ret2;exact⟨by rw[<-B.out];rfl,F.out⟩
   ·rw[if_neg v] at hne;exact absurd rfl hne
 ·have y:Dm.withE l who m=k:=by unfold Dm.oZ at hk;rw[if_pos g] at hk;exact hk
  rw[aH g,y] at C;clear g hk y hne;go_in;go_wp2_with (go_at_call 142;refine C.mono ?_;rintro e w2 ⟨rfl,a⟩);go_ret2;exact⟨rfl,bel f a⟩
theorem aAd(hl:l.length=n)(h:IntsIn w p l)(h0:Dm.oZ l who m=0):
  Calls prog 133 #[.slice p n c,.agg #[.int .i64 who,.int .i64 m]] w fun e w'=>∃g cap,e=.returned (.tuple #[.slice (some ⟨g,0,none⟩) 8 cap,.nilIface])/\IntsIn w' (some ⟨g,0,none⟩) (l.set (who-1).toNat m)/\w.heap.size<=g/\zB w w':=by
 have v:zB w (w.alloc (.cells #[zI who,zI m] 80)):=(qD _ w).alloc (qC _) _;have C:=sH p n c l who m _ hl (h.below v)
 have f:Dm.withE l who m=0:=by
  unfold Dm.oZ at h0;split at h0
  ·exact h0
  ·next hh=>simpa using hh
 obtain⟨G,h1,h8,g1,g9⟩:=pK f;have q:=(Dm.fO.1 G).1;obtain rfl:n=8:=by omega
 obtain⟨b,o,rfl,y⟩:=h.some (by rintro rfl;simp at q);have r:(who-1).toNat=who.toNat-1:=by omega
 have a:=y (who.toNat-1) (by omega);obtain⟨x,z⟩:=zx (l.getD (who.toNat-1) 0)
 have B:0<=x/\x<=9999:=by
  rw[z,qA,qB (by omega)];exact(Dm.fO.1 G).2 _ (jF _)
 have D:Dm.known l who=x:=by unfold Dm.known;rw[r,z]
 have U:x<m/\m<=x+1:=by
  unfold Dm.oZ at h0;rw[f,if_neg (by simp),D] at h0;split at h0
  ·exact absurd h0 (by decide)
  ·split at h0
   ·exact absurd h0 (by decide)
   ·omega
 have E:Hid (∀w2,Below (w.alloc (.cells #[zI who,zI m] 80)).heap.size (w.alloc (.cells #[zI who,zI m] 80)) w2->∀j,j<l.length->w2.cell? ⟨b,o+j,none⟩=some (zI (l.getD j 0))):=by
  intro w2 d j hj;rw[(bel v d).cell (p:=⟨b,o+j,none⟩) (qJ _ _ (y j hj))];exact y j hj
 rw[f,aD] at C;have V:0<=who-1:=by omega
 have X:who-1<8:=by omega
 have A:=z9 q;have H:=z9 z;have I:=z9 r;obtain⟨Y,B⟩:=B;obtain⟨Z,aa⟩:=U;clear y h hl q G h0 f a z r D;go_in;go_wp2_with (go_at_call 142;refine C.mono ?_;rintro e w2 ⟨rfl,d⟩;have s:=Hid.out (p:=∀j,j<l.length->w2.cell? ⟨b,o+j,none⟩=some (zI (l.getD j 0))) (E.out w2 d);have a:=s (who.toNat-1) (by rw[A.out];omega);rw[<-H.out] at a;have J:=z9 s;clear s;obtain⟨hbx0,hbx1⟩:=lU w who m d;have K:=z9 (bel v d);clear d v E C);refine(pX b o 8 c l w2 A.out (by decide) (by decide) J.out).mono ?_;rintro e w3 ⟨g,cap,rfl,L,t,F,k⟩;have hbx0':w3.cell? (zW w)=some (zI who):=by rw[k.cell (p:=(zW w)) (qJ _ _ hbx0)];exact hbx0
 have hbx1':w3.cell? ⟨w.heap.size,1,none⟩=some (zI m):=by rw[k.cell (p:=⟨w.heap.size,1,none⟩) (qJ _ _ hbx1)];exact hbx1
 have M:w3.cell? ⟨g,0+(who.toNat-1),none⟩=some (zI (l.getD (who.toNat-1) 0)):=t _ (by rw[A.out];omega);rw[<-H.out,qY] at M;have ab:=F (who.toNat-1);have N:=z9 L;have O:=z9 t;have P:=z9 (bel K.out k);have Q:=z9 K.out.size;clear F t L k hbx0 hbx1 a;go_wp2_with fail;go_ret2;refine⟨g,cap,rfl,qF ⟨g,0,rfl, ?_⟩,qO Q.out N.out, ?_⟩
 ·have:=aE6 (i:=(who-1).toNat) (x:=m) (by rw[A.out];omega) O.out;rw[I.out,qY] at this;rw[I.out];exact this
 ·exact P.out.setCell (p:=⟨g,who.toNat-1,none⟩) (qO Q.out N.out) _
end Dd
end Go.Proofs.YtjcemlmlfoilmaaGreatDoor
