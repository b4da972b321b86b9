import Derived.Test.YtjcemlmlfoilmaaGreatDoorJ9
import Derived.Test.YtjcemlmlfoilmaaGreatDoorP1
set_option linter.unusedVariables false
set_option maxRecDepth 100000
set_option maxHeartbeats 8000000
namespace Go.Proofs.YtjcemlmlfoilmaaGreatDoor
open Om Hm
namespace Um
open Cm
open Op (bytesLess)
open Bm (Leaf none0)
def seenP (l:List Leaf):List ByteArray:=(l.filter Bm.isS).map (·.1)
theorem fK(a b:List Leaf):seenP (a++b)=seenP a++seenP b:=by unfold seenP;rw[vS,xL]
theorem cZ(x:Leaf)(l:List Leaf):seenP (x::l)=if Bm.isS x then x.1::seenP l else seenP l:=by
 unfold seenP;rw[vD];cases Bm.isS x<;>rfl
theorem hS(l:List Leaf):(seenP l).length=(Bm.text l).length:=by unfold seenP Bm.text;simp
theorem dA(l:List Leaf):(seenP l).length<=l.length:=by rw[hS];exact Bm.iX l
variable {l:List Leaf}{k n:Nat}{a b t:ByteArray}{who off:Int}{S:Dq}{L:List Ox}{o:Ox}
theorem wU(hk:k<l.length):l.take (k+1)=l.take k++[l.getD k none0]:=by
 rw[jV,qA,qB hk];rfl
theorem aEq(hk:k<l.length)(h:Bm.isS (l.getD k none0)=true):seenP (l.take (k+1))=seenP (l.take k)++[(l.getD k none0).1]:=by
 rw[wU hk,fK,cZ,h,if_pos rfl];rfl
theorem aFV(hk:k<l.length)(h:Bm.isS (l.getD k none0)=false):seenP (l.take (k+1))=seenP (l.take k):=by
 rw[wU hk,fK,cZ,h];exact vY _
theorem pR{p:ByteArray}(h:p ∈ seenP l):∃x ∈ l,Bm.isS x=true/\x.1=p:=by
 unfold seenP at h;obtain⟨x,a,e⟩:=xV.1 h;exact⟨x,(yH.1 a).1,(yH.1 a).2,e⟩
theorem iK:∀(l:List Leaf) (r:Nat),r<(seenP l).length->∃A x B,l=A++x::B/\Bm.isS x=true/\(seenP A).length=r
 | [],r,h=>by simp[seenP] at h
 | y::l,r,h=>by
  rw[cZ] at h
  cases hy:Bm.isS y with
  | true=>
   rw[hy,if_pos rfl] at h
   cases r with
   | zero=>exact⟨[],y,l,rfl,hy,rfl⟩
   | succ r=>
    obtain⟨A,x,B,rfl,hx,hr⟩:=iK l r (by simpa using h)
    exact⟨y::A,x,B,rfl,hx,by rw[cZ,hy,if_pos rfl,qV,hr]⟩
  | false=>
   rw[hy] at h
   obtain⟨A,x,B,rfl,hx,hr⟩:=iK l r (by simpa using h)
   exact⟨y::A,x,B,rfl,hx,by rw[cZ,hy];simpa using hr⟩
def nxt (l:List Leaf) (off:Nat):Nat:=if off=0 then 0 else(Bm.nth l 0 ((off:Int)-1)).toNat+1
def leftP (l:List Leaf) (off:Nat):ByteArray:=if off=0 then⟨#[]⟩ else(seenP l).getD (off-1) ⟨#[]⟩
def rightP (l:List Leaf) (off:Nat):ByteArray:=if nxt l off<l.length then(l.getD (nxt l off) none0).1 else⟨#[]⟩
theorem aFi:(⟨#[]⟩:ByteArray).toList=[]:=ByteArray.toList_mk []
theorem aAt{A B:List Leaf}{x:Leaf}(hx:Bm.isS x=true):Bm.nth (A++x::B) 0 ((seenP A).length:Int)=(A.length:Int)/\(A++x::B).getD A.length none0=x/\(seenP (A++x::B)).getD (seenP A).length ⟨#[]⟩=x.1:=by
 refine⟨?_, ?_, ?_⟩
 ·rw[hS,Bm.aBX hx A 0];simp
 ·rw[qA,jG (qC _)];simp
 ·rw[fK,cZ,hx,if_pos rfl,qA,jG (qC _)];simp
structure CutOff (l:List Leaf) (off:Nat):Prop where
 le:nxt l off≤l.length
 len:(seenP (l.take (nxt l off))).length=off
 pos:0<off→0<nxt l off∧(l.getD (nxt l off-1) none0).1=leftP l off∧Bm.isS (l.getD (nxt l off-1) none0)=true
theorem rQ{off:Nat}(h:off<=(seenP l).length):CutOff l off:=by
 cases off with
 | zero=>exact⟨by simp[nxt],by simp[nxt,seenP],fun h=>absurd h (by omega)⟩
 | succ r=>
  obtain⟨A,x,B,rfl,a,c⟩:=iK l r (by omega)
  obtain⟨d,g,e⟩:=aAt (A:=A) (B:=B) a
  rw[c] at d e
  have b:nxt (A++x::B) (r+1)=A.length+1:=by
   unfold nxt
   rw[if_neg (by omega),show(((r+1:Nat):Int)-1)=(r:Int) by omega,d];simp
  refine⟨by rw[b];simp, ?_,fun _=> ?_⟩
  ·rw[b,show A++x::B=(A++[x])++B by simp,List.take_left' (by simp),fK,cZ,a,if_pos rfl]
   rw[qE,c];simp[seenP]
  ·rw[b,vZ,g]
   refine⟨by omega, ?_,a⟩
   unfold leftP
   rw[if_neg (by omega),vZ,e]
def stepP (a b:ByteArray) (who:Int):ByteArray:=⟨(Pm.betText a.toList b.toList who).toArray⟩
def nthP (a b:ByteArray) (who:Int):Nat→ByteArray
 | 0=>a
 | k+1=>stepP (nthP a b who k) b who
def rowE (a b:ByteArray) (who:Int):Nat→Int
 | 0=>0
 | k+1=>if rowE a b who k≠0 then rowE a b who k else Pm.betErr (nthP a b who k).toList b.toList who
theorem aDg{a b:ByteArray}{who:Int}:∀{n:Nat},rowE a b who n=0->∀k,k<n->Pm.betErr (nthP a b who k).toList b.toList who=0
 | 0,_,k,hk=>absurd hk (by omega)
 | n+1,h,k,hk=>by
  unfold rowE at h
  by_cases h0:rowE a b who n=0
  ·rw[if_neg (by simpa using h0)] at h
   rcases xW (show k<=n by omega) with e | e
   ·exact aDg h0 k e
   ·rw[e];exact h
  ·rw[if_pos h0] at h;exact absurd h h0
theorem aCq(h:rowE a b who k=0):rowE a b who (k+1)=Pm.betErr (nthP a b who k).toList b.toList who:=by
 show(if rowE a b who k≠0 then _ else _)=_
 rw[if_neg (by simpa using h)]
theorem tN(h:rowE a b who k≠0):∀n,k<=n->rowE a b who n=rowE a b who k:=by
 intro n hn
 induction n with
 | zero=>rw[show k=0 by omega]
 | succ n ih=>
  rcases xW hn with e | e
  ·have i:=ih (by omega)
   show(if rowE a b who n≠0 then _ else _)=_
   rw[if_pos (by rw[i];exact h)];exact i
  ·rw[e]
structure Stp (a b:ByteArray) (who:Int):Prop where
 chk:Pm.chk (stepP a b who).toList=0
 up:bytesLess a.toList (stepP a b who).toList=true
 down:b.toList=[]∨bytesLess (stepP a b who).toList b.toList=true
 whose:Pm.whoOf (stepP a b who).toList=who
theorem aHE(h:Pm.betErr a.toList b.toList who=0):Stp a b who:=by
 obtain⟨t,m,e,_,_,d,_⟩:=Pm.aIa h
 have f:(stepP a b who).toList=t++[UInt8.ofNat (97+who.toNat)]:=by unfold stepP;rw[toList_mk,e]
 refine⟨by rw[f];exact Pm.aFU d, ?_, ?_,by rw[f];exact Pm.tU t who d.who1 d.who8⟩
 ·have:=Pm.aBS d [UInt8.ofNat (97+who.toNat)]
  rw[vK,beq_eq_false_iff_ne] at this
  rw[f];exact Bm.bT this.1 this.2
 ·cases hb:b.toList with
  | nil=>exact qH rfl
  | cons c r=>
   right
   have:=Pm.aBQ d [UInt8.ofNat (97+who.toNat)] (by rw[hb];rfl)
   rw[f,<-hb];exact this
theorem aDf(h:rowE a b who n=0)(hk:k<n):Stp (nthP a b who k) b who:=aHE (aDg h k hk)
theorem lT(h:rowE a b who n=0)(ha:a.size<=12):∀k,k<=n->(nthP a b who k).size<=12
 | 0,_=>ha
 | k+1,hk=>by
  have:=(Bm.cS (aDf h (k:=k) (by omega)).chk).2
  rw[aJ] at this;exact this
def okText (t:ByteArray):Bool:=t.toList.all fun c=>Bm.isL (c.toNat:Int)
def textE (t:ByteArray):Int:=if 200<t.size then 4 else if okText t=false then 1 else 0
def aroundE (l:List Leaf) (off:Int):Int:=if off<0∨((seenP l).length:Int)<off then 1 else 0
def insE (S:Dq) (who off:Int) (t:ByteArray):Int:=
 if Pm.isWho who=false then 1 else if textE t≠0 then textE t else if aroundE S.book off≠0 then 1 else rowE (leftP S.book off.toNat) (rightP S.book off.toNat) who t.size
def insO (a b:ByteArray) (who n:Int) (t:ByteArray) (k:Nat):Ox:=((who,n+1+k),1,nthP a b who (k+1),((t.toList.getD k 0).toNat:Int),[])
def insL (S:Dq) (who off:Int) (t:ByteArray):List Ox:=(List.range t.size).map fun k=>insO (leftP S.book off.toNat) (rightP S.book off.toNat) who (kn S who) t k
structure InsOk (S:Dq) (who off:Int) (t:ByteArray):Prop where
 who1:1≤who
 who8:who≤8
 few:t.size≤200
 lets:okText t=true
 off0:0≤off
 off1:off≤(seenP S.book).length
 row:rowE (leftP S.book off.toNat) (rightP S.book off.toNat) who t.size=0
theorem eX:textE t=0↔t.size<=200/\okText t=true:=by
 unfold textE;by_cases h:200<t.size
 ·rw[if_pos h];omega
 ·rw[if_neg h];cases h2:okText t<;>simp<;>omega
theorem bX:aroundE l off=0↔0<=off/\off<=(seenP l).length:=by
 unfold aroundE;by_cases h:off<0\/((seenP l).length:Int)<off
 ·rw[if_pos h];omega
 ·rw[if_neg h];omega
theorem vG:insE S who off t=0↔InsOk S who off t:=by
 unfold insE
 cases hw:Pm.isWho who with
 | false=>
  rw[if_pos rfl]
  refine⟨fun h=>by omega,fun h=> ?_⟩
  have:Pm.isWho who=true:=by unfold Pm.isWho;simp[h.who1,h.who8]
  rw[hw] at this;cases this
 | true=>
  have a:1<=who/\who<=8:=by simpa[Pm.isWho] using hw
  rw[if_neg (by simp)]
  by_cases b:textE t=0
  ·rw[if_neg (by simpa using b)]
   by_cases c:aroundE S.book off=0
   ·rw[if_neg (by simpa using c)]
    obtain⟨d,e⟩:=eX.1 b
    obtain⟨f,g⟩:=bX.1 c
    exact⟨fun h=>⟨a.1,a.2,d,e,f,g,h⟩,fun h=>h.row⟩
   ·rw[if_pos c]
    exact⟨fun h=>by omega,fun h=>absurd (bX.2 ⟨h.off0,h.off1⟩) c⟩
  ·rw[if_pos b]
   exact⟨fun h=>absurd h b,fun h=>absurd (eX.2 ⟨h.few,h.lets⟩) b⟩
theorem iN(hb:Bm.bookE S.book=0)(off:Nat):(leftP S.book off).size<=12/\(rightP S.book off).size<=12/\(off<=(seenP S.book).length->off≠0->Pm.chk (leftP S.book off).toList=0)/\((rightP S.book off).toList=[]\/Pm.chk (rightP S.book off).toList=0):=by
 obtain⟨_,j,l⟩:=Bm.aU.1 hb
 have d:∀x ∈ S.book,x.1.size<=12/\Pm.chk x.1.toList=0:=fun x d=>by
  have a:=(Bm.cG.1 (j x d)).1;have:=(Bm.cS a).2;rw[aJ] at this;exact⟨this,a⟩
 have c:off≠0->off-1<(seenP S.book).length->(leftP S.book off).size<=12/\Pm.chk (leftP S.book off).toList=0:=fun b a=>by
  unfold leftP;rw[if_neg b,qA,qB a];obtain⟨x,k,_,e⟩:=pR (jF a);rw[xT,<-e];exact d x k
 refine⟨?_, ?_,fun h b=>(c b (by omega)).2, ?_⟩
 ·by_cases b:off=0
  ·unfold leftP;rw[if_pos b];exact jW _
  ·by_cases a:off-1<(seenP S.book).length
   ·exact(c b a).1
   ·unfold leftP;rw[if_neg b,qA,jP (by omega)];exact jW _
 ·unfold rightP;by_cases h:nxt S.book off<S.book.length
  ·rw[if_pos h];exact(d _ (Bm.cC h)).1
  ·rw[if_neg h];exact jW _
 ·unfold rightP;by_cases h:nxt S.book off<S.book.length
  ·rw[if_pos h];exact qF (d _ (Bm.cC h)).2
  ·rw[if_neg h];exact qH aFi
def delE (S:Dq) (who a b:Int):Int:=if Pm.isWho who=false then 1 else if a<0∨b<a∨((seenP S.book).length:Int)<b then 1 else 0
def aIl (l:List ByteArray) (who n:Int) (k:Nat):Ox:=((who,n+1+k),2,l.getD k ⟨#[]⟩,0,[])
def aGJ (S:Dq) (a b:Int):List ByteArray:=((seenP S.book).take b.toNat).drop a.toNat
def delL (S:Dq) (who a b:Int):List Ox:=(List.range (b-a).toNat).map fun k=>aIl (aGJ S a b) who (kn S who) k
def atE (S:Dq) (who off:Int):Int:=if Pm.isWho who=false then 1 else if off<0∨((seenP S.book).length:Int)≤off then 1 else 0
def atP (S:Dq) (off:Int):ByteArray:=(seenP S.book).getD off.toNat ⟨#[]⟩
def splL (S:Dq) (who off:Int):List Ox:=[((who,kn S who+1),3,atP S off,0,[])]
def fusE (S:Dq) (who off:Int):Int:=if atE S who off≠0 then atE S who off else if dotsAt S.marks (atP S off)=[] then 5 else 0
def fusL (S:Dq) (who off:Int):List Ox:=[((who,kn S who+1),4,atP S off,0,dotsAt S.marks (atP S off))]
def runE:Dq→List Ox→Int
 | _,[]=>0
 | S,o::r=>if apE S o≠0 then apE S o else runE (apS S o) r
def runS:Dq→List Ox→Dq
 | S,[]=>S
 | S,o::r=>if apE S o≠0 then S else runS (apS S o) r
theorem mQ:∀(L M:List Ox) (S:Dq),runE S (L++M)=(if runE S L≠0 then runE S L else runE (runS S L) M)/\runS S (L++M)=(if runE S L≠0 then runS S L else runS (runS S L) M)
 | [],M,S=>by simp[runE,runS]
 | o::L,M,S=>by
  by_cases h:apE S o=0
  ·have:=mQ L M (apS S o)
   simp only[jJ,runE,runS,if_neg (show¬apE S o≠0 by simpa using h)]
   exact this
  ·simp[runE,runS,h]
theorem aIh{l:List Ox}(hk:k<l.length):l.take (k+1)=l.take k++[l.getD k oz]:=by
 rw[jV,qA,qB hk];rfl
theorem aAe(hk:k<L.length)(h:runE S (L.take k)=0):runE S (L.take (k+1))=apE (runS S (L.take k)) (L.getD k oz)/\(apE (runS S (L.take k)) (L.getD k oz)=0->runS S (L.take (k+1))=apS (runS S (L.take k)) (L.getD k oz)):=by
 rw[aIh hk];obtain⟨b,c⟩:=mQ (L.take k) [L.getD k oz] S;rw[b,c];simp only[if_neg (show¬runE S (L.take k)≠0 by simpa using h),runE,runS];refine⟨?_,fun a=>by rw[if_neg (by simpa using a)]⟩;by_cases a:apE (runS S (L.take k)) (L.getD k oz)=0
 ·rw[if_neg (by simpa using a),a]
 ·rw[if_pos a]
theorem nH(hk:k<L.length)(h:runE S (L.take k)=0)(h9:apE (runS S (L.take k)) (L.getD k oz)≠0):runE S L=apE (runS S (L.take k)) (L.getD k oz)/\runS S L=runS S (L.take k):=by
 have e:L=L.take k++(L.getD k oz::L.drop (k+1)):=by
  rw[qA,qB hk];simp
 obtain⟨a,b⟩:=mQ (L.take k) (L.getD k oz::L.drop (k+1)) S;rw[<-e] at a b;rw[a,b];simp only[if_neg (show¬runE S (L.take k)≠0 by simpa using h),runE,runS,if_pos h9];exact⟨trivial,trivial⟩
theorem iQ(h:apE S o≠0):apS S o=S:=by
 unfold apS
 cases hn:isNew S o with
 | false=>rfl
 | true=>
  obtain⟨a,c,d,b⟩:=aZ.1 hn
  exfalso;apply h
  unfold apE
  rw[if_neg (by simpa using a),if_neg (by omega),if_neg (by omega),if_neg (by omega)]
  exact b
theorem aC9:∀(L:List Ox) {S:Dq},Inv S->Inv (runS S L)
 | [],S,I=>I
 | o::L,S,I=>by
  by_cases h:apE S o=0
  ·simp only[runS,if_neg (show¬apE S o≠0 by simpa using h)]
   exact aC9 L (aCg I)
  ·simp only[runS,if_pos h];exact I
theorem aIH(hk:kn S o.1.1+1=o.1.2)(h:apE S o=0):isNew S o=true:=by
 unfold apE at h;by_cases a:opE o=0
 ·rw[if_neg (by simpa using a),if_neg (by omega),if_neg (by omega)] at h;by_cases b:400<=S.ops.length
  ·rw[if_pos b] at h;omega
  ·rw[if_neg b] at h;exact aZ.2 ⟨a,hk,by omega,h⟩
 ·rw[if_pos a] at h;exact absurd h a
theorem aFQ(h:o ∈ insL S who off t):∃k,k<t.size/\o=insO (leftP S.book off.toNat) (rightP S.book off.toNat) who (kn S who) t k:=by
 unfold insL at h;obtain⟨k,a,e⟩:=xV.1 h;exact⟨k,vW.1 a,e.symm⟩
theorem aDR(hb:Bm.bookE S.book=0)(h:InsOk S who off t):∀x ∈ insL S who off t,x.2.2.1.size<=12:=fun x hx=>by
 obtain⟨k,hk,rfl⟩:=aFQ hx
 exact lT h.row (iN hb _).1 (k+1) (by omega)
end Um
namespace Um
theorem aCx{t:ByteArray}(h:okText t=true){k:Nat}(hk:k<t.size):Bm.isL ((t.toList.getD k 0).toNat:Int)=true:=by
 unfold okText at h;rw[List.all_eq_true] at h;have a:k<t.toList.length:=by rw[aJ];exact hk
 rw[qA,qB a];exact h _ (jF a)
theorem aBj{S:Dq}(I:Inv S){u:Int}(h1:1<=u)(h8:u<=8):0<=kn S u/\kn S u<=S.ops.length:=by
 have h:=I.kno u h1 h8;have:=vQ (fun o:Ox=>decide (o.1.1=u)) S.ops;omega
end Um
end Go.Proofs.YtjcemlmlfoilmaaGreatDoor
