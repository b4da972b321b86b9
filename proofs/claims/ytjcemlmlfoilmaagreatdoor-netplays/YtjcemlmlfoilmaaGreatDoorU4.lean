import Derived.Test.YtjcemlmlfoilmaaGreatDoorU3
import Derived.Test.YtjcemlmlfoilmaaGreatDoorX3
set_option linter.unusedSimpArgs false
set_option linter.unusedVariables false
set_option maxRecDepth 100000
set_option maxHeartbeats 8000000
namespace Go.Proofs.YtjcemlmlfoilmaaGreatDoor
open Go.RowKit Om Oi Hm Um Ub Ac Xp Usp Utp Uup Ia Ic Il Uf
open Go.Proofs.Tryz (prog)
namespace Uvp
open Lj (BookAt)
theorem aCD(t:ByteArray)(M:Nat)(off:Int)(v:Value)(B:Nat)(who n:Int)(l:List Bm.Leaf)(w:World)(hm:t.size<=maxLen)(h:MkAt B w M who n (.slice none 0 0) [])(hbk:∀W,Below B w W->BookAt W v l)(hb0:Bm.bookE l=0)(h1:1<=who)(h8:who<=8)(hB:B<=w.heap.size)(hn0:0<=n)(hn1:n<=400):
  Calls prog 67 #[.pointer (some ⟨M,0,none⟩),v,.int .i64 off,.string t] w (MkPost B w M who (insK l who off t) (insLs (leftP l off.toNat) (rightP l off.toNat) who n t t.size)):=by
 by_cases a:textE t=0
 ·obtain⟨q,c,e,d,_⟩:=hbk w (qD _ _);subst e;by_cases f:l=[]
  ·exact aBm t M off q l.length c B who n l w h a hbk hb0 h1 h8 hB hn0 hn1 (by rw[f];rfl)
  ·obtain⟨b,o,rfl,_⟩:=d.some f;exact aBd t M off b o l.length c B who n l w h a hbk hb0 h1 h8 hB hn0 hn1
 ·refine(aEr t M off v B who n l w hm h a).mono ?_;rintro e w' ⟨i,⟨n',v',L',j,z⟩,k⟩;exact⟨i,⟨n',v',L',j,fun e9=>absurd e9 (by unfold insK;rw[if_pos a];exact a)⟩,k⟩
theorem aH6{S:Dq}{who off:Int}{t:ByteArray}(h1:1<=who)(h8:who<=8):insE S who off t=insK S.book who off t:=by
 unfold insE insK;rw[bN.2 ⟨h1,h8⟩,if_neg (by simp)]
theorem aGp(S:Dq)(who off:Int)(t:ByteArray):insLs (leftP S.book off.toNat) (rightP S.book off.toNat) who (kn S who) t t.size=insL S who off t:=rfl
theorem cH.no{w w':World}{k:Int}{L:List Ox}(hk:k≠0)(hb:zB w w'):cH w k L (.returned (.tuple #[.slice none 0 0,.int .i64 k])) w':=⟨_,rfl,fun e=>absurd e hk,fun _=>rfl,hb⟩
theorem aCA(B:Nat->Prop)(E:Nat)(S:Dq)(F:Nat->Prop)(who off:Int)(t:ByteArray)(w:World)(h:RefAt B w E S F)(hm:t.size<=maxLen):
  Calls prog 42 #[.pointer (some ⟨E,0,none⟩),.int .i64 who,.int .i64 off,.string t] w (cH w (insE S who off t) (insL S who off t)):=by
 cases a:Pm.isWho who with
 | false=>
  have N:Hid (insE S who off t=1):=by unfold Hid insE;rw[if_pos a]
  have C:=tK E who w (fY.1 a)
  clear h a
  go_in
  go_wp2_with fail
  refine C.mono ?_
  rintro e w2 ⟨rfl,a⟩
  have c:=a.symm
  subst c
  clear a C
  go_wp2_with fail
  go_ret2
  rw[N.out]
  exact cH.no (by decide) (qD _ _)
 | true=>
  obtain⟨g,i⟩:=bN.1 a
  obtain⟨y,z,A,V,X,Y,Z,po,no,co,q⟩:=Xt.RefAt.parts h
  have C:=lG B E S F who w h g i
  obtain⟨D,O⟩:=aBj h.inv g i
  have P:=h.inv.few
  have Q:=z9 q
  have r:Hid (∀W,zB w W->MkAt w.heap.size W w.heap.size who (kn S who) (zS) []->Calls prog 67 #[.pointer (some (zW w)),.slice y z A,zI off,.string t] W (MkPost w.heap.size W w.heap.size who (insE S who off t) (insL S who off t))):=fun W hb hmk=>by
   rw[aH6 g i,<-aGp]
   exact aCD t w.heap.size off (.slice y z A) w.heap.size who (kn S who) S.book W hm hmk (fun W2 b=>q.book W2 (hb.trans b)) h.inv.book g i hb.size D (by omega)
  obtain⟨k,G⟩:=zx (insE S who off t)
  rw[<-G] at r |-
  clear h a q g i D O P G hm
  go_in
  go_wp2_with fail
  refine C.mono ?_
  rintro e w2 ⟨rfl,j,b⟩
  have H:=z9 b
  have l:=r.out w2 b j
  have I:=Q.out.c0 w2 b
  clear C j b r
  go_wp2_with fail
  refine l.mono ?_
  rintro e w3 ⟨rfl,⟨R,J,T,d,m⟩,n⟩
  have p:=z9 (H.out.trans n)
  by_cases f:k=0
  ·subst f
   have o:=aDv w.heap.size w.heap.size who R J T w3 d
   have K:Hid (OpsJ (New w.heap.size w3) (New w.heap.size w3) w3 J (insL S who off t)):=by unfold Hid;rw[<-m rfl];exact d.aHV
   obtain⟨p3,m3,c3,rfl,_⟩:=aG d.row
   clear l d m n I
   go_wp2_with fail
   refine o.mono ?_
   rintro e w4 ⟨rfl,a⟩
   have c:=a.symm
   subst c
   clear a o
   go_wp2_with fail
   go_ret2
   exact⟨_,rfl,fun _=>K.out,fun e=>absurd rfl e,p.out⟩
  ·have o:=aDl w.heap.size k w3 f
   have L:=z9 f
   clear l d m n I f
   go_wp2_with fail
   refine o.mono ?_
   rintro e w4 ⟨rfl,a⟩
   have c:=a.symm
   subst c
   clear a o
   go_wp2_with fail
   go_ret2
   exact cH.no L.out p.out
def delLs (S:Dq) (who n:Int) (a k:Nat):List Ox:=(List.range k).map fun (j:Nat)=>((who,n+1+(j:Int)),2,(seenP S.book).getD (a+j) ⟨#[]⟩,0,[])
theorem aBW(S:Dq)(who n:Int)(a k:Nat):delLs S who n a (k+1)=delLs S who n a k++[((who,n+1+(k:Int)),2,(seenP S.book).getD (a+k) ⟨#[]⟩,0,[])]:=by
 unfold delLs;rw[yV,xL];rfl
theorem aGw(S:Dq)(who:Int)(a n:Nat):delLs S who (kn S who) a n=delL S who a ((a+n:Nat):Int):=by
 unfold delLs delL aIl;rw[show(((a+n:Nat):Int)-(a:Int)).toNat=n by omega];refine kD fun k hk=> ?_
 rw[Uq.aC8 (vW.1 hk)]
def delK (l:List Bm.Leaf) (a b:Int):Int:=if a<0∨b<a∨((seenP l).length:Int)<b then 1 else 0
theorem aHv{S:Dq}{who a b:Int}(h1:1<=who)(h8:who<=8):delE S who a b=delK S.book a b:=by
 unfold delE delK;rw[bN.2 ⟨h1,h8⟩,if_neg (by simp)]
theorem aE8(M:Nat)(a b:Int)(q:Option Addr)(m c:Nat)(B:Nat)(who n:Int)(l:List Bm.Leaf)(X:List Ox)(w:World)(h:MkAt B w M who n (.slice none 0 0) [])(hbk:∀W,Below B w W->BookAt W (.slice q m c) l)(hb0:Bm.bookE l=0)(hB:B<=w.heap.size)(ho:a<0\/b<a\/((seenP l).length:Int)<b):
  Calls prog 68 #[.pointer (some ⟨M,0,none⟩),.slice q m c,.int .i64 a,.int .i64 b] w (MkPost B w M who (delK l a b) X):=by
 have g:=z9 h;have f:Hid (delK l a b=1):=by unfold Hid delK;rw[if_pos ho]
 obtain⟨F,G,D,o,_⟩:=hbk w (qD _ _);injection D with e1 e2 e3
 have v:=(Bm.aU.1 hb0).1;have r:=Mb.gA q m c l w e2.symm (by rw[e1];exact o) (Lf.dO hb0).2.2 (by omega);have i:=z9 (kW l);have s:(seenP l).length<=300:=by have:=dA l;omega
 obtain⟨k,p⟩:∃k:ByteArray,k=⟨(Bm.text l).toArray⟩:=⟨_,rfl⟩;rw[<-p] at r i;have E:k.size<=300:=by have:=i.out;omega
 have y:a<0\/(¬a<0/\b<a)\/(¬a<0/\¬b<a/\(k.size:Int)<b):=by have:=i.out;omega
 have z:=z9 hB;clear h hbk hb0 hB ho o v s p e1 e2 e3;rcases y with h1 | ⟨h1,h2⟩ | ⟨h1,h2,h3⟩
 ·go_in;go_wp2_with fail;go_ret;exact⟨by rw[f.out];rfl,⟨_,_,_,g.out,fun e=>absurd e (by rw[f.out];decide)⟩,qD _ _⟩
 ·go_in;go_wp2_with fail;go_ret;exact⟨by rw[f.out];rfl,⟨_,_,_,g.out,fun e=>absurd e (by rw[f.out];decide)⟩,qD _ _⟩
 ·go_in;go_wp2_with fail;refine r.mono ?_;rintro e w2 ⟨rfl,j⟩;have A:=z9 (j.mono z.out);have C:=z9 (g.out.below j);clear j r;go_wp2_with fail;go_ret;exact⟨by rw[f.out];rfl,⟨_,_,_,C.out,fun e=>absurd e (by rw[f.out];decide)⟩,A.out⟩
end Uvp
namespace Uwp
open Oz Uvp
open La (LeafsIn)
open Lj (BookAt)
theorem aBl(M:Nat)(a:Nat)(q:Option Addr)(m c:Nat)(B:Nat)(who n:Int)(l:List Bm.Leaf)(w:World)(h:MkAt B w M who n (.slice none 0 0) [])(hbk:∀W,Below B w W->BookAt W (.slice q m c) l)(hb0:Bm.bookE l=0)(hB:B<=w.heap.size)(ho:a<=(seenP l).length):
  Calls prog 68 #[.pointer (some ⟨M,0,none⟩),.slice q m c,.int .i64 (a:Int),.int .i64 (a:Int)] w (MkPost B w M who 0 []):=by
 have p:=z9 h;obtain⟨C,D,y,i,_⟩:=hbk w (qD _ _);injection y with e1 e2 e3
 have r:=(Bm.aU.1 hb0).1;have k:=Mb.gA q m c l w e2.symm (by rw[e1];exact i) (Lf.dO hb0).2.2 (by omega);have b:=z9 (kW l);have o:(seenP l).length<=300:=by have:=dA l;omega
 obtain⟨g,j⟩:∃g:ByteArray,g=⟨(Bm.text l).toArray⟩:=⟨_,rfl⟩;rw[<-j] at k b;have z:g.size<=300:=by have:=b.out;omega
 have E:¬(a:Int)<0:=by omega
 have F:¬(a:Int)<a:=by omega
 have G:¬(g.size:Int)<a:=by have:=b.out;omega
 have s:=z9 hB;clear h hbk hb0 hB ho i r o j e1 e2 e3;go_in;go_wp2_with fail;refine k.mono ?_;rintro e w2 ⟨rfl,d⟩;have t:=z9 (d.mono s.out);have v:=z9 (p.out.below d);clear d k;go_wp2_with fail;go_loopw [9] (fun vi wr=>vi=zI a/\Hid (wr=w2)) (fun _ _=>0)
 case atStart=>exact⟨rfl,rfl⟩
 case round=>
  obtain⟨rfl,A⟩:=hrel;go_wp2_with fail;go_ret;rw[A.out];exact⟨rfl,⟨_,_,_,v.out,fun _=>rfl⟩,t.out⟩
theorem aAP(S:Dq)(M:Nat)(a N:Nat)(b0 oo0:Nat)(m c:Nat)(B:Nat)(who n:Int)(w:World)(h:MkAt B w M who n (.slice none 0 0) [])(hbk:∀W,Below B w W->BookAt W (.slice (some ⟨b0,oo0,none⟩) m c) S.book)(hb0:Bm.bookE S.book=0)(hB:B<=w.heap.size)(ho:a+N<=(seenP S.book).length)(hn0:0<=n)(hn1:n<=400):
  Calls prog 68 #[.pointer (some ⟨M,0,none⟩),.slice (some ⟨b0,oo0,none⟩) m c,.int .i64 (a:Int),.int .i64 ((a:Int)+N)] w (MkPost B w M who 0 (delLs S who n a N)):=by
 have T:=z9 h
 have t:Hid (∀W,Below B w W->LeafsIn W (some ⟨b0,oo0,none⟩) S.book):=fun W hb=>by
  obtain⟨p9,c9,e9,U,_⟩:=hbk W hb;injection e9 with o z K
  rw[o];exact U
 have V:m=S.book.length:=by
  obtain⟨p9,c9,e9,U,_⟩:=hbk w (qD _ _);injection e9
 have k:=z9 V.symm;have aj:=(Bm.aU.1 hb0).1;have a6:m<=300:=by omega
 have CT:=Mb.gA (some ⟨b0,oo0,none⟩) m c S.book w k.out (t.out w (qD _ _)) (Lf.dO hb0).2.2 (by omega);have CN:Hid (∀W f,Below B w W->0<=f->Calls prog 69 #[.slice (some ⟨b0,oo0,none⟩) m c,zI f] W fun e w'=>e=.returned (zI (Bm.nth S.book 0 f))/\zB W w'):=fun W f hb hf=>Mb.lV (some ⟨b0,oo0,none⟩) m c S.book f W k.out (t.out W hb) (by omega) hf
 have A:Hid (∀W i,Below B w W->i<m->W.cell? ⟨b0,oo0+i*3,none⟩=some (.string (S.book.getD i Bm.none0).1)):=fun W i hb hi=>by
  obtain⟨b,oo,e,hc⟩:=(t.out W hb).some (by intro e;have:=k.out;rw[e] at this;simp at this;omega);injection e with e
  injection e with o z
  rw[o,z];exact(hc i (by rw[k.out];exact hi)).1
 have C:=z9 (kW S.book);have ah:(seenP S.book).length<=300:=by have:=dA S.book;omega
 obtain⟨P,X⟩:∃P:ByteArray,P=⟨(Bm.text S.book).toArray⟩:=⟨_,rfl⟩;rw[<-X] at CT C;have a2:P.size<=300:=by have:=C.out;omega
 have q1:¬(a:Int)<0:=by omega
 have q2:¬(a:Int)+N<a:=by omega
 have q3:¬(P.size:Int)<(a:Int)+N:=by have:=C.out;omega
 have a7:a+N<=300:=by omega
 have HO:=z9 ho;have D:=z9 hB;have Y:Hid (0<=n/\n<=400):=⟨hn0,hn1⟩;clear h hbk hb0 hB ho aj ah X V hn0 hn1;go_in;go_wp2_with fail;refine CT.mono ?_;rintro e w2 ⟨rfl,E⟩;have Z:=z9 (E.mono D.out);have aa:=z9 (T.out.below E);clear E CT T;go_wp2_with fail;go_loopw [9] (fun vi wr=>∃(j:Nat) (v:Value) (L:List (Ox × Value)),j<=N/\vi=zI ((a:Int)+j)/\Hid (MkAt B wr M who (n+j) v L)/\Hid (L.map (·.1)=delLs S who n a j)/\Hid (Below B w wr)) (fun vi _=>a+N-(intOf vi).toNat)
 case atStart=>exact⟨0,zS,[],by omega,by simp,by have R:=aa.out;rw[show n+((0:Nat):Int)=n by omega];exact R,rfl,Z⟩
 case round=>
  clear aa Z;obtain⟨j,v,L,hj,rfl,ab,F,q⟩:=hrel;by_cases a8:j<N
  ·have ak:(a:Int)+j<(a:Int)+N:=by omega
   obtain⟨i,o,z,K,_⟩:=nR (l:=S.book) (r:=a+j) (by have:=HO.out;omega);rw[show((a+j:Nat):Int)=(a:Int)+j by omega] at o;have G:=CN.out wr ((a:Int)+j) q.out (by omega);rw[o] at G;rw[k.out] at z;have a9:(i:Int)<=300:=by omega
   have a5:(i:Int)<m:=by omega
   obtain⟨p,hp⟩:=zx ((seenP S.book).getD (a+j) ⟨#[]⟩);rw[<-hp] at K;have al:=z9 K;have am:L.length=j:=by have R:=congrArg List.length F.out;rw[jM] at R;rw[R];unfold delLs;simp
   have an:Hid (L.length<=1000):=by unfold Hid;omega
   have ao:Hid (delLs S who n a (j+1)=delLs S who n a j++[((who,n+j+1),2,p,0,[])]):=by
    unfold Hid;rw[aBW,hp,show n+1+(j:Int)=n+j+1 by omega]
   clear o K hp am;go_wp2_with fail;refine G.mono ?_;rintro e w3 ⟨rfl,H⟩;have I:=z9 (q.out.trans (H.mono (qO D.out q.out.size)));have s:=A.out w3 i I.out z;rw[al.out] at s;have CA:=nV B M who (n+j) v L 2 p 0 (zS) [] w3 (ab.out.below H) (jT _ _ _ _) (qO D.out I.out.size) (by have:=Y.out.1;omega) (by have:=Y.out.2;omega) an.out;clear G H;go_wp2_with fail;refine CA.mono ?_;rintro e w5 ⟨rfl,v5,ac,ad⟩;have ar:=z9 (I.out.trans ad)
   have au:Hid (MkAt B w5 M who (n+((j+1:Nat):Int)) v5 (L++[(((who,n+j+1),2,p,0,[]),zS)])):=by
    unfold Hid;rw[show n+((j+1:Nat):Int)=n+j+1 by omega];exact ac
   have av:Hid ((L++[(((who,n+j+1),2,p,0,[]),(zS:Value))]:List (Ox × Value)).map (fun y:Ox × Value=>y.1)=delLs S who n a (j+1)):=by
    unfold Hid;rw[xL,F.out,ao.out];rfl
   have ba:IntKind.i64.wrap ((a:Int)+j+1)=(a:Int)+j+1:=bG (by omega) (by omega);clear CA ac ad s;go_wp2_with fail;go_roundw
   case rel=>exact⟨j+1,v5,_,by omega,by first | go_num | (congr 1;omega),au,av,ar⟩
   case measure=>simp[intOf];omega
  ·have ae:j=N:=by omega
   have ak:¬(a:Int)+j<(a:Int)+N:=by omega
   have aw:Hid (L.map (·.1)=delLs S who n a N):=by unfold Hid;rw[<-ae];exact F.out
   clear ae;go_wp2_with fail;go_ret;exact⟨rfl,⟨_,_,_,ab.out,fun _=>aw.out⟩,q.out⟩
theorem aCi(S:Dq)(M:Nat)(a b:Int)(v:Value)(B:Nat)(who n:Int)(w:World)(h:MkAt B w M who n (.slice none 0 0) [])(hbk:∀W,Below B w W->BookAt W v S.book)(hb0:Bm.bookE S.book=0)(hB:B<=w.heap.size)(hn:n=kn S who)(hn0:0<=n)(hn1:n<=400):
  Calls prog 68 #[.pointer (some ⟨M,0,none⟩),v,.int .i64 a,.int .i64 b] w (MkPost B w M who (delK S.book a b) (delL S who a b)):=by
 obtain⟨q,c,e,g,_⟩:=hbk w (qD _ _);subst e;by_cases i:a<0\/b<a\/((seenP S.book).length:Int)<b
 ·exact aE8 M a b q S.book.length c B who n S.book _ w h hbk hb0 hB i
 ·have o:delK S.book a b=0:=by unfold delK;rw[if_neg i]
  obtain⟨x,p⟩:∃x:Nat,a=x:=⟨a.toNat,by omega⟩;obtain⟨N,r⟩:∃N:Nat,b=((x+N:Nat):Int):=⟨(b-a).toNat,by omega⟩;subst p r;rw[o,<-aGw,<-hn];by_cases j:N=0
  ·subst j;have:=aBl M x q S.book.length c B who n S.book w h hbk hb0 hB (by omega);rw[show((x+0:Nat):Int)=(x:Int) by omega];exact this
  ·obtain⟨s,t,rfl,_⟩:=g.some (by intro e;have z:(seenP S.book).length=0:=(by rw[e];rfl);omega);have:=aAP S M x N s t S.book.length c B who n w h hbk hb0 hB (by omega) hn0 hn1;rw[show((x+N:Nat):Int)=(x:Int)+N by omega];exact this
theorem aB6(B:Nat->Prop)(E:Nat)(S:Dq)(F:Nat->Prop)(who a b:Int)(w:World)(h:RefAt B w E S F):
  Calls prog 43 #[.pointer (some ⟨E,0,none⟩),.int .i64 who,.int .i64 a,.int .i64 b] w (cH w (delE S who a b) (delL S who a b)):=by
 cases c:Pm.isWho who with
 | false=>
  have O:Hid (delE S who a b=1):=by unfold Hid delE;rw[if_pos c]
  have C:=tK E who w (fY.1 c)
  clear h c
  go_in
  go_wp2_with fail
  refine C.mono ?_
  rintro e w2 ⟨rfl,c⟩
  have f:=c.symm
  subst f
  clear c C
  go_wp2_with fail
  go_ret2
  rw[O.out]
  exact cH.no (by decide) (qD _ _)
 | true=>
  obtain⟨p,q⟩:=bN.1 c
  obtain⟨z,A,D,X,Y,Z,gk,po,no,co,s⟩:=Xt.RefAt.parts h
  have C:=lG B E S F who w h p q
  obtain⟨G,P⟩:=aBj h.inv p q
  have Q:=h.inv.few
  have R:=z9 s
  have t:Hid (∀W,zB w W->MkAt w.heap.size W w.heap.size who (kn S who) (zS) []->Calls prog 68 #[.pointer (some (zW w)),.slice z A D,zI a,zI b] W (MkPost w.heap.size W w.heap.size who (delE S who a b) (delL S who a b))):=fun W hb hmk=>by
   rw[aHv p q]
   exact aCi S w.heap.size a b (.slice z A D) w.heap.size who (kn S who) W hmk (fun W2 d=>s.book W2 (hb.trans d)) h.inv.book hb.size rfl G (by omega)
  obtain⟨k,H⟩:=zx (delE S who a b)
  rw[<-H] at t |-
  clear h c s p q G P Q H
  go_in
  go_wp2_with fail
  refine C.mono ?_
  rintro e w2 ⟨rfl,j,d⟩
  have I:=z9 d
  have l:=t.out w2 d j
  have J:=R.out.c0 w2 d
  clear C j d t
  go_wp2_with fail
  refine l.mono ?_
  rintro e w3 ⟨rfl,⟨T,K,U,g,m⟩,n⟩
  have r:=z9 (I.out.trans n)
  by_cases i:k=0
  ·subst i
   have o:=aDv w.heap.size w.heap.size who T K U w3 g
   have L:Hid (OpsJ (New w.heap.size w3) (New w.heap.size w3) w3 K (delL S who a b)):=by unfold Hid;rw[<-m rfl];exact g.aHV
   obtain⟨p3,m3,c3,rfl,_⟩:=aG g.row
   clear l g m n J
   go_wp2_with fail
   refine o.mono ?_
   rintro e w4 ⟨rfl,c⟩
   have f:=c.symm
   subst f
   clear c o
   go_wp2_with fail
   go_ret2
   exact⟨_,rfl,fun _=>L.out,fun e=>absurd rfl e,r.out⟩
  ·have o:=aDl w.heap.size k w3 i
   have M:=z9 i
   clear l g m n J i
   go_wp2_with fail
   refine o.mono ?_
   rintro e w4 ⟨rfl,c⟩
   have f:=c.symm
   subst f
   clear c o
   go_wp2_with fail
   go_ret2
   exact cH.no M.out r.out
end Uwp
namespace Uxp
open Oa
def aIW (P:Nat→Prop) (w:World) (E:Nat) (S:Dq) (F:Nat→Prop) (L:List Ox) (e:Ending) (w':World):Prop:=
 e=.returned (.int .i64 (runE S L))∧∃F',RefAt P w' E (runS S L) F'∧Chg F w w'∧∀g,F' g→F g∨w.heap.size≤g
theorem aGk(P:Nat->Prop)(E:Nat)(S:Dq)(F R:Nat->Prop)(v:Value)(L:List Ox)(w:World)(h:RefAt P w E S F)(ho:OpsJ R P w v L)(hR:∀g,R g->g<w.heap.size/\¬F g)(hsz:∀x ∈ L,x.2.2.1.size<=maxLen):
  Calls prog 45 #[.pointer (some ⟨E,0,none⟩),v] w (aIW P w E S F L):=by
 obtain⟨q,c,rfl,Z,au,av,_⟩:=ho;obtain⟨n,hn⟩:=zx L.length;have aw:n<=maxLen:=by omega
 have bl:(n:Int)<=9223372036854775807:=by unfold maxLen at aw;omega
 rw[<-hn];have HN:=z9 hn.symm;have HI:=z9 Z;have HG:=z9 hR;have HP:Hid (∀g,P g->g<w.heap.size/\¬F g):=fun g hg=>⟨h.old g hg,fun e=>(h.lt g e).1 hg⟩
 have ay:=z9 hsz;have ab:=z9 h;clear h Z hR hsz hn au av;go_in;go_wp2_with fail;go_loopw [5] (fun vi wr=>∃(k:Nat) (r:Nat->Prop),k<=n/\vi=zI k/\Hid (RefAt P wr E (runS S (L.take k)) r)/\Hid (∀g,r g->F g\/w.heap.size<=g)/\Hid (Chg F w wr)/\Hid (runE S (L.take k)=0)) (fun vi _=>n-(intOf vi).toNat)
 case atStart=>exact⟨0,F,by omega,rfl,ab,fun g hg=>qH hg,Chg.refl _ _,rfl⟩
 case round=>
  clear ab;obtain⟨k,r,hk,rfl,j,s,b,l⟩:=hrel;by_cases az:k<n
  ·have aj:(k:Int)<n:=by omega
   have a:k<L.length:=by rw[HN.out];exact az
   obtain⟨bo,oo,rfl,_,hc⟩:=(HI.out.stay (b.out.stay HG.out) (b.out.stay HP.out)).some (by intro e;rw[e] at a;simp at a);have ha:=hc k a;have m:=ay.out _ (cP a);obtain⟨t,y⟩:=aAe (S:=S) a l.out;have z:=nH (S:=S) a l.out;obtain⟨x,hx⟩:=zx (L.getD k oz);rw[<-hx] at ha m t y z;have A:=z9 t;have B:=z9 y;have D:=z9 z;obtain⟨⟨O,Q⟩,T,U,V,X⟩:=x;obtain⟨vx,⟨a0,a1,a2,a3,a4,a5⟩,o,ac⟩:=ha;simp only at a0 a1 a2 a3 a4 a5 o m;obtain⟨pv,nv,cv,rfl⟩:∃pv nv cv,vx=.slice pv nv cv:=by obtain⟨_,_,e9,_⟩:=o;exact⟨_,_,_,e9⟩
   obtain⟨Y,ad⟩:=zx (runS S (L.take k));rw[<-ad] at A B D j;have C:=Xs.vH P E Y r O Q T U V (.slice pv nv cv) X wr j.out o ac m;clear hc hx a o m t y z ac ad;go_wp2_with fail;refine C.mono ?_;rintro e w7 ⟨G,H,d,I,J⟩;have ae:=z9 (b.out.next I s.out)
   have af:Hid (∀g,H g->F g\/w.heap.size<=g):=fun g hg=>by
    rcases J g hg with e | e
    ·exact s.out g e
    ·exact qF (qO b.out.size e)
   obtain⟨bn,K⟩:=zx (isNew Y ((O,Q),T,U,V,X));rw[<-K] at G;by_cases f:apE Y ((O,Q),T,U,V,X)=0
   ·rw[f] at G;subst G;have M:Hid (RefAt P w7 E (runS S (L.take (k+1))) H):=by unfold Hid;rw[B.out f];exact d
    have a9:Hid (runE S (L.take (k+1))=0):=by unfold Hid;rw[A.out,f]
    clear d I J K f C a0 a1 a2 a3 a4 a5;go_wp2_with fail;go_roundw
    case rel=>exact⟨k+1,H,by omega,by go_num,M,af,ae,a9⟩
    case measure=>simp[intOf];omega
   ·obtain⟨z1,z2⟩:=D.out f;have ag:=z9 z1;have M:Hid (RefAt P w7 E (runS S L) H):=by unfold Hid;rw[iQ f] at d;rw[z2];exact d
    have HZ:=z9 f;obtain⟨ez,ah⟩:=zx (apE Y ((O,Q),T,U,V,X));rw[<-ah] at G ag HZ;have bm:(ez !=0)=true:=by have:=HZ.out;simpa using this
    subst G;clear d I J K f C a0 a1 a2 a3 a4 a5 z1 z2 ah A B D;go_wp2_with fail;go_ret;exact⟨by rw[ag.out];rfl,H,M.out,ae.out,af.out⟩
  ·obtain rfl:n=k:=by omega
   have aj:¬(n:Int)<n:=by omega
   have bd:Hid (L.take n=L):=by unfold Hid;rw[<-HN.out,yJ]
   go_wp2_with fail;go_ret;rw[bd.out] at j l;exact⟨by rw[l.out];rfl,r,j.out,b.out,s.out⟩
end Uxp
namespace Uyp
open Uvp
open La (bel)
theorem tP:∀(l:List Bm.Leaf) (i:Nat) (r:Int),((seenP l).length:Int)<=r->Bm.nth l i r= -1
 | [],i,r,h=>rfl
 | x::l,i,r,h=>by
  rw[cZ] at h
  unfold Bm.nth
  cases hx:Bm.isS x with
  | true=>
   rw[hx,if_pos rfl,qV] at h
   rw[if_pos rfl,if_neg (by omega)]
   exact tP l (i+1) (r-1) (by omega)
  | false=>
   rw[hx] at h
   rw[if_neg (by simp)]
   exact tP l (i+1) r (by simpa using h)
theorem aBo{S:Dq}{who off:Int}(h:atE S who off≠0):atE S who off=1:=by
 rcases atE_cases S who off with e | e
 ·exact absurd e h
 ·exact e
variable (B:Nat->Prop)(E:Nat)(S:Dq)(F:Nat->Prop)(who:Int)
theorem aAA(off:Int)(f:Bool)(L:List Ox)(w:World)(h:RefAt B w E S F)(h0:atE S who off≠0):
  Calls prog 44 #[.pointer (some ⟨E,0,none⟩),.int .i64 who,.int .i64 off,.bool f] w (cH w 1 L):=by
 obtain⟨D,v,G,T,U,V,X,Y,Z,co,d⟩:=Xt.RefAt.parts h
 have K:=z9 d
 have g:S.book.length=v:=by obtain⟨M,N,y,_⟩:=d.book w (qD _ _);injection y with e1 e2 e3;exact e2.symm
 have p:=bR h.inv
 have k:Hid (∀W,zB w W->0<=off->Calls prog 69 #[.slice D v G,zI off] W fun e w'=>e=.returned (zI (Bm.nth S.book 0 off))/\zB W w'):=fun W hb hf=>Mb.lV D v G S.book off W g (by obtain⟨M,N,y,H,_⟩:=d.book W hb;injection y with e1 e2 e3;rw[e1];exact H) (by omega) hf
 cases a:Pm.isWho who with
 | false=>
  have C:=tK E who w (fY.1 a)
  by_cases O:off<0
  ·clear h h0 d g p a k
   go_in
   go_wp2_with fail
   refine C.mono ?_
   rintro e w2 ⟨rfl,a⟩
   have m:=a.symm
   subst m
   clear a C
   go_wp2_with fail
   go_ret2
   exact cH.no (by decide) (qD _ _)
  ·have j:0<=off:=by omega
   have b:=k.out w (qD _ _) j
   obtain⟨z,I⟩:=zx (Bm.nth S.book 0 off)
   rw[<-I] at b
   have P:=d.c0 w (qD _ _)
   clear h h0 d g p a k I
   go_in
   go_wp2_with fail
   refine C.mono ?_
   rintro e w2 ⟨rfl,a⟩
   have m:=a.symm
   subst m
   clear a C
   go_wp2_with fail
   refine b.mono ?_
   rintro e w3 ⟨rfl,i⟩
   have n:=z9 i
   clear b i
   go_wp2_with fail
   go_ret2
   exact cH.no (by decide) n.out
 | true=>
  obtain⟨r,s⟩:=bN.1 a
  have C:=lG B E S F who w h r s
  by_cases O:off<0
  ·clear h h0 d g p a k r s
   go_in
   go_wp2_with fail
   refine C.mono ?_
   rintro e w2 ⟨rfl,_,c⟩
   have o:=z9 c
   clear c C
   go_wp2_with fail
   go_ret2
   exact cH.no (by decide) o.out
  ·have j:0<=off:=by omega
   have t:((seenP S.book).length:Int)<=off:=by
    by_cases J:off<(seenP S.book).length
    ·exact absurd (fF.2 ⟨⟨r,s⟩,j,J⟩) h0
    ·omega
   have Q:=z9 (tP S.book 0 off t)
   have R:=z9 j
   clear h h0 d g p a r s t
   go_in
   go_wp2_with fail
   refine C.mono ?_
   rintro e w2 ⟨rfl,_,c⟩
   have o:=z9 c
   have b:=k.out w2 c R.out
   rw[Q.out] at b
   have P:=K.out.c0 w2 c
   clear c C k
   go_wp2_with fail
   refine b.mono ?_
   rintro e w3 ⟨rfl,i⟩
   have n:=z9 (bel o.out i)
   clear b i
   go_wp2_with fail
   go_ret2
   exact cH.no (by decide) n.out
theorem aDY(o:Nat)(w:World)(h:RefAt B w E S F)(h0:atE S who o=0):
  Calls prog 44 #[.pointer (some ⟨E,0,none⟩),.int .i64 who,.int .i64 (o:Int),.bool false] w (cH w 0 (splL S who o)):=by
 obtain⟨pb,G,N,pm,nm,cm,gk,po,no,co,j⟩:=Xt.RefAt.parts h;have O:=z9 j;obtain⟨⟨H,I⟩,_,ho⟩:=fF.1 h0;obtain⟨i,s,b,J,_⟩:=nR (l:=S.book) (r:=o) (by omega);obtain⟨P,Q,k,a,_⟩:=j.book w (qD _ _);obtain⟨K,L,R,_⟩:=a.some (by intro e;rw[e] at b;simp at b);injection k with e91 e92 e93
 rw[R] at e91;subst e91;have h3:=bR h.inv
 have T:Hid (∀W,zB w W->Calls prog 69 #[.slice (some ⟨K,L,none⟩) G N,zI (o:Int)] W fun e w'=>e=.returned (zI (i:Int))/\zB W w'):=fun W hb=>by
  rw[<-s];exact Mb.lV (some ⟨K,L,none⟩) G N S.book o W e92.symm (by obtain⟨P,Q,k,a,_⟩:=j.book W hb;injection k with s b J;rw[s];exact a) (by omega) (by omega)
 have t:Hid (∀W,zB w W->W.cell? ⟨K,L+i*3,none⟩=some (.string (atP S o))):=fun W hb=>by
  obtain⟨P,Q,k,a,_⟩:=j.book W hb;injection k with q1 q2 q3
  obtain⟨b1,o1,U,hc⟩:=a.some (by intro e;rw[e] at b;simp at b);rw[U] at q1;injection q1 with q1
  injection q1 with q11 q12
  have:=(hc i b).1;rw[J] at this;rw[q11,q12];unfold atP;rw[xK];exact this
 have C:=lG B E S F who w h H I;obtain⟨V,k1⟩:=aBj h.inv H I;have hf:=h.inv.few;have ak:(i:Int)<G:=by rw[e92];omega
 have ap:(i:Int)<=300:=by omega
 have m:Hid (0<=kn S who/\kn S who<=400):=⟨V,by omega⟩;have M:Hid (splL S who o=[((who,kn S who+1),3,atP S o,0,[])]):=rfl;have aq:¬(o:Int)<0:=by omega
 obtain⟨p,v⟩:=zx (atP S o);rw[<-v] at t M;obtain⟨kk,y⟩:=zx (kn S who);rw[<-y] at m M C;clear h h0 j H I ho s b J a R e92 e93 h3 V k1 hf v y;go_in;go_wp2_with fail;refine C.mono ?_;rintro e w2 ⟨rfl,z,d⟩;have X:=z9 d;have Y:=z9 z;have A:=T.out w2 d;have c0:=O.out.c0 w2 d;clear d C T z;go_wp2_with fail;refine A.mono ?_;rintro e w3 ⟨rfl,n⟩;have f:=z9 (bel X.out n);have Z:=z9 (Y.out.below n);have d0:=O.out.c0 w3 f.out;have dp:=t.out w3 f.out;have CA:=nV w.heap.size w.heap.size who kk (zS) [] 3 p 0 (zS) [] w3 Z.out (jT _ _ _ _) f.out.size m.out.1 (by have:=m.out.2;omega) (by simp);clear A n c0;go_wp2_with fail;refine CA.mono ?_;rintro e w4 ⟨rfl,v4,g,D⟩;have ac:=z9 (f.out.trans D);have ad:Hid (OpsJ (New w.heap.size w4) (New w.heap.size w4) w4 v4 (splL S who o)):=by unfold Hid;rw[M.out];exact g.aHV
 have c2:=aB g.blk (i:=2) (u:=v4) rfl;obtain⟨p4,n4,c4,rfl,_⟩:=aG g.row;clear CA g D d0 dp;go_wp2_with fail;go_ret2;exact⟨_,rfl,fun _=>ad.out,fun e=>absurd rfl e,ac.out⟩
end Uyp
namespace Uzp
open Go.WideShapes Cm Na Im Iq Uvp Uyp
open La (bel aS)
theorem aB7(B:Nat -> Prop)(E:Nat)(S:Dq)(F:Nat -> Prop)(who:Int)(o:Nat)(w:World)(h:RefAt B w E S F)(h0:atE S who o=0):
  Calls prog 44 #[.pointer (some ⟨E,0,none⟩),.int .i64 who,.int .i64 (o:Int),.bool true] w (cH w (fusE S who o) (fusL S who o)):=by
 obtain⟨pb,nb,cb,pm,g,cm,gk,po,no,co,m⟩:=Xt.RefAt.parts h;have HP:=z9 m;obtain⟨⟨h1,h8⟩,_,ho⟩:=fF.1 h0;obtain⟨i,Q,n,e3,_⟩:=nR (l:=S.book) (r:=o) (by omega);obtain⟨p9,c9,J,f,_⟩:=m.book w (qD _ _);obtain⟨b0,o0,hq,_⟩:=f.some (by intro e;rw[e] at n;simp at n);injection J with e91 e92 e93
 rw[hq] at e91;subst e91;have h3:=bR h.inv;have h4:=gX h.inv
 have CN:Hid (∀W,zB w W -> Calls prog 69 #[.slice (some ⟨b0,o0,none⟩) nb cb,zI (o:Int)] W fun e w'=>e=.returned (zI (i:Int)) /\ zB W w'):=fun W hb=>by
  rw[<- Q];exact Mb.lV (some ⟨b0,o0,none⟩) nb cb S.book o W e92.symm (by obtain⟨p9,c9,J,f,_⟩:=m.book W hb;injection J with Q n e3;rw[Q];exact f) (by omega) (by omega)
 have V:Hid (∀W,zB w W -> W.cell? ⟨b0,o0+i*3,none⟩=some (.string (atP S o))):=fun W hb=>by
  obtain⟨p9,c9,J,f,_⟩:=m.book W hb;injection J with q1 q2 q3
  obtain⟨b1,o1,bb,hc⟩:=f.some (by intro e;rw[e] at n;simp at n);rw[bb] at q1;injection q1 with q1
  injection q1 with q11 q12
  have:=(hc i n).1;rw[e3] at this;rw[q11,q12];unfold atP;rw[xK];exact this
 have C:=lG B E S F who w h h1 h8;obtain⟨k0,k1⟩:=aBj h.inv h1 h8;have hf:=h.inv.few;have cd:(i:Int)<nb:=by rw[e92];omega
 have cz:(i:Int) <=300:=by omega
 have K:Hid (0 <=kn S who /\ kn S who <=400):=⟨k0,by omega⟩;obtain⟨p,s⟩:=zx (atP S o);have HL:Hid (fusL S who o=[((who,kn S who+1),4,p,0,dotsAt S.marks p)]):=by unfold Hid fusL;rw[s]
 have HE:Hid (fusE S who o=if dotsAt S.marks p=[] then 5 else 0):=by unfold Hid fusE;rw[if_neg (by simpa using h0),s]
 rw[<- s] at V;have c3:¬(o:Int)<0:=by omega
 obtain⟨kk,X⟩:=zx (kn S who);rw[<- X] at K HL C;have Y:g=S.marks.length:=by obtain⟨p8,c8,e8,_⟩:=m.marks w (qD _ _);injection e8
 have Z:=z9 Y.symm;have b3:g <=40:=by omega
 have bf:Hid (∀W,zB w W -> MarksIn W pm S.marks):=fun W hb=>by
  obtain⟨p8,c8,e8,aw,_⟩:=m.marks W hb;injection e8 with q1 q2 q3
  rw[q1];exact aw
 obtain⟨i0,hi,bg,bh,bi⟩:=info_parts Ni.aDj;clear h h0 m h1 h8 ho Q n e3 f hq e92 e93 h3 h4 k0 k1 hf s X Y;go_in;go_wp2_with fail;refine C.mono ?_;rintro e w2 ⟨rfl,aa,t⟩;have ab:=z9 t;have ac:=z9 aa;have ad:=CN.out w2 t;have c0:=HP.out.c0 w2 t;clear t C CN aa;go_wp2_with fail;refine ad.mono ?_;rintro e w3 ⟨rfl,L⟩;have v:=z9 (bel ab.out L);have bj:=z9 (ac.out.below L);have d0:=HP.out.c0 w3 v.out;have dp:=V.out w3 v.out;clear ad L c0 ac ab;go_wp2_with fail;go_loopw [14,15] (fun d vi wr=>∃(k:Nat),k <=g /\ vi=zI k /\ Hid (wr.ownsRow w3.heap.size 80 2 d (dotsAt (S.marks.take k) p).length (flatD (dotsAt (S.marks.take k) p))) /\ Hid (zB w3 wr)) (fun _ vi _=>g-(intOf vi).toNat)
 case atStart=>exact⟨0,by omega,rfl,jT _ _ _ _,qD _ _⟩
 case round=>
  clear d0 dp;obtain⟨k,hk,rfl,G,H⟩:=hrel;have j:=z9 (bel v.out H.out);have c1:=HP.out.c1 wr j.out;by_cases bk:k<g
  ·have ax:(k:Int)<g:=by omega
   have y:k<S.marks.length:=by rw[Z.out];exact bk
   obtain⟨bm,om,bl,ae⟩:=(bf.out wr j.out).some (by intro e;rw[e] at y;simp at y);subst bl;have ha:=ae k y;obtain⟨x,hx⟩:=zx (S.marks.getD k none1);have M:Hid (dotsAt (S.marks.take (k+1)) p=if x.1=p then dotsAt (S.marks.take k) p++[x.2] else dotsAt (S.marks.take k) p):=Ni.pV y hx;rw[<- hx] at ha;obtain⟨R,x1,x2⟩:=x;obtain⟨a1,a2,a3⟩:=ha;simp only at a1 a2 a3;have N:=Ni.tQ (S.marks.take k) p;rw[qQ] at N;obtain⟨D,hD⟩:=zx (dotsAt (S.marks.take k) p);rw[<- hD] at G M N;have cs:D.length <=40:=by omega
   clear ae hx hD N;by_cases z:R=p
   ·subst z;have bp:Hid (dotsAt (S.marks.take (k+1)) R=D++[(x1,x2)]):=by unfold Hid;rw[M.out,if_pos rfl]
    clear M;have a4:Hid (∀O1,zB w3 (wr.alloc O1)):=fun O1=>H.out.alloc H.out.size O1
    have bq:Hid (∀O1,(wr.alloc O1).ownsRow w3.heap.size 80 2 u14 D.length (flatD D)):=fun O1=>G.out.alloc O1
    have HN:=z9 (Ni.rR wr x1 x2 80);have ag:Hid (∀O1,w3.heap.size <=(wr.alloc O1).heap.size):=fun O1=>by have:=H.out.size;simp;omega
    have T:D.length+1 <=maxLen:=by unfold maxLen;omega
    have U:(D.length+1)*16 <=140737488355328:=by omega
    go_wp2_with (at_builtin;refine wpList_append_own_at _ rfl (.tmp 73) (.tmp 82) 95 rfl w3.heap.size 80 i0 (.agg #[zI 0,zI 0]) 2 16 Tryz.underlying95 hi bg bh bi rfl (by decide) u14 D.length (flatD D) rfl (bq.out _) (zW wr) 1 1 (flatD [(x1,x2)]) rfl rfl HN.out (lM _) T U (ag.out _) ?_;intro v' w5 hown' hgrow _ hat;have O:Hid (zB w3 w5):=aS G.out (a4.out _) hgrow (ag.out _);have ah:=z9 (Ni.lH rfl rfl hown');clear hown' hgrow hat);rw[<- bp.out] at ah;go_roundw
    case rel=>exact⟨k+1,by omega,by go_num,ah,O⟩
    case measure=>simp[intOf];omega
   ·have ai:¬R.toList=p.toList:=fun e=>z (Bm.bytes_inj e)
    have cu:(R.toList==p.toList)=false:=by simpa using ai
    have br:Hid (wr.ownsRow w3.heap.size 80 2 u14 (dotsAt (S.marks.take (k+1)) p).length (flatD (dotsAt (S.marks.take (k+1)) p))):=by
     unfold Hid;rw[M.out,if_neg z];exact G.out
    clear M ai z;go_wp2_with fail;go_roundw
    case rel=>exact⟨k+1,by omega,by go_num,br,H⟩
    case measure=>simp[intOf];omega
  ·have bs:k=g:=by omega
   have ax:¬(k:Int)<g:=by omega
   have aj:Hid (wr.ownsRow w3.heap.size 80 2 u14 (dotsAt S.marks p).length (flatD (dotsAt S.marks p))):=by
    have:=G.out;rwa [qW (by rw[Z.out];omega)] at this
   have a5:=z9 (lR aj.out v.out.size);obtain⟨p4,P,c4,bt,ak⟩:=aG aj.out;subst bt;have bu:=z9 (bj.out.below H.out);clear bs G;by_cases I:dotsAt S.marks p=[]
   ·have al:P=0:=by rw[ak.out,I];rfl
    subst al;have bv:Hid (fusE S who o=5):=by unfold Hid;rw[HE.out,if_pos I]
    clear I;go_wp2_with fail;go_ret2;rw[bv.out];exact cH.no (by decide) j.out
   ·have bw:Hid (fusE S who o=0):=by unfold Hid;rw[HE.out,if_neg I]
    have al:0<P:=by rw[ak.out];exact yF.2 I
    have cx:((P:Int)==0)=false:=by simp;omega
    have cy:¬P=0:=by omega
    have CA:=nV w.heap.size w.heap.size who kk (zS) [] 4 p 0 (.slice p4 P c4) (dotsAt S.marks p) wr bu.out a5.out j.out.size K.out.1 (by have:=K.out.2;omega) (by simp);clear I;go_wp2_with fail;refine CA.mono ?_;rintro e w5 ⟨rfl,v5,A,am⟩;have O:=z9 (j.out.trans am);have b2:Hid (OpsJ (New w.heap.size w5) (New w.heap.size w5) w5 v5 (fusL S who o)):=by unfold Hid;rw[HL.out];exact A.aHV
    have c2:=aB A.blk (i:=2) (u:=v5) rfl;obtain⟨p5,n5,c5,rfl,_⟩:=aG A.row;clear CA A am;go_wp2_with fail;go_ret2;rw[bw.out];exact⟨_,rfl,fun _=>b2.out,fun e=>absurd rfl e,O.out⟩
variable (B:Nat->Prop)(E:Nat)(S:Dq)(F:Nat->Prop)(who off:Int)(w:World)
theorem aEO(h:RefAt B w E S F):
  Calls prog 44 #[.pointer (some ⟨E,0,none⟩),.int .i64 who,.int .i64 off,.bool false] w (cH w (atE S who off) (splL S who off)):=by
 by_cases a:atE S who off=0
 ·obtain⟨_,e,_⟩:=fF.1 a;obtain⟨x,c⟩:∃x:Nat,off=x:=⟨off.toNat,by omega⟩;subst c;rw[a];exact aDY B E S F who x w h a
 ·rw[aBo a];exact aAA B E S F who off false _ w h a
theorem aFM(h:RefAt B w E S F):
  Calls prog 44 #[.pointer (some ⟨E,0,none⟩),.int .i64 who,.int .i64 off,.bool true] w (cH w (fusE S who off) (fusL S who off)):=by
 by_cases a:atE S who off=0
 ·obtain⟨_,e,_⟩:=fF.1 a;obtain⟨x,c⟩:∃x:Nat,off=x:=⟨off.toNat,by omega⟩;subst c;exact aB7 B E S F who x w h a
 ·rw[Ur.aDI a,aBo a];exact aAA B E S F who off true _ w h a
end Uzp
end Go.Proofs.YtjcemlmlfoilmaaGreatDoor
