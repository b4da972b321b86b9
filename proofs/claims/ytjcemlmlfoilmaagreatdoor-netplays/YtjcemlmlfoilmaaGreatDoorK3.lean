import Derived.Test.YtjcemlmlfoilmaaGreatDoorK2
import Derived.Test.YtjcemlmlfoilmaaGreatDoorJ9
set_option linter.unusedVariables false
set_option maxRecDepth 100000
set_option maxHeartbeats 8000000
namespace Go.Proofs.YtjcemlmlfoilmaaGreatDoor
open Go.RowKit Cm Na Om Oz Oa Oi
open Go.Proofs.Tryz (prog)
namespace Ob
open Ka Wp
open La (bel)
theorem rY(a1 a2 b1 b2:Int)(w:World):
  Calls prog 150 #[.agg #[.int .i64 a1,.int .i64 a2],.agg #[.int .i64 b1,.int .i64 b2]] w fun e w'=>e=.returned (.bool (dlt (a1,a2) (b1,b2)))/\zB w w':=by
 have b:Hid (∀O1 O2,zB w ((w.alloc O1).alloc O2)):=fun O1 O2=>(zb w _).alloc (by simp) _
 have a:Hid (dlt (a1,a2) (b1,b2)=(decide (a1<b1)||(decide (a1=b1)&&decide (a2<b2)))):=rfl;by_cases c:a1<b1
 ·rw[a.out,decide_eq_true c];clear a;go_in;go_wp2;go_ret;exact⟨rfl,b.out _ _⟩
 ·by_cases d:a1=b1
  ·subst d;by_cases f:a2<b2
   ·rw[a.out,decide_eq_false c,decide_eq_true rfl,decide_eq_true f];clear a;go_in;go_wp2;go_ret;exact⟨by first | rfl | (refine aW ?_;simp;omega),b.out _ _⟩
   ·rw[a.out,decide_eq_false c,decide_eq_true rfl,decide_eq_false f];clear a;go_in;go_wp2;go_ret;exact⟨by first | rfl | (refine aW ?_;simp;omega),b.out _ _⟩
  ·rw[a.out,decide_eq_false c,decide_eq_false d];have g:(a1==b1)=false:=by simpa using d
   clear a;go_in;go_wp2;go_ret;exact⟨rfl,b.out _ _⟩
theorem aDk(who m:Int)(w:World):
  Calls prog 119 #[.agg #[.int .i64 who,.int .i64 m]] w fun e w'=>e=.returned (.int .i64 (dotE who m))/\zB w w':=by
 go_in
 go_wp2
 all_goals
  go_ret
  refine⟨?_,zb w _⟩
  unfold dotE
  first
   | (rw[if_pos (by omega)];rfl)
   | (rw[if_neg (by omega)];rfl)
def lawAt (t c:Int) (s:List Dt):Int:=if t=1∧isLetter c=false then 1 else if(t≠1∧c≠0)∨(t≠4∧s≠[]) then 3 else if 40<s.length then 4 else dotsE s
theorem dG(n:Int)(w:World):
  Calls prog 41 #[.int .i64 n] w fun e w'=>e=.returned (.bool (isLetter n))/\w'=w:=by
 go_in;go_wp2
 all_goals
  go_ret;exact⟨aW (by first | (simp[isLetter, *];done) | (simp only[isLetter];rw[decide_eq_false (by omega)];rfl)),rfl⟩
theorem aFl(v:Value)(l:List Dt)(w:World)(hA:DtsAt w v l)(hn1:l.length<=40):
  Calls prog 121 #[v] w fun e w'=>e=.returned (.int .i64 (dotsE l))/\zB w w':=by
 obtain⟨p,c,rfl,h,ab,ag,_⟩:=hA
 obtain⟨n,S⟩:∃n,l.length=n:=⟨_,rfl⟩
 rw[S] at ab hn1
 rw[S]
 clear ab ag
 have I:=z9 S
 have HI:=z9 h
 clear S h
 go_in
 go_wp2
 go_loopw [3] (fun i wr=>∃(k:Nat),k<=n/\i=zI k/\Hid (∀j,j<k->dotE (l.getD j noneD).1 (l.getD j noneD).2=0)/\Hid (zB w wr)) (fun i _=>n-(intOf i).toNat)
 case atStart=>exact⟨0,by omega,rfl,fun j d=>absurd d (by omega),qD _ _⟩
 case round=>
  obtain⟨k,hk,rfl,F,r⟩:=hrel
  by_cases H:k<n
  ·have L:(k:Int)<n:=by omega
   obtain⟨b,o,rfl,A⟩:=HI.out.some (by intro e;have:=I.out;rw[e] at this;simp at this;omega)
   have s:k<l.length:=by rw[I.out];exact H
   have M:=(A k s).below r.out (A k s).lt
   obtain⟨x,G⟩:=zx (l.getD k noneD)
   rw[<-G] at M
   have J:=z9 G
   obtain⟨B,D⟩:=x
   obtain⟨V,X⟩:=M
   simp only at V X
   clear A G
   have C:=aDk B D wr
   by_cases K:dotE B D=0
   ·rw[K] at C
    have N:Hid (∀j,j<k+1->dotE (l.getD j noneD).1 (l.getD j noneD).2=0):=by
     intro j d
     rcases jS.1 d with h | rfl
     ·exact F.out j h
     ·rw[<-J.out];exact K
    clear K
    go_wp2_with fail
    refine C.mono ?_
    rintro e w2 ⟨rfl,E⟩
    have O:=z9 (bel r.out E)
    clear E C V X
    go_wp2_with fail
    go_roundw
    case rel=>exact⟨k+1,by omega,by go_num,N,O⟩
    case measure=>simp[intOf];omega
   ·obtain⟨q,t⟩:=zx (dotE B D)
    have P:Hid (dotsE l=q):=by
     unfold Hid;rw[gI s F.out (by rw[<-J.out];exact K),<-J.out,t]
    have ar:(q !=0)=true:=by rw[t];simpa using K
    rw[<-t] at C
    clear K t
    go_wp2_with fail
    refine C.mono ?_
    rintro e w2 ⟨rfl,E⟩
    have O:=z9 (bel r.out E)
    clear E C
    go_wp2_with fail
    go_ret
    exact⟨by rw[P.out];rfl,O.out⟩
  ·obtain rfl:k=n:=by omega
   have HZ:=z9 (all_zero (fun j d=>F.out j (by rw[<-I.out];exact d)))
   clear F H
   go_wp2_with fail
   go_loopw [5] (fun i wr2=>∃(m:Nat),(m=0\/m+1<=k)/\i=zI ((m+1:Nat):Int)/\Hid (∀j,j<m->dlt (l.getD j noneD) (l.getD (j+1) noneD)=true)/\Hid (zB w wr2)) (fun i _=>k+1-(intOf i).toNat)
   case atStart=>exact⟨0,qH rfl,rfl,fun j d=>absurd d (by omega),r⟩
   case round=>
    clear r
    obtain⟨m,hm,rfl,F,r⟩:=hrel
    by_cases H:m+1<k
    ·obtain⟨j,d⟩:∃j:Nat,j=m+1:=⟨_,rfl⟩
     have L:(j:Int)<k:=by omega
     obtain⟨b,o,rfl,A⟩:=HI.out.some (by intro e;have:=I.out;rw[e] at this;simp at this;omega)
     have s:m+1<l.length:=by rw[I.out];exact H
     have M:=(A (m+1) s).below r.out (A (m+1) s).lt
     have hb:=(A m (by omega)).below r.out (A m (by omega)).lt
     obtain⟨x,G⟩:=zx (l.getD (m+1) noneD)
     obtain⟨y,hy⟩:=zx (l.getD m noneD)
     rw[<-G,<-d] at M
     rw[<-hy] at hb
     have J:=z9 G
     have HY:=z9 hy
     obtain⟨B,D⟩:=x
     obtain⟨Y,Z⟩:=y
     obtain⟨V,X⟩:=M
     obtain⟨c1,c2⟩:=hb
     simp only at V X c1 c2
     have C2:=fun W=>rY Y Z B D W
     have au:IntKind.i64.wrap ((j:Int)-1)=(m:Int):=by rw[show(j:Int)-1=(m:Int) by omega];exact bG (by omega) (by omega)
     have av:(m:Int)<k:=by omega
     have HJ:=z9 d
     rw[<-d]
     clear A G hy
     cases t:dlt (Y,Z) (B,D)
     ·rw[t] at C2
      have P:=z9 (gL HZ.out s (by rw[<-J.out,<-HY.out];exact t))
      clear t d
      go_wp2_with fail
      go_region_held3 (fun W=>W.cell? ⟨b,o+m*2,none⟩=some (zI Y)/\W.cell? ⟨b,o+m*2+1,none⟩=some (zI Z)/\W.cell? ⟨b,o+j*2,none⟩=some (zI B)/\W.cell? ⟨b,o+j*2+1,none⟩=some (zI D)) (first | (go_keep;done) | (refine⟨aA a ?_,aA a ?_,aA a ?_,aA a ?_⟩<;>(go_split_ands;assumption))) (first
       | (go_at_call 150;refine(C2 _).mono ?_;rintro e w7 ⟨rfl,a⟩;have Q:=z9 (bel r.out.drew a)))
      all_goals
       go_wp2_with fail
       go_ret
       exact⟨by rw[P.out];rfl,Q.out⟩
     ·rw[t] at C2
      have N:Hid (∀i,i<m+1->dlt (l.getD i noneD) (l.getD (i+1) noneD)=true):=by
       intro i hi
       rcases jS.1 hi with h | rfl
       ·exact F.out i h
       ·rw[<-J.out,<-HY.out];exact t
      clear t d
      go_wp2_with fail
      go_region_held3 (fun W=>W.cell? ⟨b,o+m*2,none⟩=some (zI Y)/\W.cell? ⟨b,o+m*2+1,none⟩=some (zI Z)/\W.cell? ⟨b,o+j*2,none⟩=some (zI B)/\W.cell? ⟨b,o+j*2+1,none⟩=some (zI D)) (first | (go_keep;done) | (refine⟨aA a ?_,aA a ?_,aA a ?_,aA a ?_⟩<;>(go_split_ands;assumption))) (first
       | (go_at_call 150;refine(C2 _).mono ?_;rintro e w7 ⟨rfl,a⟩;have Q:=z9 (bel r.out.drew a)))
      all_goals
       go_wp2_with fail
       go_roundw
       case rel=>exact⟨m+1,qF (by omega),by rw[HJ.out];go_num,N,Q⟩
       case measure=>have:=HJ.out;simp[intOf];omega
    ·have P:=z9 (nQ HZ.out (fun i hi=>F.out i (by rw[I.out] at hi;omega)))
     obtain⟨j,d⟩:∃j:Nat,j=m+1:=⟨_,rfl⟩
     have L:¬(j:Int)<k:=by omega
     rw[<-d]
     clear d hm
     go_wp2_with fail
     go_ret
     exact⟨by rw[P.out];rfl,r.out⟩
theorem dR(a b t:Int)(p:ByteArray)(c:Int)(vs:Value)(s:List Dt)(w:World)(hp:p.size<=maxLen)(hd:DtsAt w vs s):
  Calls prog 91 #[.agg #[.int .i64 a,.int .i64 b,.int .i64 t,.string p,.int .i64 c,vs]] w fun e w'=>e=.returned (.int .i64 (opE ((a,b),t,p,c,s)))/\zB w w':=by
 have r:Hid (zB w (w.alloc (.cells #[zI a,zI b,zI t,.string p,zI c,vs] 97))):=(qD _ w).alloc (qC _) _;have D:Hid (Six (w.alloc (.cells #[zI a,zI b,zI t,.string p,zI c,vs] 97)) w.heap.size a b t p c vs):=aT _ _ _ _ _ _ _ _;have k:=fun W=>aDk a b W
 have m:=fun W=>bM p W hp
 have o:=fun W=>dG c W
 have y:Hid (s.length<=40->∀W,zB w W->Calls prog 121 #[vs] W fun e w'=>e=.returned (zI (dotsE s))/\zB W w'):=fun h W hb=>aFl vs s W (hd.below hb) h
 have v:Hid True:=trivial;obtain⟨ps,cs,X,_,ad,ae,_⟩:=id hd;obtain⟨n,U⟩:=zx s.length;have af:n<=maxLen:=by omega
 unfold maxLen at af;have O:Hid (s=[]↔n=0):=by rw[U];exact List.length_eq_zero_iff.symm
 rw[<-U] at X y;have P:=z9 U.symm;subst X;clear U ad ae;by_cases E:dotE a b=0
 case neg=>
  obtain⟨q,L⟩:=zx (dotE a b);have ak:(q==0)=false:=by rw[L];simpa using E
  have ag:(q !=0)=true:=by rw[L];simpa using E
  have j:Hid (opE ((a,b),t,p,c,s)=q):=by
   unfold Hid opE;simp only;rw[if_pos E,L]
  rw[<-L] at k;clear E L m o y;clear hp hd v;go_in;go_wp2_with fail;refine(k _).mono ?_;rintro e w2 ⟨rfl,d⟩;have i:=z9 (bel r.out d);obtain⟨F,G,H,I,J,K⟩:=D.out.below d;clear d k;go_wp2_with fail;go_ret;exact⟨by rw[j.out];rfl,i.out⟩
 rw[E] at k;by_cases N:t<1\/4<t
 ·have j:Hid (opE ((a,b),t,p,c,s)=1):=by
   unfold Hid opE;simp only;rw[if_neg (by simpa using E),if_pos N]
  clear E m o y;by_cases h3:t<1
  ·clear N;clear hp hd v;go_in;go_wp2_with fail;refine(k _).mono ?_;rintro e w2 ⟨rfl,d⟩;have i:=z9 (bel r.out d);obtain⟨F,G,H,I,J,K⟩:=D.out.below d;clear d k;go_wp2_with fail;go_ret;exact⟨by rw[j.out];rfl,i.out⟩
  ·have h4:4<t:=by omega
   clear N;clear hp hd v;go_in;go_wp2_with fail;refine(k _).mono ?_;rintro e w2 ⟨rfl,d⟩;have i:=z9 (bel r.out d);obtain⟨F,G,H,I,J,K⟩:=D.out.below d;clear d k;go_wp2_with fail;go_ret;exact⟨by rw[j.out];rfl,i.out⟩
 have h3:¬t<1:=by omega
 have h4:¬4<t:=by omega
 by_cases R:Pm.chk p.toList=0
 case neg=>
  obtain⟨q,L⟩:=zx (Pm.chk p.toList);have ag:(q !=0)=true:=by rw[L];simpa using R
  have j:Hid (opE ((a,b),t,p,c,s)=q):=by
   unfold Hid opE;simp only;rw[if_neg (by simpa using E),if_neg N,if_pos R,L]
  rw[<-L] at m;clear E N R L o y;clear hp hd v;go_in;go_wp2_with fail;refine(k _).mono ?_;rintro e w2 ⟨rfl,d⟩;have i:=z9 (bel r.out d);obtain⟨F,G,H,I,J,K⟩:=D.out.below d;clear d k;go_wp2_with fail;refine(m _).mono ?_;rintro e w3 ⟨rfl,f⟩;have g:=f.symm;subst g;clear f m;go_wp2_with fail;go_ret;exact⟨by rw[j.out];rfl,i.out⟩
 rw[R] at m
 have HL:Hid (opE ((a,b),t,p,c,s)=lawOf ((a,b),t,p,c,s)):=by
  unfold Hid opE;simp only;rw[if_neg (by simpa using E),if_neg N,if_neg (by simpa using R)]
 rw[HL.out];have Y:Hid (lawOf ((a,b),t,p,c,s)=lawAt t c s):=rfl;rw[Y.out];clear E N R HL Y;by_cases z:t=1
 ·subst z;cases hl:isLetter c
  ·rw[hl] at o
   have j:Hid (lawAt 1 c s=1):=by
    unfold Hid lawAt;rw[if_pos ⟨rfl,hl⟩]
   rw[j.out];clear j hl y;clear hp hd v;go_in;go_wp2_with fail;refine(k _).mono ?_;rintro e w2 ⟨rfl,d⟩;have i:=z9 (bel r.out d);obtain⟨F,G,H,I,J,K⟩:=D.out.below d;clear d k;go_wp2_with fail;refine(m _).mono ?_;rintro e w3 ⟨rfl,f⟩;have g:=f.symm;subst g;clear f m;go_wp2_with fail;refine(o _).mono ?_;rintro e w3 ⟨rfl,f⟩;have g:=f.symm;subst g;clear f o;go_wp2_with fail;go_ret;exact⟨rfl,i.out⟩
  ·rw[hl] at o;by_cases A:n=0
   ·have j:Hid (lawAt 1 c s=dotsE s):=by
     unfold Hid lawAt;rw[if_neg (fun e=>by rw[hl] at e;exact absurd e.2 (by decide)),if_neg (fun e=>by rcases e with⟨e,_⟩ | ⟨_,e⟩;exact e rfl;exact e (O.out.2 A)),if_neg (by rw[P.out];omega)]
    rw[j.out];have B:=z9 (y.out (by omega));clear j hl y;subst A;clear hp hd v;go_in;go_wp2_with fail;refine(k _).mono ?_;rintro e w2 ⟨rfl,d⟩;have i:=z9 (bel r.out d);obtain⟨F,G,H,I,J,K⟩:=D.out.below d;clear d k;go_wp2_with fail;refine(m _).mono ?_;rintro e w3 ⟨rfl,f⟩;have g:=f.symm;subst g;clear f m;go_wp2_with fail;refine(o _).mono ?_;rintro e w3 ⟨rfl,f⟩;have g:=f.symm;subst g;clear f o;go_wp2_with fail;refine(B.out _ i.out).mono ?_;rintro e w4 ⟨rfl,C⟩;have M:=z9 (bel i.out C);clear C B;go_wp2_with fail;go_ret;exact⟨rfl,M.out⟩
   ·have j:Hid (lawAt 1 c s=3):=by
     unfold Hid lawAt;rw[if_neg (fun e=>by rw[hl] at e;exact absurd e.2 (by decide)),if_pos (qF ⟨by decide,fun e=>A (O.out.1 e)⟩)]
    rw[j.out];have hz:(0:Int)<n:=by omega
    clear j hl y A;clear hp hd v;go_in;go_wp2_with fail;refine(k _).mono ?_;rintro e w2 ⟨rfl,d⟩;have i:=z9 (bel r.out d);obtain⟨F,G,H,I,J,K⟩:=D.out.below d;clear d k;go_wp2_with fail;refine(m _).mono ?_;rintro e w3 ⟨rfl,f⟩;have g:=f.symm;subst g;clear f m;go_wp2_with fail;refine(o _).mono ?_;rintro e w3 ⟨rfl,f⟩;have g:=f.symm;subst g;clear f o;go_wp2_with fail;go_ret;exact⟨rfl,i.out⟩
 ·have Z:(t==1)=false:=by simpa using z
  have aa:(t !=1)=true:=by simpa using z
  by_cases V:c=0
  case neg=>
   have j:Hid (lawAt t c s=3):=by
    unfold Hid lawAt;rw[if_neg (fun e=>z e.1),if_pos (qH ⟨z,V⟩)]
   rw[j.out];have al:(c !=0)=true:=by simpa using V
   clear j y V z;clear hp hd v;go_in;go_wp2_with fail;refine(k _).mono ?_;rintro e w2 ⟨rfl,d⟩;have i:=z9 (bel r.out d);obtain⟨F,G,H,I,J,K⟩:=D.out.below d;clear d k;go_wp2_with fail;refine(m _).mono ?_;rintro e w3 ⟨rfl,f⟩;have g:=f.symm;subst g;clear f m;go_wp2_with fail;refine(o _).mono ?_;rintro e w3 ⟨rfl,f⟩;have g:=f.symm;subst g;clear f o;go_wp2_with fail;go_ret;exact⟨rfl,i.out⟩
  subst V;by_cases S:t=4
  ·subst S;by_cases Q:40<n
   ·have j:Hid (lawAt 4 0 s=4):=by
     unfold Hid lawAt;rw[if_neg (fun e=>z e.1),if_neg (fun e=>by rcases e with⟨_,e⟩ | ⟨e,_⟩<;>exact e rfl),if_pos (by rw[P.out];exact Q)]
    rw[j.out];have hz:(40:Int)<n:=by omega
    clear j y Q z Z aa;clear hp hd v;go_in;go_wp2_with fail;refine(k _).mono ?_;rintro e w2 ⟨rfl,d⟩;have i:=z9 (bel r.out d);obtain⟨F,G,H,I,J,K⟩:=D.out.below d;clear d k;go_wp2_with fail;refine(m _).mono ?_;rintro e w3 ⟨rfl,f⟩;have g:=f.symm;subst g;clear f m;go_wp2_with fail;refine(o _).mono ?_;rintro e w3 ⟨rfl,f⟩;have g:=f.symm;subst g;clear f o;go_wp2_with fail;go_ret;exact⟨rfl,i.out⟩
   ·have j:Hid (lawAt 4 0 s=dotsE s):=by
     unfold Hid lawAt;rw[if_neg (fun e=>z e.1),if_neg (fun e=>by rcases e with⟨_,e⟩ | ⟨e,_⟩<;>exact e rfl),if_neg (by rw[P.out];exact Q)]
    rw[j.out];have B:=z9 (y.out (by omega));have hz:¬(40:Int)<n:=by omega
    clear j y Q z Z aa;clear hp hd v;go_in;go_wp2_with fail;refine(k _).mono ?_;rintro e w2 ⟨rfl,d⟩;have i:=z9 (bel r.out d);obtain⟨F,G,H,I,J,K⟩:=D.out.below d;clear d k;go_wp2_with fail;refine(m _).mono ?_;rintro e w3 ⟨rfl,f⟩;have g:=f.symm;subst g;clear f m;go_wp2_with fail;refine(o _).mono ?_;rintro e w3 ⟨rfl,f⟩;have g:=f.symm;subst g;clear f o;go_wp2_with fail;refine(B.out _ i.out).mono ?_;rintro e w4 ⟨rfl,C⟩;have M:=z9 (bel i.out C);clear C B;go_wp2_with fail;go_ret;exact⟨rfl,M.out⟩
  ·have am:(t !=4)=true:=by simpa using S
   by_cases A:n=0
   ·have j:Hid (lawAt t 0 s=dotsE s):=by
     unfold Hid lawAt;rw[if_neg (fun e=>z e.1),if_neg (fun e=>by rcases e with⟨_,e⟩ | ⟨_,e⟩;exact e rfl;exact e (O.out.2 A)),if_neg (by rw[P.out];omega)]
    rw[j.out];have B:=z9 (y.out (by omega));clear j y z S;subst A;clear hp hd v;go_in;go_wp2_with fail;refine(k _).mono ?_;rintro e w2 ⟨rfl,d⟩;have i:=z9 (bel r.out d);obtain⟨F,G,H,I,J,K⟩:=D.out.below d;clear d k;go_wp2_with fail;refine(m _).mono ?_;rintro e w3 ⟨rfl,f⟩;have g:=f.symm;subst g;clear f m;go_wp2_with fail;refine(o _).mono ?_;rintro e w3 ⟨rfl,f⟩;have g:=f.symm;subst g;clear f o;go_wp2_with fail;refine(B.out _ i.out).mono ?_;rintro e w4 ⟨rfl,C⟩;have M:=z9 (bel i.out C);clear C B;go_wp2_with fail;go_ret;exact⟨rfl,M.out⟩
   ·have j:Hid (lawAt t 0 s=3):=by
     unfold Hid lawAt;rw[if_neg (fun e=>z e.1),if_pos (qF ⟨S,fun e=>A (O.out.1 e)⟩)]
    rw[j.out];have hz:(0:Int)<n:=by omega
    clear j y A z S;clear hp hd v;go_in;go_wp2_with fail;refine(k _).mono ?_;rintro e w2 ⟨rfl,d⟩;have i:=z9 (bel r.out d);obtain⟨F,G,H,I,J,K⟩:=D.out.below d;clear d k;go_wp2_with fail;refine(m _).mono ?_;rintro e w3 ⟨rfl,f⟩;have g:=f.symm;subst g;clear f m;go_wp2_with fail;refine(o _).mono ?_;rintro e w3 ⟨rfl,f⟩;have g:=f.symm;subst g;clear f o;go_wp2_with fail;go_ret;exact⟨rfl,i.out⟩
end Ob
namespace Ol
open La (bel aC)
theorem iY{n m a b:Int}:decide (((n,a):Dt)=(m,b))=(n==m&&a==b):=by
 rw[xP];simp
theorem oI(n m a b:Int)(w:World):(binOp .eql 80 (.agg #[.int .i64 n,.int .i64 a]) (.agg #[.int .i64 m,.int .i64 b])).run prog w=.ok (.bool (decide (((n,a):Dt)=(m,b)))) w:=by
 have u3:=Tryz.underlying3;have g:=Tryz.isAgg3;have h:=Tryz.sizeOf3;have c:prog.underlying 80=some (.struct (prog.fieldsOf 80)):=by kernel_rfl
 have d:prog.stoodInHeld 80=false:=by kernel_rfl
 rw[run_eql_struct,show(10000:Nat)=9999+1 from rfl,run_equalIn_agg w 9999 80 _ _ c d];simp only[Program.fieldsOf,Tryz.underlying80];rw[iY];go_simp;by_cases e:n=m<;>by_cases f:a=b<;>simp[e,f]
theorem aHy(n m a b:Int)(w:World):(binOp .neq 80 (.agg #[.int .i64 n,.int .i64 a]) (.agg #[.int .i64 m,.int .i64 b])).run prog w=.ok (.bool (!decide (((n,a):Dt)=(m,b)))) w:=by
 have u3:=Tryz.underlying3;have g:=Tryz.isAgg3;have h:=Tryz.sizeOf3;have c:prog.underlying 80=some (.struct (prog.fieldsOf 80)):=by kernel_rfl
 have d:prog.stoodInHeld 80=false:=by kernel_rfl
 rw[run_neq_struct,show(10000:Nat)=9999+1 from rfl,run_equalIn_agg w 9999 80 _ _ c d];simp only[Program.fieldsOf,Tryz.underlying80];rw[iY];go_simp;by_cases e:n=m<;>by_cases f:a=b<;>simp[e,f]
theorem fD(v u:Value)(a b:List Dt)(w:World)(h1:DtsAt w v a)(h2:DtsAt w u b)(hn:a.length<=1048576):
  Calls prog 60 #[v,u] w fun e w'=>e=.returned (.bool (decide (a=b)))/\zB w w':=by
 obtain⟨p,c,rfl,t,_⟩:=h1;obtain⟨q,d,rfl,z,_⟩:=h2;obtain⟨n,A⟩:∃n,a.length=n:=⟨_,rfl⟩;obtain⟨m,E⟩:∃m,b.length=m:=⟨_,rfl⟩;rw[A,E];rw[A] at hn;by_cases hnm:n=m
 ·subst hnm;have r:=z9 A;have s:=z9 E;have X:=z9 t;have Y:=z9 z;clear A E t z;go_in;go_wp2;go_loopw [5] (fun i wr=>∃k:Nat,k<=n/\i=zI k/\Hid (∀j,j<k->a.getD j noneD=b.getD j noneD)/\Hid (zB w wr)) (fun i _=>n-(intOf i).toNat)
  case atStart=>exact⟨0,by omega,rfl,fun j hj=>absurd hj (by omega),qD _ _⟩
  case round=>
   obtain⟨k,hk,rfl,M,g⟩:=hrel;by_cases o:k<n
   ·have Z:(k:Int)<n:=by omega
    obtain⟨b1,o1,rfl,I⟩:=X.out.some (by intro e;have:=r.out;rw[e] at this;simp at this;omega);obtain⟨b2,o2,rfl,J⟩:=Y.out.some (by intro e;have:=s.out;rw[e] at this;simp at this;omega);have N:=(I k (by rw[r.out];exact o)).below g.out (I k (by rw[r.out];exact o)).lt;have O:=(J k (by rw[s.out];exact o)).below g.out (J k (by rw[s.out];exact o)).lt;obtain⟨x,K⟩:=zx (a.getD k noneD);obtain⟨y,L⟩:=zx (b.getD k noneD);rw[<-K] at N;rw[<-L] at O;have P:=z9 K;have Q:=z9 L;clear K L I J;obtain⟨F,G⟩:=x;obtain⟨H,by'⟩:=y;obtain⟨x1,x2⟩:=N;obtain⟨y1,y2⟩:=O;simp only at x1 x2 y1 y2;have R:∀w,(binOp .neq 80 (.agg #[zI F,zI G]) (.agg #[zI H,zI by'])).run prog w=.ok (.bool (!decide (((F,G):Dt)=(H,by')))) w:=fun w=>aHy F H G by' w
    have hg:prog.eqGuardType prog.depth 80=false:=by kernel_rfl
    by_cases f:((F,G):Dt)=(H,by')
    ·rw[decide_eq_true f] at R;have S:=z9 f;clear f;go_wp2;go_quiet (fail)
     go_wp2;go_roundw
     case rel=>exact⟨k+1,by omega,by go_num,fun j hj=>by
      rcases jS.1 hj with h | rfl
      ·exact M.out j h
      ·rw[<-P.out,<-Q.out];exact S.out,aC g.out _⟩
     case measure=>simp[intOf];omega
    ·rw[decide_eq_false f] at R
     have T:Hid (decide (a=b)=false):=by
      rw[Hid,decide_eq_false_iff_not];intro e;apply f;rw[P.out,Q.out,e]
     clear f;go_wp2;go_quiet (fail)
     go_wp2;go_ret;exact⟨by rw[T.out];rfl,aC g.out _⟩
   ·obtain rfl:k=n:=by omega
    have U:Hid (decide (a=b)=true):=by
     rw[Hid,decide_eq_true_eq];apply yE;intro i;by_cases B:i<k
     ·have:=M.out i B;rw[qA,qA,qB (by rw[r.out];exact B),qB (by rw[s.out];exact B)] at this;rw[qB (by rw[r.out];exact B),qB (by rw[s.out];exact B)];simpa using this
     ·rw[jP (by rw[r.out];omega),jP (by rw[s.out];omega)]
    go_wp2;go_ret;exact⟨by rw[U.out];rfl,g.out⟩
 ·have hnm':((n:Int)==(m:Int))=false:=by simp;omega
  have HE:Hid (decide (a=b)=false):=by
   rw[Hid,decide_eq_false_iff_not];rintro rfl;omega
  clear A E t z;go_in;go_wp2;go_ret;exact⟨by rw[HE.out];rfl,qD _ _⟩
theorem aHQ(w:World)(xa xb xt:Int)(xp:ByteArray)(xc:Int)(xv:Value)(ya yb yt:Int)(yp:ByteArray)(yc:Int)(yv:Value)(w2:World)(hb:Below ((w.alloc (.cells #[.int .i64 xa,.int .i64 xb,.int .i64 xt,.string xp,.int .i64 xc,xv] 97)).alloc (.cells #[.int .i64 ya,.int .i64 yb,.int .i64 yt,.string yp,.int .i64 yc,yv] 97)).heap.size ((w.alloc (.cells #[.int .i64 xa,.int .i64 xb,.int .i64 xt,.string xp,.int .i64 xc,xv] 97)).alloc (.cells #[.int .i64 ya,.int .i64 yb,.int .i64 yt,.string yp,.int .i64 yc,yv] 97)) w2):
  Six w2 w.heap.size xa xb xt xp xc xv/\Six w2 (w.heap.size+1) ya yb yt yp yc yv:=by
 constructor
 ·have a:=aT w xa xb xt xp xc xv 97;exact(a.below (zb _ _)).below hb
 ·have a:=aT (w.alloc (.cells #[zI xa,zI xb,zI xt,.string xp,zI xc,xv] 97)) ya yb yt yp yc yv 97;rw[show(w.alloc (.cells #[zI xa,zI xb,zI xt,.string xp,zI xc,xv] 97)).heap.size=w.heap.size+1 by simp] at a;exact a.below hb
theorem aIb(xa xb xt:Int)(xp:ByteArray)(xc:Int)(xv:Value)(xs:List Dt)(ya yb yt:Int)(yp:ByteArray)(yc:Int)(yv:Value)(ys:List Dt)(w:World)(h1:DtsAt w xv xs)(h2:DtsAt w yv ys)(hn:xs.length<=1048576):
  Calls prog 38 #[.agg #[.int .i64 xa,.int .i64 xb,.int .i64 xt,.string xp,.int .i64 xc,xv],.agg #[.int .i64 ya,.int .i64 yb,.int .i64 yt,.string yp,.int .i64 yc,yv]] w fun e w'=>
   e=.returned (.bool (decide ((((xa,xb),xt,xp,xc,xs):Ox)=((ya,yb),yt,yp,yc,ys))))/\zB w w':=by
 have n:Hid (zB w ((w.alloc (.cells #[zI xa,zI xb,zI xt,.string xp,zI xc,xv] 97)).alloc (.cells #[zI ya,zI yb,zI yt,.string yp,zI yc,yv] 97))):=((qD _ w).alloc (qC _) _).alloc (by simp) _;have C:=fD xv yv xs ys ((w.alloc (.cells #[zI xa,zI xb,zI xt,.string xp,zI xc,xv] 97)).alloc (.cells #[zI ya,zI yb,zI yt,.string yp,zI yc,yv] 97)) (h1.below n.out) (h2.below n.out) hn;obtain⟨o,p,rfl,_⟩:=h1;obtain⟨q,r,rfl,_⟩:=h2;obtain⟨s,t⟩:=zx xs.length;obtain⟨v,y⟩:=zx ys.length;rw[<-t,<-y] at C;rw[<-t,<-y];have k:Hid (∀w2,Below ((w.alloc (.cells #[zI xa,zI xb,zI xt,.string xp,zI xc,(.slice o s p)] 97)).alloc (.cells #[zI ya,zI yb,zI yt,.string yp,zI yc,(.slice q v r)] 97)).heap.size ((w.alloc (.cells #[zI xa,zI xb,zI xt,.string xp,zI xc,(.slice o s p)] 97)).alloc (.cells #[zI ya,zI yb,zI yt,.string yp,zI yc,(.slice q v r)] 97)) w2->Six w2 w.heap.size xa xb xt xp xc (.slice o s p)/\Six w2 (w.heap.size+1) ya yb yt yp yc (.slice q v r)):=fun w2 hb=>aHQ w _ _ _ _ _ _ _ _ _ _ _ _ w2 hb
 have l:Hid (∀w2,Below ((w.alloc (.cells #[zI xa,zI xb,zI xt,.string xp,zI xc,(.slice o s p)] 97)).alloc (.cells #[zI ya,zI yb,zI yt,.string yp,zI yc,(.slice q v r)] 97)).heap.size ((w.alloc (.cells #[zI xa,zI xb,zI xt,.string xp,zI xc,(.slice o s p)] 97)).alloc (.cells #[zI ya,zI yb,zI yt,.string yp,zI yc,(.slice q v r)] 97)) w2->zB w w2):=fun w2 hb=>bel (((qD _ w).alloc (qC _) _).alloc (by simp) _) hb
 have N:∀w,(binOp .eql 80 (.agg #[zI xa,zI xb]) (.agg #[zI ya,zI yb])).run prog w=.ok (.bool (decide (((xa,xb):Dt)=(ya,yb)))) w:=fun w=>oI xa ya xb yb w
 have R:prog.eqGuardType prog.depth 80=false:=by kernel_rfl
 clear t y hn n;by_cases f:xs=ys
 case neg=>
  rw[decide_eq_false f] at C
  have b:Hid (decide ((((xa,xb),xt,xp,xc,xs):Ox)=((ya,yb),yt,yp,yc,ys))=false):=by
   rw[Hid,decide_eq_false_iff_not];intro e;exact f (congrArg (fun z:Ox=>z.2.2.2.2) e)
  clear f;go_in;go_wp2_with fail;refine C.mono ?_;rintro e w2 ⟨rfl,a⟩;obtain⟨⟨A,B,D,E,F,G⟩,⟨H,I,J,K,L,M⟩⟩:=k.out w2 a;have c:=z9 (l.out w2 a);clear a C;go_wp2_with fail;go_ret;exact⟨by rw[b.out];rfl,c.out⟩
 rw[decide_eq_true f] at C;by_cases g:((xa,xb):Dt)=(ya,yb)
 case neg=>
  rw[decide_eq_false g] at N
  have b:Hid (decide ((((xa,xb),xt,xp,xc,xs):Ox)=((ya,yb),yt,yp,yc,ys))=false):=by
   rw[Hid,decide_eq_false_iff_not];intro e;exact g (congrArg (fun z:Ox=>z.1) e)
  clear g f;go_in;go_wp2_with fail;refine C.mono ?_;rintro e w2 ⟨rfl,a⟩;obtain⟨⟨A,B,D,E,F,G⟩,⟨H,I,J,K,L,M⟩⟩:=k.out w2 a;have c:=z9 (l.out w2 a);clear a C;go_wp2_with fail;go_ret;exact⟨by rw[b.out];rfl,c.out⟩
 rw[decide_eq_true g] at N;by_cases h:xt=yt
 case neg=>
  have O:(xt==yt)=false:=by simpa using h
  have b:Hid (decide ((((xa,xb),xt,xp,xc,xs):Ox)=((ya,yb),yt,yp,yc,ys))=false):=by
   rw[Hid,decide_eq_false_iff_not];intro e;exact h (congrArg (fun z:Ox=>z.2.1) e)
  clear g h f;go_in;go_wp2_with fail;refine C.mono ?_;rintro e w2 ⟨rfl,a⟩;obtain⟨⟨A,B,D,E,F,G⟩,⟨H,I,J,K,L,M⟩⟩:=k.out w2 a;have c:=z9 (l.out w2 a);clear a C;go_wp2_with fail;go_ret;exact⟨by rw[b.out];rfl,c.out⟩
 have O:(xt==yt)=true:=by simpa using h
 by_cases j:xp=yp
 case neg=>
  have P:(xp.toList==yp.toList)=false:=by
   cases h9:(xp.toList==yp.toList)
   ·rfl
   ·exact absurd (mk_eq (by simpa using h9)) j
  have b:Hid (decide ((((xa,xb),xt,xp,xc,xs):Ox)=((ya,yb),yt,yp,yc,ys))=false):=by
   rw[Hid,decide_eq_false_iff_not];intro e;exact j (congrArg (fun z:Ox=>z.2.2.1) e)
  clear g h j f;go_in;go_wp2_with fail;refine C.mono ?_;rintro e w2 ⟨rfl,a⟩;obtain⟨⟨A,B,D,E,F,G⟩,⟨H,I,J,K,L,M⟩⟩:=k.out w2 a;have c:=z9 (l.out w2 a);clear a C;go_wp2_with fail;go_ret;exact⟨by rw[b.out];rfl,c.out⟩
 have P:(xp.toList==yp.toList)=true:=by rw[j];simp
 by_cases m:xc=yc
 case neg=>
  have Q:(xc==yc)=false:=by simpa using m
  have b:Hid (decide ((((xa,xb),xt,xp,xc,xs):Ox)=((ya,yb),yt,yp,yc,ys))=false):=by
   rw[Hid,decide_eq_false_iff_not];intro e;exact m (congrArg (fun z:Ox=>z.2.2.2.1) e)
  clear g h j m f;go_in;go_wp2_with fail;refine C.mono ?_;rintro e w2 ⟨rfl,a⟩;obtain⟨⟨A,B,D,E,F,G⟩,⟨H,I,J,K,L,M⟩⟩:=k.out w2 a;have c:=z9 (l.out w2 a);clear a C;go_wp2_with fail;go_ret;exact⟨by rw[b.out];rfl,c.out⟩
 have Q:(xc==yc)=true:=by simpa using m
 have b:Hid (decide ((((xa,xb),xt,xp,xc,xs):Ox)=((ya,yb),yt,yp,yc,ys))=true):=by
  rw[Hid,decide_eq_true_eq,g,h,j,m,f]
 clear g h j m f;go_in;go_wp2_with fail;refine C.mono ?_;rintro e w2 ⟨rfl,a⟩;obtain⟨⟨A,B,D,E,F,G⟩,⟨H,I,J,K,L,M⟩⟩:=k.out w2 a;have c:=z9 (l.out w2 a);clear a C;go_wp2_with fail;go_ret;exact⟨by rw[b.out];rfl,c.out⟩
theorem aFA(v u:Value)(a b:List Ox)(w:World)(h1:OpsAt w v a)(h2:OpsAt w u b)(hn:a.length<=1048576)(hm:∀x ∈ a,x.2.2.2.2.length<=1048576):
  Calls prog 17 #[v,u] w fun e w'=>e=.returned (.bool (decide (a=b)))/\zB w w':=by
 obtain⟨p,c,rfl,O,_⟩:=h1
 obtain⟨q,d,rfl,P,_⟩:=h2
 obtain⟨n,Q⟩:∃n,a.length=n:=⟨_,rfl⟩
 obtain⟨m,Y⟩:∃m,b.length=m:=⟨_,rfl⟩
 rw[Q,Y]
 rw[Q] at hn
 by_cases hnm:n=m
 ·subst hnm
  have R:=z9 Q
  have S:=z9 Y
  have HF:=z9 O
  have HG:=z9 P
  have HM:=z9 hm
  clear Q Y O P hm
  go_in
  go_wp2
  go_loopw [5] (fun i wr=>∃k:Nat,k<=n/\i=zI k/\Hid (∀j,j<k->a.getD j oz=b.getD j oz)/\Hid (zB w wr)) (fun i _=>n-(intOf i).toNat)
  case atStart=>exact⟨0,by omega,rfl,fun j hj=>absurd hj (by omega),qD _ _⟩
  case round=>
   obtain⟨k,hk,rfl,HK,A⟩:=hrel
   by_cases ag:k<n
   ·have a3:(k:Int)<n:=by omega
    obtain⟨o,r,rfl,c1⟩:=HF.out.some (by intro e;have:=R.out;rw[e] at this;simp at this;omega)
    obtain⟨s,t,rfl,c2⟩:=HG.out.some (by intro e;have:=S.out;rw[e] at this;simp at this;omega)
    have T:k<a.length:=by rw[R.out];exact ag
    have e1:=(c1 k T).below A.out
    have e2:=(c2 k (by rw[S.out];exact ag)).below A.out
    have B:=HM.out _ (cP T)
    obtain⟨x,hx⟩:=zx (a.getD k oz)
    obtain⟨y,hy⟩:=zx (b.getD k oz)
    rw[<-hx] at e1 B
    rw[<-hy] at e2
    have HX:=z9 hx
    have HY:=z9 hy
    clear hx hy c1 c2 T
    obtain⟨⟨E,F⟩,G,H,I,xs⟩:=x
    obtain⟨⟨J,K⟩,L,M,N,ys⟩:=y
    obtain⟨xv,⟨x0,x1,x2,x3,x4,x5⟩,C⟩:=e1
    obtain⟨yv,⟨y0,y1,y2,y3,y4,y5⟩,D⟩:=e2
    simp only at x0 x1 x2 x3 x4 x5 C y0 y1 y2 y3 y4 y5 D B
    have Z:Hid (∀W,zB wr W->Calls prog 38 #[.agg #[zI E,zI F,zI G,.string H,zI I,xv],.agg #[zI J,zI K,zI L,.string M,zI N,yv]] W fun e w'=>e=.returned (.bool (decide ((((E,F),G,H,I,xs):Ox)=((J,K),L,M,N,ys))))/\zB W w'):=fun W hW=>aIb E F G H I xv xs J K L M N yv ys W (C.below hW) (D.below hW) B
    obtain⟨px,nx,cx,rfl⟩:∃px nx cx,xv=.slice px nx cx:=by obtain⟨_,_,e9,_⟩:=C;exact⟨_,_,_,e9⟩
    obtain⟨py,ny,cy,rfl⟩:∃py ny cy,yv=.slice py ny cy:=by obtain⟨_,_,e9,_⟩:=D;exact⟨_,_,_,e9⟩
    clear C D B
    by_cases z:(((E,F),G,H,I,xs):Ox)=((J,K),L,M,N,ys)
    ·rw[decide_eq_true z] at Z
     have aw:=z9 z
     clear z
     go_wp2_with fail
     go_region_held3 (fun W=>W.cell? ⟨o,r+k*6,none⟩=some (zI E)/\W.cell? ⟨o,r+k*6+1,none⟩=some (zI F)/\W.cell? ⟨o,r+k*6+2,none⟩=some (zI G)/\W.cell? ⟨o,r+k*6+3,none⟩=some (.string H)/\W.cell? ⟨o,r+k*6+4,none⟩=some (zI I)/\W.cell? ⟨o,r+k*6+5,none⟩=some ((.slice px nx cx))/\W.cell? ⟨s,t+k*6,none⟩=some (zI J)/\W.cell? ⟨s,t+k*6+1,none⟩=some (zI K)/\W.cell? ⟨s,t+k*6+2,none⟩=some (zI L)/\W.cell? ⟨s,t+k*6+3,none⟩=some (.string M)/\W.cell? ⟨s,t+k*6+4,none⟩=some (zI N)/\W.cell? ⟨s,t+k*6+5,none⟩=some ((.slice py ny cy))) (first | (go_keep;done) | (refine⟨aA f ?_,aA f ?_,aA f ?_,aA f ?_,aA f ?_,aA f ?_,aA f ?_,aA f ?_,aA f ?_,aA f ?_,aA f ?_,aA f ?_⟩<;>(go_split_ands;assumption))) (first
      | (go_at_call 38;refine(Z.out _ ((qD _ wr).drew)).mono ?_;rintro e w7 ⟨rfl,f⟩;have U:=z9 (bel A.out.drew f)))
     all_goals
      go_wp2_with fail
      go_roundw
      case rel=>exact⟨k+1,by omega,by go_num,fun j hj=>by
       rcases jS.1 hj with h | rfl
       ·exact HK.out j h
       ·rw[<-HX.out,<-HY.out];exact aw.out,U⟩
      case measure=>simp[intOf];omega
    ·rw[decide_eq_false z] at Z
     have ax:Hid (decide (a=b)=false):=by
      rw[Hid,decide_eq_false_iff_not];intro e
      apply z;rw[HX.out,HY.out,e]
     clear z
     go_wp2_with fail
     go_region_held3 (fun W=>W.cell? ⟨o,r+k*6,none⟩=some (zI E)/\W.cell? ⟨o,r+k*6+1,none⟩=some (zI F)/\W.cell? ⟨o,r+k*6+2,none⟩=some (zI G)/\W.cell? ⟨o,r+k*6+3,none⟩=some (.string H)/\W.cell? ⟨o,r+k*6+4,none⟩=some (zI I)/\W.cell? ⟨o,r+k*6+5,none⟩=some ((.slice px nx cx))/\W.cell? ⟨s,t+k*6,none⟩=some (zI J)/\W.cell? ⟨s,t+k*6+1,none⟩=some (zI K)/\W.cell? ⟨s,t+k*6+2,none⟩=some (zI L)/\W.cell? ⟨s,t+k*6+3,none⟩=some (.string M)/\W.cell? ⟨s,t+k*6+4,none⟩=some (zI N)/\W.cell? ⟨s,t+k*6+5,none⟩=some ((.slice py ny cy))) (first | (go_keep;done) | (refine⟨aA f ?_,aA f ?_,aA f ?_,aA f ?_,aA f ?_,aA f ?_,aA f ?_,aA f ?_,aA f ?_,aA f ?_,aA f ?_,aA f ?_⟩<;>(go_split_ands;assumption))) (first
      | (go_at_call 38;refine(Z.out _ ((qD _ wr).drew)).mono ?_;rintro e w7 ⟨rfl,f⟩;have U:=z9 (bel A.out.drew f)))
     all_goals
      go_wp2_with fail
      go_ret
      exact⟨by rw[ax.out];rfl,U.out⟩
   ·obtain rfl:k=n:=by omega
    have ay:Hid (decide (a=b)=true):=by
     rw[Hid,decide_eq_true_eq]
     apply yE
     intro i
     by_cases V:i<k
     ·have:=HK.out i V
      rw[qA,qA,qB (by rw[R.out];exact V),qB (by rw[S.out];exact V)] at this
      rw[qB (by rw[R.out];exact V),qB (by rw[S.out];exact V)]
      simpa using this
     ·rw[jP (by rw[R.out];omega),jP (by rw[S.out];omega)]
    go_wp2
    go_ret
    exact⟨by rw[ay.out];rfl,A.out⟩
 ·have hnm':((n:Int)==(m:Int))=false:=by simp;omega
  have HE:Hid (decide (a=b)=false):=by
   rw[Hid,decide_eq_false_iff_not];rintro rfl;omega
  clear Q Y O P
  go_in
  go_wp2
  go_ret
  exact⟨by rw[HE.out];rfl,qD _ _⟩
end Ol
namespace Hb
open Ol Hm
open La (bel aC)
theorem eS{w w2:World}{x:Dt}{t:TypeId}(hb:Below (w.alloc (.cells #[.int .i64 x.1,.int .i64 x.2] t)).heap.size (w.alloc (.cells #[.int .i64 x.1,.int .i64 x.2] t)) w2):
  w2.cell? ⟨w.heap.size,0,none⟩=some (.int .i64 x.1)/\w2.cell? ⟨w.heap.size,1,none⟩=some (.int .i64 x.2):=by
 have a:w.heap.size<(w.alloc (.cells #[zI x.1,zI x.2] t)).heap.size:=by simp
 have b:(w.alloc (.cells #[zI x.1,zI x.2] t)).heap[w.heap.size]? =some (.cells #[zI x.1,zI x.2] t):=heap_alloc_new w _;refine⟨(hb.cell (p:=(zW w)) a).trans ?_,(hb.cell (p:=⟨w.heap.size,1,none⟩) a).trans ?_⟩<;>(simp only[World.cell?,b];rfl)
theorem aCK(v:Value)(l:List Dt)(p1 p2:Int)(w:World)(h:DtsAt w v l)(hn:l.length<=1048576):
  Calls prog 124 #[v,.agg #[.int .i64 p1,.int .i64 p2]] w fun e w'=>e=.returned (.bool (decide ((p1,p2) ∈ l)))/\zB w w':=by
 obtain⟨q,c,rfl,y,_⟩:=h;obtain⟨n,d⟩:∃n,l.length=n:=⟨_,rfl⟩;rw[d] at hn;rw[d];have B:=z9 d;have M:=z9 y;have F:Hid (zB w (w.alloc (.cells #[zI p1,zI p2] 80))):=(qD _ w).alloc (qC _) _;have G:Hid ((w.alloc (.cells #[zI p1,zI p2] 80)).cell? (zW w)=some (zI p1)/\(w.alloc (.cells #[zI p1,zI p2] 80)).cell? ⟨w.heap.size,1,none⟩=some (zI p2)):=eS (x:=(p1,p2)) (qD _ _);clear d y;go_in;go_wp2;go_loopw [5] (fun vi wr=>∃(k:Nat),k<=n/\vi=zI k/\Hid (∀j,j<k->l.getD j noneD≠(p1,p2))/\Hid (zB w wr)/\Hid (wr.cell? (zW w)=some (zI p1)/\wr.cell? ⟨w.heap.size,1,none⟩=some (zI p2))) (fun vi _=>n-(intOf vi).toNat)
 case atStart=>exact⟨0,by omega,rfl,fun j g=>absurd g (by omega),F,G⟩
 case round=>
  obtain⟨k,R,rfl,H,r,z⟩:=hrel;by_cases I:k<n
  ·have N:(k:Int)<n:=by omega
   obtain⟨b,o,rfl,C⟩:=M.out.some (by intro e;have:=B.out;rw[e] at this;simp at this;omega);have i:k<l.length:=by rw[B.out];exact I
   have J:=(C k i).below r.out (C k i).lt;obtain⟨x,D⟩:=zx (l.getD k noneD);rw[<-D] at J;have K:=z9 D;obtain⟨s,t⟩:=x;obtain⟨O,P⟩:=J;simp only at O P;obtain⟨S,T⟩:=z.out;have L:∀w,(binOp .eql 80 (.agg #[zI s,zI t]) (.agg #[zI p1,zI p2])).run prog w=.ok (.bool (decide (((s,t):Dt)=(p1,p2)))) w:=fun w=>oI s p1 t p2 w
   have U:prog.eqGuardType prog.depth 80=false:=by kernel_rfl
   clear C D;by_cases a:((s,t):Dt)=(p1,p2)
   ·rw[decide_eq_true a] at L
    have E:Hid (decide ((p1,p2) ∈ l)=true):=by
     rw[Hid,decide_eq_true_eq,<-a,K.out];exact cC i
    clear a;go_wp2;go_quiet (fail)
    go_wp2;go_ret;exact⟨by rw[E.out];rfl,aC r.out _⟩
   ·rw[decide_eq_false a] at L
    have Q:Hid (∀j,j<k+1->l.getD j noneD≠(p1,p2)):=by
     intro j g;rcases jS.1 g with h | rfl
     ·exact H.out j h
     ·rw[<-K.out];exact fun e=>a e
    clear a;go_wp2;go_quiet (fail)
    go_wp2;go_roundw
    case rel=>exact⟨k+1,by omega,by go_num,Q,aC r.out _,z.out⟩
    case measure=>simp[intOf];omega
  ·obtain rfl:k=n:=by omega
   have E:Hid (decide ((p1,p2) ∈ l)=false):=by
    rw[Hid,decide_eq_false_iff_not];intro h;obtain⟨j,g,e⟩:=yA.1 h;have:=H.out j (by rw[<-B.out];exact g);rw[qA,qB g] at this;exact absurd e this
   go_wp2;go_ret;exact⟨by rw[E.out];rfl,r.out⟩
theorem aFK{l:List Ox}{k:Nat}(hk:k<l.length)(p:ByteArray)(d:Dt):saw (l.take (k+1)) p d=(saw (l.take k) p d||(decide ((l.getD k oz).2.1=4)&&(decide ((l.getD k oz).2.2.1=p)&&decide (d ∈ (l.getD k oz).2.2.2.2)))):=by
 rw[jV,qB hk,qA,qB hk];exact oE
theorem aE2{l:List Ox}{k:Nat}(hk:k<l.length){p:ByteArray}{d:Dt}(h:(decide ((l.getD k oz).2.1=4)&&(decide ((l.getD k oz).2.2.1=p)&&decide (d ∈ (l.getD k oz).2.2.2.2)))=true):saw l p d=true:=by
 simp only[qX,decide_eq_true_eq] at h;exact aAl.2 ⟨_,cP hk,h.1,h.2.1,h.2.2⟩
theorem gZ(D:Nat)(v:Value)(l:List Ox)(p:ByteArray)(a b:Int)(w:World)(hD:w.cell? ⟨D,3,none⟩=some v)(h:OpsAt w v l)(hn:l.length<=400)(hm:∀x ∈ l,x.2.2.2.2.length<=1048576):
  Calls prog 94 #[.pointer (some ⟨D,0,none⟩),.string p,.agg #[.int .i64 a,.int .i64 b]] w fun e w'=>e=.returned (.bool (saw l p (a,b)))/\zB w w':=by
 obtain⟨q,c,rfl,Q,_⟩:=h;obtain⟨n,M⟩:∃n,l.length=n:=⟨_,rfl⟩;rw[M] at hn hD;have V:=z9 M;have HI:=z9 Q;have HM:=z9 hm;have HD:Hid (∀W,zB w W->W.cell? ⟨D,3,none⟩=some (.slice q n c)):=fun W hb=>aA hb hD
 have R:Hid ((w.alloc (.cells #[zI a,zI b] 80)).cell? (zW w)=some (zI a)/\(w.alloc (.cells #[zI a,zI b] 80)).cell? ⟨w.heap.size,1,none⟩=some (zI b)):=eS (x:=(a,b)) (qD _ _);have S:Hid (zB w (w.alloc (.cells #[zI a,zI b] 80))):=(qD _ w).alloc (qC _) _;clear M Q hm hD;have a9:(n:Int)<=400:=by omega
 go_in;go_wp2_with fail;go_loopw [7] (fun vi wr=>∃(k:Nat),k<=n/\vi=zI k/\Hid (saw (l.take k) p (a,b)=false)/\Hid (zB w wr)/\Hid (wr.cell? (zW w)=some (zI a)/\wr.cell? ⟨w.heap.size,1,none⟩=some (zI b))) (fun vi _=>n-(intOf vi).toNat)
 case atStart=>exact⟨0,by omega,rfl,rfl,S,R⟩
 case round=>
  clear R S;obtain⟨k,hk,rfl,HS,O,HX⟩:=hrel;have d3:=HD.out _ O.out;obtain⟨X,Y⟩:=HX.out;by_cases ab:k<n
  ·have Z:(k:Int)<n:=by omega
   obtain⟨bo,oo,rfl,hc⟩:=HI.out.some (by intro e;have:=V.out;rw[e] at this;simp at this;omega);have r:k<l.length:=by rw[V.out];exact ab
   have ha:=(hc k r).below O.out;have A:=HM.out _ (cP r);have s:=aFK r p (a,b);have t:Hid ((decide ((l.getD k oz).2.1=4)&&(decide ((l.getD k oz).2.2.1=p)&&decide ((a,b) ∈ (l.getD k oz).2.2.2.2)))=true->saw l p (a,b)=true):=fun h=>aE2 r h
   obtain⟨x,hx⟩:=zx (l.getD k oz);rw[<-hx] at ha A s t;rw[HS.out,Bool.false_or] at s;obtain⟨⟨H,I⟩,i,f,J,xs⟩:=x;obtain⟨vx,⟨a0,a1,a2,a3,a4,a5⟩,B⟩:=ha;simp only at a0 a1 a2 a3 a4 a5 B A s t;have d:=z9 s;obtain⟨j,m,o,rfl⟩:∃j m o,vx=.slice j m o:=by obtain⟨_,_,e9,_⟩:=B;exact⟨_,_,_,e9⟩
   have E:Hid (zB wr (wr.alloc (.cells #[zI H,zI I,zI i,.string f,zI J,.slice j m o] 97))):=(qD _ _).alloc (qC _) _;have C:=aCK (.slice j m o) xs a b (wr.alloc (.cells #[zI H,zI I,zI i,.string f,zI J,.slice j m o] 97)) (B.below E.out) A;obtain⟨tb,T⟩:=zx (decide ((a,b) ∈ xs));rw[<-T] at C d t;have H6:Hid (∀W,Below (wr.alloc (.cells #[zI H,zI I,zI i,.string f,zI J,.slice j m o] 97)).heap.size (wr.alloc (.cells #[zI H,zI I,zI i,.string f,zI J,.slice j m o] 97)) W->Six W wr.heap.size H I i f J (.slice j m o)/\zB wr W):=fun W hb=>⟨(aT wr H I i f J (.slice j m o) 97).below hb,bel E.out hb⟩
   have y0:=aA E.out X;have y1:=aA E.out Y;clear hc hx s B A r T;go_wp2_with fail;refine C.mono ?_;rintro e w2 ⟨rfl,U⟩;obtain⟨⟨e0,e1,e2,e3,e4,e5⟩,F⟩:=H6.out w2 U;have G:=z9 (bel O.out F);have N:Hid (w2.cell? (zW w)=some (zI a)/\w2.cell? ⟨w.heap.size,1,none⟩=some (zI b)):=⟨aA F X,aA F Y⟩;clear U C F a0 a1 a2 a3 a4 a5 X Y d3 y0 y1;by_cases z:i=4
   ·have am:(i==4)=true:=by simpa using z
    by_cases K:f=p
    ·have an:(f.toList==p.toList)=true:=by rw[K];simp
     rw[decide_eq_true z,decide_eq_true K,yY,yY] at d t;clear z K;cases tb
     ·go_wp2_with fail;go_roundw
      case rel=>exact⟨k+1,by omega,by go_num,d,G,N⟩
      case measure=>simp[intOf];omega
     ·have hF:=t.out rfl;go_wp2_with fail;go_ret;exact⟨by rw[hF];rfl,G.out⟩
    ·have an:(f.toList==p.toList)=false:=by
      cases P:(f.toList==p.toList)
      ·rfl
      ·exact absurd (mk_eq (by simpa using P)) K
     rw[decide_eq_false K,Bool.false_and,Bool.and_false] at d;clear z K;go_wp2_with fail;go_roundw
     case rel=>exact⟨k+1,by omega,by go_num,d,G,N⟩
     case measure=>simp[intOf];omega
   ·have am:(i==4)=false:=by simpa using z
    rw[decide_eq_false z,Bool.false_and] at d;clear z;go_wp2_with fail;go_roundw
    case rel=>exact⟨k+1,by omega,by go_num,d,G,N⟩
    case measure=>simp[intOf];omega
  ·obtain rfl:n=k:=by omega
   have Z:¬(n:Int)<n:=by omega
   have HE:Hid (saw l p (a,b)=false):=by
    have P:=HS.out;rw[qW (by rw[V.out];exact qC _)] at P;exact P
   go_wp2_with fail;go_ret;exact⟨by rw[HE.out];rfl,O.out⟩
end Hb
end Go.Proofs.YtjcemlmlfoilmaaGreatDoor
