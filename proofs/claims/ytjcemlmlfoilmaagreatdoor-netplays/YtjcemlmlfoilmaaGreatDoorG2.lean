import Derived.Test.YtjcemlmlfoilmaaGreatDoorG1
import Derived.Test.YtjcemlmlfoilmaaGreatDoorN1
import Derived.Test.YtjcemlmlfoilmaaGreatDoorO2
set_option linter.unusedSimpArgs false
set_option linter.unusedVariables false
set_option maxRecDepth 100000
set_option maxHeartbeats 8000000
namespace Go.Proofs.YtjcemlmlfoilmaaGreatDoor
open Go.RowKit Oz Hm Ic Um Hc Hj Cm Hd Gp Ia
open Go.Proofs.Tryz (prog)
namespace Gr
open Hk Iq
theorem rN{w:World}{E:Nat}{S:Dq}{F:Nat->Prop}(h:RefD w E S F):∃p n c,Hid (w.cell? ⟨E,0,none⟩=some (.slice p n c))/\Hid (∀W,zB w W->Calls prog 14 #[.slice p n c] W fun e w'=>e=.returned (.string ⟨(Bm.text S.book).toArray⟩)/\zB W w'):=by
 obtain⟨P,G,⟨I,m,o,q,r,a⟩,_⟩:=h;obtain⟨d,f,g,s,_⟩:=a.book;subst g;refine⟨d,S.book.length,f,aB a.blk (i:=0) rfl,fun W hb=> ?_⟩;obtain⟨t,v,j,k,_⟩:=a.book.below hb;injection j with e1 _ e3
 subst e1 e3;exact Mb.gA d _ f _ W rfl k (Lf.dO I.book).2.2 (by have:=Il.bR I;omega)
theorem bG{x:Int}(h1: -1000000<=x)(h2:x<=1000000):IntKind.i64.wrap x=x:=by rw[IntKind.wrap_i64];omega
theorem aAu(X gD n cD i E:Nat)(b c:Int)(S:Dq)(F:Nat->Prop)(w:World)(hi:i<n)(hn:n<=4)(hX:∀W,zB w W->W.cell? ⟨X,0,none⟩=some (.slice (some ⟨gD,0,none⟩) n cD))(hE:∀W,zB w W->W.cell? ⟨gD,i,none⟩=some (.pointer (some ⟨E,0,none⟩)))(h:RefD w E S F)(hsz:edE S ((i:Int)+1) (2,i,b,c)=0->∀x ∈ edL S ((i:Int)+1) (2,i,b,c),x.2.2.1.size<=maxLen):
  Calls prog 22 #[.pointer (some ⟨X,0,none⟩),.agg #[.int .i64 2,.int .i64 i,.int .i64 b,.int .i64 c]] w (EdP w E S F (edE S ((i:Int)+1) (2,i,b,c)) (edL S ((i:Int)+1) (2,i,b,c))):=by
 have M:(seenP S.book).length<=300:=qO (dA _) (Il.bR (RefD.inv h))
 by_cases O:b<0
 ·have q:edE S ((i:Int)+1) (2,i,b,c)=1:=by unfold edE;dsimp only;rw[if_neg (by decide),if_pos rfl,if_pos (qH O)]
  rw[q]
  generalize edL S ((i:Int)+1) (2,i,b,c)=L at hsz |-
  have an:decide (b<0)=true:=by simpa using O
  clear q M
  have R:=Hid.mk' h
  have H:=Hid.mk' hX
  have U:=Hid.mk' hE
  have g:zB w (w.alloc (.cells #[zI 2,zI i,zI b,zI c] 33)):=(qD _ _).alloc (qC _) _
  have f:=heap_alloc_new w (.cells #[zI 2,zI i,zI b,zI c] 33)
  have iz:decide ((i:Int)<0)=false:=by simp
  have ac:decide ((n:Int)<=(i:Int))=false:=by simp;omega
  have i4:(i:Int)<=4:=by omega
  have V:(i:Int)<(n:Int):=by omega
  clear hX hE h hsz
  go_in
  go_upto_region 1 with fail
  generalize w.alloc (.cells #[zI 2,zI i,zI b,zI c] 33)=w0 at g f |-
  have t:Hid (∀W,zB w0 W->W.cell? (zW w)=some (zI 2)/\W.cell? ⟨w.heap.size,1,none⟩=some (zI i)/\W.cell? ⟨w.heap.size,2,none⟩=some (zI b)/\W.cell? ⟨w.heap.size,3,none⟩=some (zI c)):=fun W hb=>
   ⟨aA hb (aB f (i:=0) rfl),aA hb (aB f (i:=1) rfl),aA hb (aB f (i:=2) rfl),aA hb (aB f (i:=3) rfl)⟩
  have I:=Hid.mk' g
  obtain⟨j,k,l,m⟩:=t.out w0 (qD _ _)
  have y:=H.out _ g
  clear g f
  go_wp2_with fail
  go_quiet (fail)
  generalize a:World.drewN _ _=w1
  have o:Hid (zB w w1):=by rw[<-a];exact La.aC I.out _
  have s:Hid (zB w0 w1):=by rw[<-a];exact La.aC (qD _ _) _
  clear a j k l m y
  obtain⟨j,k,l,m⟩:=t.out w1 s.out
  have y:=H.out _ o.out
  have Y:=U.out _ o.out
  go_wp2_with fail
  go_quiet (fail)
  generalize a:World.drewN _ _=w2
  have A:Hid (zB w w2):=by rw[<-a];exact La.aC o.out _
  have B:Hid (zB w0 w2):=by rw[<-a];exact La.aC s.out _
  clear a j k l m y Y
  obtain⟨j,k,l,m⟩:=t.out w2 B.out
  go_wp2_with fail
  go_quiet (fail)
  generalize a:World.drewN _ _=w3
  have D:Hid (zB w w3):=by rw[<-a];exact La.aC A.out _
  clear a j k l m
  go_wp2_with fail
  go_ret
  exact EdP.no R.out (by decide) D.out
 ·have an:decide (b<0)=false:=by simpa using O
  have af:¬b<0:=O
  by_cases Z:((seenP S.book).length:Int)<=b
  ·have q:edE S ((i:Int)+1) (2,i,b,c)=1:=by unfold edE;dsimp only;rw[if_neg (by decide),if_pos rfl,if_pos (qF Z)]
   rw[q]
   generalize edL S ((i:Int)+1) (2,i,b,c)=L at hsz |-
   clear q M af
   have R:=Hid.mk' h
   have H:=Hid.mk' hX
   have U:=Hid.mk' hE
   have g:zB w (w.alloc (.cells #[zI 2,zI i,zI b,zI c] 33)):=(qD _ _).alloc (qC _) _
   have f:=heap_alloc_new w (.cells #[zI 2,zI i,zI b,zI c] 33)
   have iz:decide ((i:Int)<0)=false:=by simp
   have ac:decide ((n:Int)<=(i:Int))=false:=by simp;omega
   have i4:(i:Int)<=4:=by omega
   have V:(i:Int)<(n:Int):=by omega
   clear hX hE h hsz
   go_in
   go_upto_region 1 with fail
   generalize w.alloc (.cells #[zI 2,zI i,zI b,zI c] 33)=w0 at g f |-
   have t:Hid (∀W,zB w0 W->W.cell? (zW w)=some (zI 2)/\W.cell? ⟨w.heap.size,1,none⟩=some (zI i)/\W.cell? ⟨w.heap.size,2,none⟩=some (zI b)/\W.cell? ⟨w.heap.size,3,none⟩=some (zI c)):=fun W hb=>
    ⟨aA hb (aB f (i:=0) rfl),aA hb (aB f (i:=1) rfl),aA hb (aB f (i:=2) rfl),aA hb (aB f (i:=3) rfl)⟩
   have I:=Hid.mk' g
   obtain⟨j,k,l,m⟩:=t.out w0 (qD _ _)
   have y:=H.out _ g
   clear g f
   go_wp2_with fail
   go_quiet (fail)
   generalize a:World.drewN _ _=w1
   have o:Hid (zB w w1):=by rw[<-a];exact La.aC I.out _
   have s:Hid (zB w0 w1):=by rw[<-a];exact La.aC (qD _ _) _
   clear a j k l m y
   obtain⟨j,k,l,m⟩:=t.out w1 s.out
   have y:=H.out _ o.out
   have Y:=U.out _ o.out
   go_wp2_with fail
   go_quiet (fail)
   generalize a:World.drewN _ _=w2
   have A:Hid (zB w w2):=by rw[<-a];exact La.aC o.out _
   have B:Hid (zB w0 w2):=by rw[<-a];exact La.aC s.out _
   clear a j k l m y Y
   obtain⟨j,k,l,m⟩:=t.out w2 B.out
   obtain⟨pb,nb,cb,aa,J⟩:=rN (RefD.below R.out A.out)
   have x5:=aa.out
   obtain⟨T,N⟩:=zx (⟨(Bm.text S.book).toArray⟩:ByteArray)
   rw[<-N] at J
   have K:(T.size:Int)=((seenP S.book).length:Int):=by rw[N,hS];rfl
   have ar:decide ((T.size:Int)<=b)=true:=by rw[K];simpa using Z
   have au:(T.size:Int)<=b:=by rw[K];exact Z
   have HR:=Hid.mk' (qD w2.heap.size w2)
   clear N K
   go_wp2_with fail
   go_region_held3 (fun W=>W.cell? ⟨w.heap.size,2,none⟩=some (zI b)/\W.cell? (zA E)=some (.slice pb nb cb)) (first | (go_keep;done) | (refine⟨aA r ?_,aA r ?_⟩<;>(first | assumption | (go_split_ands;assumption)))) (first
    | (go_at_call 14;refine(J.out _ HR.out.drew).mono ?_;rintro e w3 ⟨rfl,r⟩;have D:=z9 (La.bel HR.out.drew r)))
   all_goals
    have Q:=z9 (La.bel A.out D.out)
    clear r
    go_wp2_with fail
    go_ret
    exact EdP.no R.out (by decide) Q.out
  ·have q:edE S ((i:Int)+1) (2,i,b,c)=0:=by unfold edE;dsimp only;rw[if_neg (by decide),if_pos rfl,if_neg (by omega)]
   have ad:edL S ((i:Int)+1) (2,i,b,c)=delL S ((i:Int)+1) b (b+1):=by unfold edL;dsimp only;rw[if_neg (by decide),if_pos rfl]
   have HP:Hid (Pair w E S F 43 #[.pointer (some (zA E)),zI ((i:Int)+1),zI b,zI (b+1)] 0 (edL S ((i:Int)+1) (2,i,b,c))):=by
    refine zE h (fun _=>hsz q) fun P G W hR=> ?_
    have e0:delE S ((i:Int)+1) b (b+1)=0:=by
     unfold delE
     rw[Ub.bN.2 (by omega),if_neg (by simp),if_neg (by omega)]
    have h9:=Uwp.aB6 P E S G ((i:Int)+1) b (b+1) W hR
    rw[e0] at h9
    rw[ad]
    exact h9
   rw[q]
   generalize edL S ((i:Int)+1) (2,i,b,c)=L at HP hsz |-
   have a6:IntKind.i64.wrap (b+1)=b+1:=bG (by omega) (by omega)
   have a7:IntKind.i64.wrap ((i:Int)+1)=(i:Int)+1:=bG (by omega) (by omega)
   clear q ad M
   have R:=Hid.mk' h
   have H:=Hid.mk' hX
   have U:=Hid.mk' hE
   have g:zB w (w.alloc (.cells #[zI 2,zI i,zI b,zI c] 33)):=(qD _ _).alloc (qC _) _
   have f:=heap_alloc_new w (.cells #[zI 2,zI i,zI b,zI c] 33)
   have iz:decide ((i:Int)<0)=false:=by simp
   have ac:decide ((n:Int)<=(i:Int))=false:=by simp;omega
   have i4:(i:Int)<=4:=by omega
   have V:(i:Int)<(n:Int):=by omega
   clear hX hE h hsz
   go_in
   go_upto_region 1 with fail
   generalize w.alloc (.cells #[zI 2,zI i,zI b,zI c] 33)=w0 at g f |-
   have t:Hid (∀W,zB w0 W->W.cell? (zW w)=some (zI 2)/\W.cell? ⟨w.heap.size,1,none⟩=some (zI i)/\W.cell? ⟨w.heap.size,2,none⟩=some (zI b)/\W.cell? ⟨w.heap.size,3,none⟩=some (zI c)):=fun W hb=>
    ⟨aA hb (aB f (i:=0) rfl),aA hb (aB f (i:=1) rfl),aA hb (aB f (i:=2) rfl),aA hb (aB f (i:=3) rfl)⟩
   have I:=Hid.mk' g
   obtain⟨j,k,l,m⟩:=t.out w0 (qD _ _)
   have y:=H.out _ g
   clear g f
   go_wp2_with fail
   go_quiet (fail)
   generalize a:World.drewN _ _=w1
   have o:Hid (zB w w1):=by rw[<-a];exact La.aC I.out _
   have s:Hid (zB w0 w1):=by rw[<-a];exact La.aC (qD _ _) _
   clear a j k l m y
   obtain⟨j,k,l,m⟩:=t.out w1 s.out
   have y:=H.out _ o.out
   have Y:=U.out _ o.out
   go_wp2_with fail
   go_quiet (fail)
   generalize a:World.drewN _ _=w2
   have A:Hid (zB w w2):=by rw[<-a];exact La.aC o.out _
   have B:Hid (zB w0 w2):=by rw[<-a];exact La.aC s.out _
   clear a j k l m y Y
   obtain⟨j,k,l,m⟩:=t.out w2 B.out
   obtain⟨pb,nb,cb,aa,J⟩:=rN (RefD.below R.out A.out)
   have x5:=aa.out
   obtain⟨T,N⟩:=zx (⟨(Bm.text S.book).toArray⟩:ByteArray)
   rw[<-N] at J
   have K:(T.size:Int)=((seenP S.book).length:Int):=by rw[N,hS];rfl
   have ar:decide ((T.size:Int)<=b)=false:=by rw[decide_eq_false_iff_not];omega
   have au:¬(T.size:Int)<=b:=by omega
   have HR:=Hid.mk' (qD w2.heap.size w2)
   clear N K
   go_wp2_with fail
   go_region_held3 (fun W=>W.cell? ⟨w.heap.size,2,none⟩=some (zI b)/\W.cell? (zA E)=some (.slice pb nb cb)) (first | (go_keep;done) | (refine⟨aA r ?_,aA r ?_⟩<;>(first | assumption | (go_split_ands;assumption)))) (first
    | (go_at_call 14;refine(J.out _ HR.out.drew).mono ?_;rintro e w3 ⟨rfl,r⟩;have D:=z9 (La.bel HR.out.drew r)))
   all_goals
    have Q:=z9 (La.bel A.out D.out)
    have ax:=z9 (La.bel B.out D.out)
    clear r j k l m x5
    obtain⟨j,k,l,m⟩:=t.out w3 ax.out
    have C:=HP.out.ed _ Q.out
    go_wp2_with fail
    refine C.mono ?_
    rintro e w4 ⟨v,rfl,h1,h2,ae⟩
    have ho:=h1 rfl
    have C2:=HP.out.do' rfl w3 w4 v Q.out ae ho
    obtain⟨pv,nv,cv,rfl⟩:∃p n c,v=.slice p n c:=by obtain⟨p,c,e,_⟩:=ho;exact⟨_,_,_,e⟩
    clear C h1 h2 ae ho j k l m
    go_wp2_with fail
    refine C2.mono ?_
    rintro e w5 ⟨he,h5⟩
    obtain⟨z,hz⟩:=zx (if(0:Int)≠0 then 0 else runE S L)
    rw[<-hz] at he
    subst he
    have H5:=Hid.mk' h5
    have HZ:=Hid.mk' hz
    clear h5 C2 hz
    go_wp2_with fail
    go_ret
    exact⟨by rw[HZ.out];rfl,H5.out⟩
end Gr
namespace Gs
open La (aC)
theorem aGu(X n cn:Nat)(t a b c:Int)(p:Option Addr)(w:World)(c0:∀W,zB w W->W.cell? ⟨X,0,none⟩=some (.slice p n cn))(hn:n<=4)(ha:out n a):Calls prog 22 #[ptr X,evV (t,a,b,c)] w fun r w'=>r=.returned (.int .i64 1)/\zB w w':=by
 have d:zB w (w.alloc (.cells #[zI t,zI a,zI b,zI c] 33)):=(qD _ _).alloc (qC _) _;have e:=heap_alloc_new w (.cells #[zI t,zI a,zI b,zI c] 33);by_cases j:a<0
 ·have m:decide (a<0)=true:=by simpa using j
  clear ha j;go_in;go_upto_region 1 with fail
  generalize w.alloc (.cells #[zI t,zI a,zI b,zI c] 33)=w0 at d e |-;have g:=Hid.mk' d;have k:=aB e (i:=1) (u:=zI a) rfl;have l:=c0 _ d;clear d e c0;go_wp2_with fail;go_quiet (fail)
  generalize f:World.drewN _ _=w1;have h:Hid (zB w w1):=by rw[<-f];exact La.aC g.out _
  clear f k l;go_wp2_with fail;go_ret;exact⟨rfl,h.out⟩
 ·have m:decide (a<0)=false:=by simpa using j
  have o:decide ((n:Int)<=a)=true:=by unfold out at ha;simp;omega
  have q:(n:Int)<=a:=by unfold out at ha;omega
  clear ha;go_in;go_upto_region 1 with fail
  generalize w.alloc (.cells #[zI t,zI a,zI b,zI c] 33)=w0 at d e |-;have g:=Hid.mk' d;have k:=aB e (i:=1) (u:=zI a) rfl;have l:=c0 _ d;clear d e c0;go_wp2_with fail;go_quiet (fail)
  generalize f:World.drewN _ _=w1;have h:Hid (zB w w1):=by rw[<-f];exact La.aC g.out _
  clear f k l;go_wp2_with fail;go_ret;exact⟨rfl,h.out⟩
theorem aEV(X gD n cD i E:Nat)(t b c:Int)(S:Dq)(F:Nat->Prop)(w:World)(ht:isEd t=true)(hi:i<n)(hn:n<=4)(hX:∀W,zB w W->W.cell? ⟨X,0,none⟩=some (.slice (some ⟨gD,0,none⟩) n cD))(hE:∀W,zB w W->W.cell? ⟨gD,i,none⟩=some (ptr E))(h:RefD w E S F):
  Calls prog 22 #[ptr X,evV (t,i,b,c)] w (Hk.EdP w E S F (edE S ((i:Int)+1) (t,i,b,c)) (edL S ((i:Int)+1) (t,i,b,c))):=by
 have a:edE S ((i:Int)+1) (t,i,b,c)=0->∀x ∈ edL S ((i:Int)+1) (t,i,b,c),x.2.2.1.size<=maxLen:=fun e=>Ho.aGY h.inv e
 rcases Ht.is_ed ht with rfl | rfl | rfl | rfl
 ·exact Hk.aDW X gD n cD i E b c S F w hi hn hX hE h a
 ·exact Gr.aAu X gD n cD i E b c S F w hi hn hX hE h a
 ·exact Hk.sS X gD n cD i E 7 b c S F w (qH rfl) hi hn hX hE h a
 ·exact Hk.sS X gD n cD i E 8 b c S F w (qF rfl) hi hn hX hE h a
theorem aE4(X:Nat)(N:Nt)(F:Nat->Prop)(e:Ev)(w:World)(h:At w X N F)(he:isEd e.1=true):Calls prog 22 #[ptr X,evV e] w fun r w'=>r=.returned (.int .i64 (evE N e))/\Left' w X F (evS N e) w':=by
 obtain⟨t,a,b,c⟩:=e;have J:=h;obtain⟨U,V,E,K,m,B⟩:=h;obtain⟨p,C,rfl,_,_,L⟩:=m.fC;have he':isEd t=true:=he;by_cases d:out N.ds.length a
 ·have y:evE N (t,a,b,c)=1:=by unfold evE;dsimp only;rw[if_pos he',if_pos d]
  have z:evS N (t,a,b,c)=N:=by unfold evS;dsimp only;rw[if_pos he',if_pos d]
  rw[y,z];refine(aGu X _ C t a b c p w (fun W f=>aA f (aB m.blk (i:=0) rfl)) m.few d).mono ?_;rintro r w' ⟨rfl,f⟩;exact⟨rfl,bS J f⟩
 ·obtain⟨i,rfl⟩:∃i:Nat,a=i:=⟨a.toNat,by unfold out at d;omega⟩;have l:i<N.ds.length:=by unfold out at d;omega
  obtain⟨g,rfl,M⟩:=L (by omega)
  have y:evE N (t,i,b,c)=if edE (dq N i) ((i:Int)+1) (t,i,b,c)≠0 then edE (dq N i) ((i:Int)+1) (t,i,b,c) else runE (dq N i) (edL (dq N i) ((i:Int)+1) (t,i,b,c)):=by
   unfold evE;dsimp only;rw[if_pos he',if_neg d];rfl
  have z:evS N (t,i,b,c)=if edE (dq N i) ((i:Int)+1) (t,i,b,c)≠0 then N else{ N with ds:=N.ds.set i (runS (dq N i) (edL (dq N i) ((i:Int)+1) (t,i,b,c))) }:=by
   unfold evS;dsimp only;rw[if_pos he',if_neg d];rfl
  rw[y,z];refine(aEV X g N.ds.length C i (E i) t b c (dq N i) (K i) w he' l m.few (fun W f=>aA f (aB m.blk (i:=0) rfl)) (fun W f=>aA f (M i l)) (m.docs.at' i l)).mono ?_;rintro r w' ⟨rfl,G,O,P,Q⟩;refine⟨rfl, ?_⟩;obtain⟨q,D,s⟩:=m.aAH l O P Q;by_cases H:edE (dq N i) ((i:Int)+1) (t,i,b,c)≠0
  ·rw[if_pos H] at q s |-
   have R:({ N with ds:=N.ds.set i (dq N i) }:Nt)=N:=by
    have:N.ds.set i (dq N i)=N.ds:=by
     apply yE;intro j;rw[List.getElem?_set];by_cases I:i=j
     ·subst I;rw[if_pos rfl,if_pos l];unfold dq;rw[qA,qB l];rfl
     ·rw[if_neg I]
    rw[this]
   rw[R] at q;have S:(N.ds.set i (dq N i)).length=N.ds.length:=jN;rw[S] at s;exact dM B q D s
  ·rw[if_neg H] at q s |-;exact dM B q D s
end Gs
namespace Gt
open Na Oc
open La (aC LeafsIn)
structure Bk (w:World) (E:Nat) (S:Dq) (pb:Option Addr) (nb cb:Nat) (pm:Option Addr) (nm cm:Nat):Prop where
 c0:w.cell? ⟨E,0,none⟩=some (.slice pb nb cb)
 c1:w.cell? ⟨E,1,none⟩=some (.slice pm nm cm)
 bl:S.book.length=nb
 ml:S.marks.length=nm
 bk:LeafsIn w pb S.book
 mi:MarksIn w pm S.marks
theorem aJe{w:World}{E:Nat}{S:Dq}{F:Nat->Prop}(h:RefD w E S F):∃pb nb cb pm nm cm,Bk w E S pb nb cb pm nm cm:=by
 obtain⟨P,G,⟨I,m,n,o,p,a⟩,_⟩:=h;obtain⟨c,d,e,f,_⟩:=a.book;obtain⟨g,j,k,l,_⟩:=a.marks;subst e k;exact⟨c,_,d,g,_,j,aB a.blk (i:=0) rfl,aB a.blk (i:=1) rfl,rfl,rfl,f,l⟩
theorem Bk.below{w w':World}{E:Nat}{S:Dq}{pb pm:Option Addr}{nb cb nm cm:Nat}(h:Bk w E S pb nb cb pm nm cm)(hb:zB w w'):Bk w' E S pb nb cb pm nm cm:=
 ⟨aA hb h.c0,aA hb h.c1,h.bl,h.ml,h.bk.below hb,h.mi.below hb⟩
theorem wK{α :Type}{d: α}{a b:List α}{n:Nat}(ha:a.length=n)(hb:b.length=n)(h:∀j,j<n->a.getD j d=b.getD j d):a=b:=by
 apply List.ext_getElem (by omega);intro j h1 h2;have c:=h j (by omega);rw[qA,qA,qB h1,qB h2] at c;exact c
theorem nW{N:Nt}{i:Nat}(hi:i<N.ds.length)(h:¬((dq N i).book=(dq N 0).book/\(dq N i).marks=(dq N 0).marks)):sameB N=false:=by
 unfold sameB;rw[decide_eq_false_iff_not];exact fun h9=>h (h9 i hi)
theorem aEt(X:Nat)(N:Nt)(F:Nat -> Prop)(w:World)(h:At w X N F)(h1:1 <=N.ds.length):Calls prog 11 #[ptr X] w fun e w'=>e=.returned (.bool (sameB N)) /\ zB w w':=by
 obtain⟨vd,vu,E,Fd,m,hF⟩:=h;obtain⟨p,c,rfl,az,a2,hc⟩:=m.fC;obtain⟨g,rfl,hg⟩:=hc (by omega);obtain⟨n,hn⟩:=zx N.ds.length;have HM:=Hid.mk' m;have P:=Hid.mk' hn;have HG:=Hid.mk' hg;have HX:Hid (w.cell? (zA X)=some (.slice (some (zA g)) n c)):=by rw[hn];exact aB m.blk (i:=0) rfl
 have b4:n <=4:=by have:=m.few;omega
 have b5:1 <=n:=by omega
 have HI:Hid (∀i,i<n -> Inv (dq N i)):=fun i hi=>RefD.inv (m.docs.at' i (by omega))
 have ah:Hid (∀i,i<n -> ∃pb q cb pm r cm,Bk w (E i) (dq N i) pb q cb pm r cm):=fun i hi=>aJe (m.docs.at' i (by omega))
 clear m hF hg hc az a2 hn h1;go_in;go_wp2_with fail;go_loopw [3] (fun v3 wr=>∃i:Nat,1 <=i /\ i <=n /\ v3=zI i /\ Hid (∀j,j<i -> (dq N j).book=(dq N 0).book /\ (dq N j).marks=(dq N 0).marks) /\ Hid (zB w wr)) (fun v3 _=>5-(intOf v3).toNat)
 case atStart=>exact⟨1,by omega,by omega,rfl,fun j hj=>by(obtain rfl:j=0:=by omega);exact⟨rfl,rfl⟩,qD _ _⟩
 case round=>
  obtain⟨i,b6,b7,rfl,HK,t⟩:=hrel;have x0:=aA t.out HX.out;by_cases U:i<n
  ·have ao:(i:Int)<n:=by omega
   have bj:(0:Int)<(n:Int):=by omega
   have b8:(0:Int) <=(i:Int):=by omega
   have xa:wr.cell? (zA g)=some (ptr (E 0)):=aA t.out (HG.out 0 (by have:=P.out;omega));have xb:wr.cell? ⟨g,i,none⟩=some (ptr (E i)):=aA t.out (HG.out i (by have:=P.out;omega));obtain⟨pb,q,cb,pm,r,cm,ba⟩:=ah.out 0 (by omega);obtain⟨qb,J,db,qm,Q,dm,bb⟩:=ah.out i U;have HA:=Hid.mk' (ba.below t.out);have HB:=Hid.mk' (bb.below t.out);have a0:=HA.out.c0;have a1:=HA.out.c1;have b0:=HB.out.c0;have b1:=HB.out.c1;have b9:q <=300:=by rw[<- ba.bl];exact Il.bR (HI.out 0 (by omega))
   have ca:J <=300:=by rw[<- bb.bl];exact Il.bR (HI.out i U)
   have cc:r <=40:=by rw[<- ba.ml];exact Il.gX (HI.out 0 (by omega))
   have cd:Q <=40:=by rw[<- bb.ml];exact Il.gX (HI.out i U)
   clear ba bb;by_cases z:q=J
   ·by_cases K:r=Q
    ·subst z K;obtain⟨A,V⟩:∃A,Hid (A=wr):=⟨wr,rfl⟩;have HA':Hid (Bk A (E 0) (dq N 0) pb q cb pm r cm):=by rw[Hid,V.out];exact HA.out
     have HB':Hid (Bk A (E i) (dq N i) qb q db qm r dm):=by rw[Hid,V.out];exact HB.out
     go_wp2_with fail;go_quiet (fail)
     generalize a:World.drewN _ _=w2;have b:Hid (zB w w2):=by rw[<- a];exact La.aC t.out _
     have o:Hid (zB A w2):=by rw[Hid,V.out, <- a];exact La.aC (qD _ _) _
     clear a a0 a1 b0 b1 x0 xa xb;go_wp2_with fail;go_loopw [6] (fun v6 wx=>∃k:Nat,k <=q /\ v6=zI k /\ Hid (∀j,j<k -> (dq N 0).book.getD j Bm.none0=(dq N i).book.getD j Bm.none0) /\ Hid (zB w wx) /\ Hid (zB A wx)) (fun v6 _=>q-(intOf v6).toNat)
     case atStart=>exact⟨0,by omega,rfl,fun j hj=>absurd hj (by omega),b,o⟩
     case round=>
      clear b o;obtain⟨k,hk,rfl,Y,b,o⟩:=hrel;have d:=HA'.out.below o.out;have f:=HB'.out.below o.out;have a0:=d.c0;have b0:=f.c0;by_cases L:k<q
      ·have R:(k:Int)<q:=by omega
       have ap:(0:Int) <=(k:Int):=by omega
       obtain⟨b1',o1,rfl,c1'⟩:=d.bk.some (by intro e;have:=d.bl;rw[e] at this;simp at this;omega);obtain⟨b2',o2,rfl,c2'⟩:=f.bk.some (by intro e;have:=f.bl;rw[e] at this;simp at this;omega);have e1:=c1' k (by rw[d.bl];exact L);have e2:=c2' k (by rw[f.bl];exact L);obtain⟨x,S⟩:=zx ((dq N 0).book.getD k Bm.none0);obtain⟨y,T⟩:=zx ((dq N i).book.getD k Bm.none0);rw[<- S] at e1;rw[<- T] at e2;have M:=Hid.mk' S;have O:=Hid.mk' T;clear S T c1' c2' d f;obtain⟨B,C,D⟩:=x;obtain⟨G,H,by'⟩:=y;obtain⟨x1,x2,x3⟩:=e1;obtain⟨y1,y2,y3⟩:=e2;simp only at x1 x2 x3 y1 y2 y3;have Z:∀w,(binOp .neq 77 (.agg #[.string B,zI C,.bool D]) (.agg #[.string G,zI H,.bool by'])).run prog w=.ok (.bool (!decide (((B,C,D):Bm.Leaf)=(G,H,by')))) w:=fun w=>Lk.sV B G C H D by' w
       have bc:prog.eqGuardType prog.depth 77=false:=by kernel_rfl
       by_cases l:((B,C,D):Bm.Leaf)=(G,H,by')
       ·rw[decide_eq_true l] at Z;have aa:=Hid.mk' l;clear l;go_wp2_with fail;go_quiet (fail)
        generalize a:World.drewN _ _=w4;have v:Hid (zB w w4):=by rw[<- a];exact La.aC b.out _
        have ab:Hid (zB A w4):=by rw[<- a];exact La.aC o.out _
        clear a;go_wp2_with fail;go_roundw
        case rel=>exact⟨k+1,by omega,by go_num,fun j hj=>by
         rcases jS.1 hj with h | rfl
         ·exact Y.out j h
         ·rw[<- M.out, <- O.out];exact aa.out,v,ab⟩
        case measure=>simp[intOf];omega
       ·rw[decide_eq_false l] at Z;have I:Hid (sameB N=false):=nW (i:=i) (by have:=P.out;omega) (fun h9=>l (by rw[M.out,O.out,h9.1]));clear l;go_wp2_with fail;go_quiet (fail)
        generalize a:World.drewN _ _=w4;have v:Hid (zB w w4):=by rw[<- a];exact La.aC b.out _
        clear a;go_wp2_with fail;go_ret;exact⟨by rw[I.out];rfl,v.out⟩
      ·obtain rfl:k=q:=by omega
       have R:¬(k:Int)<k:=by omega
       have bd:Hid ((dq N i).book=(dq N 0).book):=(wK d.bl f.bl Y.out).symm;clear d f Y;go_wp2_with fail;go_loopw [7] (fun v7 wx=>∃k:Nat,k <=r /\ v7=zI k /\ Hid (∀j,j<k -> (dq N 0).marks.getD j none1=(dq N i).marks.getD j none1) /\ Hid (zB w wx) /\ Hid (zB A wx)) (fun v7 _=>r-(intOf v7).toNat)
       case atStart=>exact⟨0,by omega,rfl,fun j hj=>absurd hj (by omega),b,o⟩
       case round=>
        clear b o;obtain⟨k,hk,rfl,ac,b,o⟩:=hrel;have d:=HA'.out.below o.out;have f:=HB'.out.below o.out;have a1:=d.c1;have b1:=f.c1;by_cases L:k<r
        ·have R:(k:Int)<r:=by omega
         have ap:(0:Int) <=(k:Int):=by omega
         obtain⟨b1',o1,rfl,c1'⟩:=d.mi.some (by intro e;have:=d.ml;rw[e] at this;simp at this;omega);obtain⟨b2',o2,rfl,c2'⟩:=f.mi.some (by intro e;have:=f.ml;rw[e] at this;simp at this;omega);have e1:=c1' k (by rw[d.ml];exact L);have e2:=c2' k (by rw[f.ml];exact L);obtain⟨x,S⟩:=zx ((dq N 0).marks.getD k none1);obtain⟨y,T⟩:=zx ((dq N i).marks.getD k none1);rw[<- S] at e1;rw[<- T] at e2;have M:=Hid.mk' S;have O:=Hid.mk' T;clear S T c1' c2' d f;obtain⟨B,C,D⟩:=x;obtain⟨G,H,by'⟩:=y;obtain⟨x1,x2,x3⟩:=e1;obtain⟨y1,y2,y3⟩:=e2;simp only at x1 x2 x3 y1 y2 y3;have Z:∀w,(binOp .neq 82 (.agg #[.string B,zI C,zI D]) (.agg #[.string G,zI H,zI by'])).run prog w=.ok (.bool (!decide (((B,(C,D)):Mk)=(G,(H,by'))))) w:=fun w=>Np.aBh B G C H D by' w
         have bc:prog.eqGuardType prog.depth 82=false:=by kernel_rfl
         by_cases l:((B,(C,D)):Mk)=(G,(H,by'))
         ·rw[decide_eq_true l] at Z;have aa:=Hid.mk' l;clear l;go_wp2_with fail;go_quiet (fail)
          generalize a:World.drewN _ _=w4;have v:Hid (zB w w4):=by rw[<- a];exact La.aC b.out _
          have ab:Hid (zB A w4):=by rw[<- a];exact La.aC o.out _
          clear a;go_wp2_with fail;go_roundw
          case rel=>exact⟨k+1,by omega,by go_num,fun j hj=>by
           rcases jS.1 hj with h | rfl
           ·exact ac.out j h
           ·rw[<- M.out, <- O.out];exact aa.out,v,ab⟩
          case measure=>simp[intOf];omega
         ·rw[decide_eq_false l] at Z;have I:Hid (sameB N=false):=nW (i:=i) (by have:=P.out;omega) (fun h9=>l (by rw[M.out,O.out,h9.2]));clear l;go_wp2_with fail;go_quiet (fail)
          generalize a:World.drewN _ _=w4;have v:Hid (zB w w4):=by rw[<- a];exact La.aC b.out _
          clear a;go_wp2_with fail;go_ret;exact⟨by rw[I.out];rfl,v.out⟩
        ·obtain rfl:k=r:=by omega
         have R:¬(k:Int)<k:=by omega
         have be:Hid ((dq N i).marks=(dq N 0).marks):=(wK d.ml f.ml ac.out).symm;clear d f ac;go_wp2_with fail;go_roundw
         case rel=>exact⟨i+1,by omega,by omega,by go_num,fun j hj=>by
          rcases jS.1 hj with h | rfl
          ·exact HK.out j h
          ·exact⟨bd.out,be.out⟩,b⟩
         case measure=>simp[intOf];omega
    ·have e2:((r:Int)==(Q:Int))=false:=by simp;omega
     have e2':(r==Q)=false:=by simpa using K
     have e3:decide (r=Q)=false:=by simpa using K
     have e4:decide ((r:Int)=(Q:Int))=false:=by simp;omega
     have e5:¬r=Q:=K;have I:Hid (sameB N=false):=nW (i:=i) (by have:=P.out;omega) (fun h9=>by have h8:=congrArg List.length h9.2;rw[HA.out.ml,HB.out.ml] at h8;omega);clear K;subst z;go_wp2_with fail;go_quiet (fail)
     generalize a:World.drewN _ _=w2;have b:Hid (zB w w2):=by rw[<- a];exact La.aC t.out _
     clear a;go_wp2_with fail;go_ret;exact⟨by rw[I.out];rfl,b.out⟩
   ·have e1:((q:Int)==(J:Int))=false:=by simp;omega
    have e1':(q==J)=false:=by simpa using z
    have e3:decide (q=J)=false:=by simpa using z
    have e4:decide ((q:Int)=(J:Int))=false:=by simp;omega
    have e5:¬q=J:=z;have e6:((q:Int) !=(J:Int))=true:=by simp;omega
    have I:Hid (sameB N=false):=nW (i:=i) (by have:=P.out;omega) (fun h9=>by have h8:=congrArg List.length h9.1;rw[HA.out.bl,HB.out.bl] at h8;omega);clear z;go_wp2_with fail;go_quiet (fail)
    generalize a:World.drewN _ _=w2;have b:Hid (zB w w2):=by rw[<- a];exact La.aC t.out _
    clear a;go_wp2_with fail;go_ret;exact⟨by rw[I.out];rfl,b.out⟩
  ·obtain rfl:i=n:=by omega
   have ao:¬(i:Int)<i:=by omega
   have I:Hid (sameB N=true):=by
    rw[Hid];unfold sameB;rw[decide_eq_true_eq];exact fun j hj=>HK.out j (by have:=P.out;omega)
   go_wp2_with fail;go_ret;exact⟨by rw[I.out];rfl,t.out⟩
end Gt
namespace Gv
open Om Aa Ac Af Xp
open Ai (aA9)
open Hj (RefD)
def RoPost (P:Nat→Prop) (w:World) (E:Nat) (S:Dq) (F:Nat→Prop) (s:ByteArray) (e:Ending) (w':World):Prop:=
 e=.returned (.tuple #[.int .i64 (opnN S s),.int .i64 (opnE S s)])∧∃P' F',RefAt P' w' E (runS S (opnL s)) F'∧Chg F w w'∧(∀g,F' g→F g∨w.heap.size≤g)∧∀g,P' g→P g∨w.heap.size≤g
theorem aGb(P:Nat->Prop)(E:Nat)(S:Dq)(F:Nat->Prop)(s:ByteArray)(w:World)(h:RefAt P w E S F)(hs:s.size<=maxLen)(hv:Hid ((unpB s.toList).isSome=true)):
  Calls prog 25 #[.pointer (some ⟨E,0,none⟩),.string s] w (RoPost P w E S F s):=by
 have H:=z9 h
 have C:=Ok.kR s w hs hv
 clear h
 cases hu:unpB s.toList with
 | none=>exact absurd hv.out (by rw[hu];simp)
 | some l=>
  rw[hu] at C
  simp only[Option.isSome_some] at C
  have c:Hid (opnL s=l):=by unfold Hid opnL;rw[hu];rfl
  have v:Hid (opnE S s=runE S l):=by unfold Hid opnE;rw[hu,c.out];rfl
  have y:Hid (opnN S s=takeN S l):=by unfold Hid opnN;rw[hu,c.out];rfl
  have z:Hid (∀x ∈ l,x.2.2.1.size<=maxLen):=by
   have:=pC (uV s)
   rw[c.out] at this;exact this
  clear hu
  go_in
  go_wp2_with fail
  refine C.mono ?_
  rintro e w1 ⟨L,rfl,j,⟨D,G,I,rfl⟩,d⟩
  have k:=z9 (OpsJ.kept (j l rfl))
  have f:=z9 d
  have m:Hid (RefAt (fun g=>P g\/New w.heap.size w1 g) w1 E S F):=(H.out.below d).more (fun g hg=>qH hg) (fun g hg=>by
   rcases hg with e | e
   ·exact⟨(H.out.below f.out).old g e,fun b=>(H.out.lt g b).1 e⟩
   ·exact⟨e.2,fun b=>by have:=(H.out.lt g b).2;have:=e.1;omega⟩)
  have A:=aA9 (fun g=>P g\/New w.heap.size w1 g) E S F (New w.heap.size w1) (.slice D G I) l w1 m.out (k.out.mono (fun g hg=>hg) (fun g hg=>qF hg)) (fun g hg=>⟨hg.2,fun b=>by have:=(H.out.lt g b).2;have:=hg.1;omega⟩) z.out
  clear j d C k m
  go_wp2_with fail
  refine A.mono ?_
  rintro e w2 ⟨i,J,n,o,p⟩
  rw[<-v.out,<-y.out] at i
  have K:Hid (RoPost P w E S F s e w2):=⟨i,(fun g=>P g\/New w.heap.size w1 g),J,by rw[c.out];exact n,(Chg.ofBelow f.out F).trans o,fun g hg=>(by
   rcases p g hg with e | e
   ·exact qH e
   ·exact qF (qO f.out.size e)),fun g hg=>Or.imp id (fun e=>e.1) hg⟩
  obtain⟨M,q⟩:=zx (opnN S s)
  obtain⟨b,r⟩:=zx (opnE S s)
  rw[<-q,<-r] at i
  subst i
  clear n o p A q r v y c z
  go_wp2_with fail
  go_ret2
  exact K.out
theorem aD4(E:Nat)(S:Dq)(F:Nat->Prop)(s:ByteArray)(w:World)(h:RefD w E S F)(hs:s.size<=maxLen)(hv:Hid ((unpB s.toList).isSome=true)):
  Calls prog 25 #[.pointer (some ⟨E,0,none⟩),.string s] w fun e w'=>e=.returned (.tuple #[.int .i64 (opnN S s),.int .i64 (opnE S s)])/\∃F',RefD w' E (runS S (opnL s)) F'/\Chg F w w'/\∀g,F' g->F g\/w.heap.size<=g:=by
 obtain⟨P,G,h,a⟩:=h;refine(aGb P E S G s w h hs hv).mono ?_;rintro e w' ⟨b,P',F',c,d,f,i⟩;refine⟨b,fun g=>F' g\/P' g,⟨P',F',c,fun g=>Iff.rfl⟩,d.mono fun g hg=>(a g).2 (qH hg), ?_⟩;rintro g (e | e)
 ·exact(f g e).imp (fun e=>(a g).2 (qH e)) id
 ·exact(i g e).imp (fun e=>(a g).2 (qF e)) id
end Gv
end Go.Proofs.YtjcemlmlfoilmaaGreatDoor
