import Derived.Test.YtjcemlmlfoilmaaGreatDoorH1
import Derived.Test.YtjcemlmlfoilmaaGreatDoorU4
set_option linter.unusedSimpArgs false
set_option linter.unusedVariables false
set_option maxRecDepth 100000
set_option maxHeartbeats 8000000
namespace Go.Proofs.YtjcemlmlfoilmaaGreatDoor
open Om Hm Ia Um Ac Xp
namespace Hj
open Hi
open Uxp (aGk)
variable {w w':World}{E:Nat}{S:Dq}{F:Nat->Prop}
theorem aFn{P:Nat->Prop}(h:RefAt P w E S F)(hs:∀g,F g\/P g->w'.heap[g]? =w.heap[g]?)(hz:w.heap.size<=w'.heap.size):RefAt P w' E S F:=by
 obtain⟨I,a,b,c,d,h⟩:=h;exact⟨I,a,b,c,d,h.stay hs hz⟩
def RefD (w:World) (E:Nat) (S:Dq) (F:Nat→Prop):Prop:=∃P G,RefAt P w E S G∧∀g,F g↔(G g∨P g)
theorem RefD.lt{w:World}{E:Nat}{S:Dq}{F:Nat->Prop}(h:RefD w E S F):∀g,F g->g<w.heap.size:=by
 obtain⟨P,G,h,a⟩:=h;intro g hg;rcases(a g).1 hg with e | e
 ·exact(h.lt g e).2
 ·exact h.old g e
theorem RefD.stay(h:RefD w E S F)(hs:Stay F w w')(hz:w.heap.size<=w'.heap.size):RefD w' E S F:=by
 obtain⟨P,G,h,a⟩:=h;exact⟨P,G,aFn h (fun g hg=>hs g ((a g).2 hg)) hz,a⟩
theorem RefD.inv{w:World}{E:Nat}{S:Dq}{F:Nat->Prop}(h:RefD w E S F):Inv S:=by
 obtain⟨P,G,h,a⟩:=h;exact h.inv
def aFh:Kind:=⟨RefD,fun h=>h.lt,fun h hs hz=>h.stay hs hz⟩
theorem aIM{w1:World}{v:Value}{L:List Ox}(h:RefD w E S F)(hb:zB w w1)(ho:OpsJ (New w.heap.size w1) (New w.heap.size w1) w1 v L)(hsz:∀x ∈ L,x.2.2.1.size<=maxLen):
  Calls Tryz.prog 45 #[.pointer (some ⟨E,0,none⟩),v] w1 fun e w'=>e=.returned (.int .i64 (runE S L))/\∃F',RefD w' E (runS S L) F'/\Chg F w w'/\∀g,F' g->F g\/w.heap.size<=g:=by
 obtain⟨P,G,h,a⟩:=h
 have c:=(h.below hb).more (C:=fun g=>P g\/New w.heap.size w1 g) (fun g hg=>qH hg) (fun g hg=>by
  rcases hg with e | e
  ·exact⟨jE (h.old g e) hb.size,fun e2=>(h.lt g e2).1 e⟩
  ·exact⟨e.2,fun e2=>by have:=(h.lt g e2).2;have:=e.1;omega⟩)
 refine(aGk (fun g=>P g\/New w.heap.size w1 g) E S G (New w.heap.size w1) v L w1 c (ho.mono (fun g hg=>hg) (fun g hg=>qF hg)) (fun g hg=>⟨hg.2,fun e2=>by have:=(h.lt g e2).2;have:=hg.1;omega⟩) hsz).mono ?_;rintro e w' ⟨d,F',f,i,j⟩;refine⟨d,fun g=>F' g\/(P g\/New w.heap.size w1 g),⟨_,F',f,fun g=>Iff.rfl⟩, ?_, ?_⟩
 ·refine(Chg.ofBelow hb F).next i (fun g hg=>qH ((a g).2 (qH hg)))
 ·rintro g (e | e | e)
  ·rcases j g e with e | e
   ·exact qH ((a g).2 (qH e))
   ·exact qF (qO hb.size e)
  ·exact qH ((a g).2 (qF e))
  ·exact qF e.1
end Hj
namespace Hk
open Go.RowKit Oz Ic Hc Hj Iq
open Utp (cH)
theorem Hid.mk'{p:Prop}(h:p):Hid p:=h
variable {w w':World}{E:Nat}{S:Dq}{F:Nat->Prop}{k:Int}{L:List Ox}(X gD n cD i:Nat)
theorem RefD.below(h:RefD w E S F)(hb:zB w w'):RefD w' E S F:=h.stay (fun g hg=>hb.block g (h.lt g hg)) hb.size
theorem rV(w:World)(c:Int)(h1:32<=c)(h2:c<=126):
  (convert 86 9 (.slice (some ⟨w.heap.size,0,none⟩) 1 1)).run Tryz.prog (w.alloc (.cells #[.int .u8 c] 5))=.ok (.string (oneT c)) (w.alloc (.cells #[.int .u8 c] 5)):=by
 have a:(w.alloc (.cells #[.int .u8 c] 5)).heap[w.heap.size]? =some (.cells #[.int .u8 c] 5):=heap_alloc_new w _
 refine run_convert_bytes_back (P:=Tryz.prog) _ 86 9 5 (zW w) 1 [u8 c] Tryz.underlying86 Tryz.underlying5 Tryz.underlying9 ?_
 intro j hj
 rw[jU,qY]
 simp only[World.cell?,a]
 match j,hj with
 | 0,_=>show some (Value.int .u8 c)=some (Value.int .u8 ((u8 c).toNat:Int));rw[aGv h1 h2]
def EdP (w:World) (E:Nat) (S:Dq) (F:Nat→Prop) (k:Int) (L:List Ox) (e:Ending) (w':World):Prop:=
 e=.returned (.int .i64 (if k≠0 then k else runE S L))∧∃F',RefD w' E (if k≠0 then S else runS S L) F'∧Chg F w w'∧∀g,F' g→F g∨w.heap.size≤g
theorem EdP.no(h:RefD w E S F)(hk:k≠0)(hb:zB w w'):EdP w E S F k L (.returned (.int .i64 k)) w':=by
 refine⟨by rw[if_pos hk],F,by rw[if_pos hk];exact RefD.below h hb,Chg.ofBelow hb F,fun g hg=>qH hg⟩
theorem EdP.yes{W:World}{e:Ending}(hb:zB w W)(h:e=.returned (.int .i64 (runE S L))/\∃F',RefD w' E (runS S L) F'/\Chg F W w'/\∀g,F' g->F g\/W.heap.size<=g):EdP w E S F 0 L e w':=by
 obtain⟨a,F',b,c,d⟩:=h;refine⟨by rw[a];rfl,F',b,(Chg.ofBelow hb F).next c (fun g hg=>qH hg),fun g hg=> ?_⟩;rcases d g hg with e | e
 ·exact qH e
 ·exact qF (qO hb.size e)
structure Pair (w:World) (E:Nat) (S:Dq) (F:Nat→Prop) (f:FuncId) (args:Array Value) (k:Int) (L:List Ox):Prop where
 ed:∀W,Below w.heap.size w W→Calls Tryz.prog f args W (cH W k L)
 do':k=0→∀W W1 v,Below w.heap.size w W→Below W.heap.size W W1→OpsJ (New W.heap.size W1) (New W.heap.size W1) W1 v L→Calls Tryz.prog 45 #[.pointer (some ⟨E,0,none⟩),v] W1 (EdP w E S F 0 L)
theorem zE{f:FuncId}{args:Array Value}(h:RefD w E S F)(hsz:k=0->∀x ∈ L,x.2.2.1.size<=maxLen)(he:∀P G W,RefAt P W E S G->Calls Tryz.prog f args W (cH W k L)):Pair w E S F f args k L:=by
 refine⟨fun W hb=> ?_,fun hk W W1 v hb hb1 ho=> ?_⟩
 ·obtain⟨P,G,a,_⟩:=RefD.below h hb;exact he P G W a
 ·exact(aIM (RefD.below h hb) hb1 ho (hsz hk)).mono fun e w' h9=>EdP.yes hb h9
theorem sS(E:Nat)(t b c:Int)(S:Dq)(F:Nat->Prop)(w:World)(ht:t=7\/t=8)(hi:i<n)(hn:n<=4)(hX:∀W,zB w W->W.cell? ⟨X,0,none⟩=some (.slice (some ⟨gD,0,none⟩) n cD))(hE:∀W,zB w W->W.cell? ⟨gD,i,none⟩=some (.pointer (some ⟨E,0,none⟩)))(h:RefD w E S F)(hsz:edE S ((i:Int)+1) (t,i,b,c)=0->∀x ∈ edL S ((i:Int)+1) (t,i,b,c),x.2.2.1.size<=maxLen):
  Calls Tryz.prog 22 #[.pointer (some ⟨X,0,none⟩),.agg #[.int .i64 t,.int .i64 i,.int .i64 b,.int .i64 c]] w (EdP w E S F (edE S ((i:Int)+1) (t,i,b,c)) (edL S ((i:Int)+1) (t,i,b,c))):=by
 have D:¬t=1:=by omega
 have H:¬t=2:=by omega
 have A:Hid (Pair w E S F 44 #[.pointer (some (zA E)),zI ((i:Int)+1),zI b,.bool (t==8)] (edE S ((i:Int)+1) (t,i,b,c)) (edL S ((i:Int)+1) (t,i,b,c))):=by
  refine zE h hsz fun P G W hR=> ?_
  unfold edE edL;rw[if_neg D,if_neg H,if_neg D,if_neg H];rcases ht with rfl | rfl
  ·exact Uzp.aEO P E S G _ _ W hR
  ·exact Uzp.aFM P E S G _ _ W hR
 have HD:=Hid.mk' h;have Q:=Hid.mk' hX;have HE:=Hid.mk' hE;generalize edE S ((i:Int)+1) (t,i,b,c)=k at A |-;generalize edL S ((i:Int)+1) (t,i,b,c)=L at A |-;have j:zB w (w.alloc (.cells #[zI t,zI i,zI b,zI c] 33)):=(qD _ _).alloc (qC _) _;have f:=heap_alloc_new w (.cells #[zI t,zI i,zI b,zI c] 33);have iz:decide ((i:Int)<0)=false:=by simp
 have ak:decide ((n:Int)<=(i:Int))=false:=by simp;omega
 have i4:(i:Int)<=4:=by omega
 have ac:(i:Int)<(n:Int):=by omega
 have al:(t==1)=false:=by simpa using D
 have am:(t==2)=false:=by simpa using H
 clear hX hE h hsz ht;go_in;go_upto_region 1 with fail
 generalize w.alloc (.cells #[zI t,zI i,zI b,zI c] 33)=w0 at j f |-
 have I:Hid (∀W,zB w0 W->W.cell? (zW w)=some (zI t)/\W.cell? ⟨w.heap.size,1,none⟩=some (zI i)/\W.cell? ⟨w.heap.size,2,none⟩=some (zI b)/\W.cell? ⟨w.heap.size,3,none⟩=some (zI c)):=fun W hb=>
  ⟨aA hb (aB f (i:=0) rfl),aA hb (aB f (i:=1) rfl),aA hb (aB f (i:=2) rfl),aA hb (aB f (i:=3) rfl)⟩
 have R:=Hid.mk' j;obtain⟨m,o,q,r⟩:=I.out w0 (qD _ _);have J:=Q.out _ j;clear j f;go_wp2_with fail;go_quiet (fail)
 generalize d:World.drewN _ _=w1;have s:Hid (zB w w1):=by rw[<-d];exact La.aC R.out _
 have B:Hid (zB w0 w1):=by rw[<-d];exact La.aC (qD _ _) _
 clear d m o q r J;obtain⟨m,o,q,r⟩:=I.out w1 B.out;have J:=Q.out _ s.out;have x1:=HE.out _ s.out;go_wp2_with fail;go_quiet (fail)
 generalize d:World.drewN _ _=w2;have y:Hid (zB w w2):=by rw[<-d];exact La.aC s.out _
 have T:Hid (zB w0 w2):=by rw[<-d];exact La.aC B.out _
 clear d m o q r J x1;obtain⟨m,o,q,r⟩:=I.out w2 T.out;have C:=A.out.ed _ y.out;go_wp2_with fail;refine C.mono ?_;rintro e w3 ⟨v,rfl,K,M,l⟩;by_cases g:k=0
 ·have N:=K g;have U:=A.out.do' g w2 w3 v y.out l N
  obtain⟨pv,nv,cv,rfl⟩:∃p n c,v=.slice p n c:=by obtain⟨p,c,e,_⟩:=N;exact⟨_,_,_,e⟩
  subst g;clear C K M l N m o q r;go_wp2_with fail;refine U.mono ?_;rintro e w4 ⟨V,Y⟩;obtain⟨z,O⟩:=zx (if(0:Int)≠0 then 0 else runE S L);rw[<-O] at V;subst V;have H5:=Hid.mk' Y;have HZ:=Hid.mk' O;clear Y U O;go_wp2_with fail;go_ret;exact⟨by rw[HZ.out];rfl,H5.out⟩
 ·have ap:(k !=0)=true:=by simpa using g
  have hv:=M g;subst hv;have Z:=z9 (La.bel y.out l);have HK:=Hid.mk' g;clear C K M l g m o q r;go_wp2_with fail;go_ret;exact EdP.no HD.out HK.out Z.out
theorem aDW(E:Nat)(b c:Int)(S:Dq)(F:Nat->Prop)(w:World)(hi:i<n)(hn:n<=4)(hX:∀W,zB w W->W.cell? ⟨X,0,none⟩=some (.slice (some ⟨gD,0,none⟩) n cD))(hE:∀W,zB w W->W.cell? ⟨gD,i,none⟩=some (.pointer (some ⟨E,0,none⟩)))(h:RefD w E S F)(hsz:edE S ((i:Int)+1) (1,i,b,c)=0->∀x ∈ edL S ((i:Int)+1) (1,i,b,c),x.2.2.1.size<=maxLen):
  Calls Tryz.prog 22 #[.pointer (some ⟨X,0,none⟩),.agg #[.int .i64 1,.int .i64 i,.int .i64 b,.int .i64 c]] w (EdP w E S F (edE S ((i:Int)+1) (1,i,b,c)) (edL S ((i:Int)+1) (1,i,b,c))):=by
 by_cases O:c<32\/126<c
 ·have ae:edE S ((i:Int)+1) (1,i,b,c)=1:=by unfold edE;rw[if_pos rfl,if_pos O]
  have H:Bm.isL c=false:=by unfold Bm.isL;simp;omega
  rw[ae];have T:=Hid.mk' h;have I:=Hid.mk' hX;have U:=Hid.mk' hE;generalize edL S ((i:Int)+1) (1,i,b,c)=L;have g:zB w (w.alloc (.cells #[zI 1,zI i,zI b,zI c] 33)):=(qD _ _).alloc (qC _) _;have f:=heap_alloc_new w (.cells #[zI 1,zI i,zI b,zI c] 33);have iz:decide ((i:Int)<0)=false:=by simp
  have af:decide ((n:Int)<=(i:Int))=false:=by simp;omega
  have i4:(i:Int)<=4:=by omega
  have V:(i:Int)<(n:Int):=by omega
  clear hX hE h hsz O;go_in;go_upto_region 1 with fail
  generalize w.alloc (.cells #[zI 1,zI i,zI b,zI c] 33)=w0 at g f |-
  have s:Hid (∀W,zB w0 W->W.cell? (zW w)=some (zI 1)/\W.cell? ⟨w.heap.size,1,none⟩=some (zI i)/\W.cell? ⟨w.heap.size,2,none⟩=some (zI b)/\W.cell? ⟨w.heap.size,3,none⟩=some (zI c)):=fun W hb=>
   ⟨aA hb (aB f (i:=0) rfl),aA hb (aB f (i:=1) rfl),aA hb (aB f (i:=2) rfl),aA hb (aB f (i:=3) rfl)⟩
  have J:=Hid.mk' g;obtain⟨j,l,m,o⟩:=s.out w0 (qD _ _);have t:=I.out _ g;clear g f;go_wp2_with fail;go_quiet (fail)
  generalize d:World.drewN _ _=w1;have q:Hid (zB w w1):=by rw[<-d];exact La.aC J.out _
  have r:Hid (zB w0 w1):=by rw[<-d];exact La.aC (qD _ _) _
  clear d j l m o t;obtain⟨j,l,m,o⟩:=s.out w1 r.out;have t:=I.out _ q.out;have Y:=U.out _ q.out;go_wp2_with fail;go_quiet (fail)
  generalize d:World.drewN _ _=w2;have B:Hid (zB w w2):=by rw[<-d];exact La.aC q.out _
  have K:Hid (zB w0 w2):=by rw[<-d];exact La.aC r.out _
  clear d j l m o t Y;obtain⟨j,l,m,o⟩:=s.out w2 K.out;have y:=Lp.dG c w2;rw[H] at y;go_wp2_with fail;refine y.mono ?_;rintro e w3 ⟨rfl,M⟩;subst M;clear y;go_wp2_with fail;go_ret;exact EdP.no T.out (by decide) B.out
 ·have ah:32<=c:=by omega
  have Z:c<=126:=by omega
  have H:Bm.isL c=true:=by unfold Bm.isL;simp;omega
  have Q:Hid (Pair w E S F 42 #[.pointer (some (zA E)),zI ((i:Int)+1),zI b,.string (oneT c)] (edE S ((i:Int)+1) (1,i,b,c)) (edL S ((i:Int)+1) (1,i,b,c))):=by
   refine zE h hsz fun P G W hR=> ?_
   unfold edE edL;rw[if_pos rfl,if_pos rfl,if_neg O];exact Uvp.aCA P E S G _ _ _ W hR (by rw[aBc];unfold maxLen;omega)
  have T:=Hid.mk' h;have I:=Hid.mk' hX;have U:=Hid.mk' hE;generalize edE S ((i:Int)+1) (1,i,b,c)=k at Q |-;generalize edL S ((i:Int)+1) (1,i,b,c)=L at Q |-;have g:zB w (w.alloc (.cells #[zI 1,zI i,zI b,zI c] 33)):=(qD _ _).alloc (qC _) _;have f:=heap_alloc_new w (.cells #[zI 1,zI i,zI b,zI c] 33);have iz:decide ((i:Int)<0)=false:=by simp
  have af:decide ((n:Int)<=(i:Int))=false:=by simp;omega
  have i4:(i:Int)<=4:=by omega
  have V:(i:Int)<(n:Int):=by omega
  clear hX hE h hsz O;go_in;go_upto_region 1 with fail
  generalize w.alloc (.cells #[zI 1,zI i,zI b,zI c] 33)=w0 at g f |-
  have s:Hid (∀W,zB w0 W->W.cell? (zW w)=some (zI 1)/\W.cell? ⟨w.heap.size,1,none⟩=some (zI i)/\W.cell? ⟨w.heap.size,2,none⟩=some (zI b)/\W.cell? ⟨w.heap.size,3,none⟩=some (zI c)):=fun W hb=>
   ⟨aA hb (aB f (i:=0) rfl),aA hb (aB f (i:=1) rfl),aA hb (aB f (i:=2) rfl),aA hb (aB f (i:=3) rfl)⟩
  have J:=Hid.mk' g;obtain⟨j,l,m,o⟩:=s.out w0 (qD _ _);have t:=I.out _ g;clear g f;go_wp2_with fail;go_quiet (fail)
  generalize d:World.drewN _ _=w1;have q:Hid (zB w w1):=by rw[<-d];exact La.aC J.out _
  have r:Hid (zB w0 w1):=by rw[<-d];exact La.aC (qD _ _) _
  clear d j l m o t;obtain⟨j,l,m,o⟩:=s.out w1 r.out;have t:=I.out _ q.out;have Y:=U.out _ q.out;go_wp2_with fail;go_quiet (fail)
  generalize d:World.drewN _ _=w2;have B:Hid (zB w w2):=by rw[<-d];exact La.aC q.out _
  have K:Hid (zB w0 w2):=by rw[<-d];exact La.aC r.out _
  clear d j l m o t Y;obtain⟨j,l,m,o⟩:=s.out w2 K.out;have y:=Lp.dG c w2;rw[H] at y;go_wp2_with fail;refine y.mono ?_;rintro e w3 ⟨rfl,M⟩;subst M;clear y;have R:=rV w3 c ah Z;have N:Hid (zB w (w3.alloc (.cells #[.int .u8 c] 5))):=B.out.alloc B.out.size _;have C:=Q.out.ed _ N.out;go_wp2_with fail;refine C.mono ?_;rintro e w4 ⟨v,rfl,h1,h2,D⟩;by_cases A:k=0
  ·have ho:=h1 A;have C2:=Q.out.do' A _ w4 v N.out D ho
   obtain⟨pv,nv,cv,rfl⟩:∃p n c,v=.slice p n c:=by obtain⟨p,c,e,_⟩:=ho;exact⟨_,_,_,e⟩
   subst A;clear C R h1 h2 D ho j l m o;go_wp2_with fail;refine C2.mono ?_;rintro e w5 ⟨he,h5⟩;obtain⟨z,hz⟩:=zx (if(0:Int)≠0 then 0 else runE S L);rw[<-hz] at he;subst he;have H5:=Hid.mk' h5;have HZ:=Hid.mk' hz;clear h5 C2 hz;go_wp2_with fail;go_ret;exact⟨by rw[HZ.out];rfl,H5.out⟩
  ·have aw:(k !=0)=true:=by simpa using A
   have hv:=h2 A;subst hv;have al:=z9 (La.bel N.out D);have HK:=Hid.mk' A;clear C R h1 h2 D A j l m o;go_wp2_with fail;go_ret;exact EdP.no T.out HK.out al.out
end Hk
end Go.Proofs.YtjcemlmlfoilmaaGreatDoor
