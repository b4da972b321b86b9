import Derived.Test.YtjcemlmlfoilmaaGreatDoorH2
import Derived.Test.YtjcemlmlfoilmaaGreatDoorA2
import Derived.Test.YtjcemlmlfoilmaaGreatDoorU2
import Derived.Deep.DeepCutAuto
set_option linter.unusedSimpArgs false
set_option linter.unusedVariables false
set_option maxRecDepth 100000
set_option maxHeartbeats 8000000
namespace Go.Proofs.YtjcemlmlfoilmaaGreatDoor
open Om Hm Ie Um Hc Go.RowKit Ka Ia Ic Ue Hd
open Go.Proofs.Tryz (prog)
namespace Ho
open Aa Ov
theorem kS:∀(l:List Ox),(∀o ∈ l,opE o=0)->(eachB l).length<=142*l.length
 | [],_=>by simp[eachB]
 | o::l,h=>by
  have h1:=kS l (fun x hx=>h x (jO _ hx))
  have h2:=(lA (h o (xA ..))).2
  rw[iM,qE,qE,bO,qV]
  omega
theorem wQ{l:List Ox}(h:packE l=0):(packT l).size<=maxLen:=by
 obtain⟨b,a⟩:=dC.1 h;have c:=kS l a;have d:(packB l).length<=60000:=by unfold packB;rw[qE,bO];omega
 show(packB l).toArray.size<=_
 rw[List.size_toArray];unfold maxLen;omega
theorem aEe{l:List Ox}(h:packE l=0):packS l=packT l:=by unfold packS packT;rw[if_pos h]
theorem aE1{A B:Dq}(IA:Inv A)(IB:Inv B):Ag.qR A B.known=packT (lackL A.ops B.known):=by
 unfold Ag.qR;rw[if_neg (by rw[Ii.zF IB];simp)];exact aEe (Ag.lO IA _)
theorem tJ{S:Dq}(I:Inv S){p:ByteArray}(h:p ∈ seenP S.book):p.size<=maxLen:=by
 obtain⟨x,a,_,rfl⟩:=pR h;exact eM I.book x a
theorem sA{l:List ByteArray}(h:∀p ∈ l,p.size<=maxLen)(k:Nat):(l.getD k ⟨#[]⟩).size<=maxLen:=by
 rw[qA]
 cases hk:l[k]? with
 | none=>show(0:Nat)<=_;omega
 | some p=>exact h p (List.mem_of_getElem? hk)
theorem aGY{S:Dq}(I:Inv S){w:Int}{e:Ev}(he:edE S w e=0):∀x ∈ edL S w e,x.2.2.1.size<=maxLen:=by
 unfold edE at he;unfold edL;intro x hx;by_cases a:e.1=1
 ·rw[if_pos a] at he hx;split at he
  ·cases he
  ·have:=aDR I.book (vG.1 he) x hx;unfold maxLen;omega
 ·rw[if_neg a] at he hx;by_cases b:e.1=2
  ·rw[if_pos b] at hx;unfold delL at hx;obtain⟨k,_,rfl⟩:=xV.1 hx;refine sA (fun p hp=>tJ I ?_) k;unfold aGJ at hp;exact vT (List.mem_of_mem_drop hp)
  ·rw[if_neg b] at hx;have c:(atP S e.2.2.1).size<=maxLen:=sA (fun p hp=>tJ I hp) _;by_cases d:e.1=7
   ·rw[if_pos d] at hx;unfold splL at hx;rw[qP] at hx;subst hx;exact c
   ·rw[if_neg d] at hx;unfold fusL at hx;rw[qP] at hx;subst hx;exact c
theorem aIm{S:Dq}(I:Inv S){w:Int}(hw:Pm.isWho w=true)(b:Int):delE S w b (IntKind.i64.wrap (b+1))=if b<0\/((seenP S.book).length:Int)<=b then 1 else 0:=by
 have c:(seenP S.book).length<=300:=qO (dA _) (Il.bR I);unfold delE;rw[hw,if_neg (by simp),IntKind.wrap_i64];by_cases h:b<0\/((seenP S.book).length:Int)<=b
 ·rw[if_pos h,if_pos];rcases h with h | h
  ·exact qH h
  ·omega
 ·rw[if_neg h,if_neg];omega
theorem aJi{S:Dq}(I:Inv S){w b:Int}(h:¬(b<0\/((seenP S.book).length:Int)<=b)):IntKind.i64.wrap (b+1)=b+1:=by
 have a:(seenP S.book).length<=300:=qO (dA _) (Il.bR I);rw[IntKind.wrap_i64];omega
end Ho
namespace Ht
open Im Ho
open La (bel aH)
variable {B B':Nat}{v:Value}(D:Nat)(who a b c k:Int)(L:List Ox)(w:World)
theorem rV(c:Int)(h1:32<=c)(h2:c<=126):
  (convert 86 9 (.slice (some ⟨w.heap.size,0,none⟩) 1 1)).run prog (w.alloc (.cells #[.int .u8 c] 5))=.ok (.string (oneT c)) (w.alloc (.cells #[.int .u8 c] 5)):=by
 have a:(w.alloc (.cells #[.int .u8 c] 5)).heap[w.heap.size]? =some (.cells #[.int .u8 c] 5):=heap_alloc_new w _
 refine run_convert_bytes_back (P:=prog) _ 86 9 5 (zW w) 1 [u8 c] Tryz.underlying86 Tryz.underlying5 Tryz.underlying9 ?_
 intro j hj
 rw[jU,qY]
 simp only[World.cell?,a]
 match j,hj with
 | 0,_=>show some (Value.int .u8 c)=some (Value.int .u8 ((u8 c).toNat:Int));rw[aGv h1 h2]
theorem aBE{w:World}{z n:Nat}{t:TypeId}{xs:List Value}(h:w.ownsRow B t z v n xs)(hB:B'<=B):w.ownsRow B' t z v n xs:=by
 refine⟨h.1, ?_⟩;rcases h.2 with h0 | ⟨g,cap,cur,h1,h2,h3⟩
 ·exact qH h0
 ·exact qF ⟨g,cap,cur,h1,qO hB h2,h3⟩
theorem OpsNew.base{w:World}{l:List Ox}(h:OpsNew B w v l)(hB:B'<=B):OpsNew B' w v l:=by
 obtain⟨g,L,a,b,c,d,e,f⟩:=h;exact⟨g,L,a,qO hB b,c,d,e,fun y hy=>aBE (f y hy) hB⟩
theorem EdPost.slice{w w':World}{k:Int}{L:List Ox}{v:Value}(h1:k=0->OpsNew w.heap.size w' v L)(h2:k≠0->v=.slice none 0 0):∃p n c,v=.slice p n c:=by
 by_cases b:k=0
 ·obtain⟨g,L,e,_⟩:=h1 b;exact⟨_,_,_,e⟩
 ·exact⟨_,_,_,h2 b⟩
theorem aEd(C:∀W,zB w W->Calls prog 77 #[ptr D,.int .i64 who,.int .i64 b] W (EdPost W k L)):
  Calls prog 50 #[evV (7,a,b,c),ptr D,.int .i64 who] w (EdPost w k L):=by
 have f:zB w (w.alloc (.cells #[zI 7,zI a,zI b,zI c] 33)):=zb _ _;have d:=heap_alloc_new w (.cells #[zI 7,zI a,zI b,zI c] 33);go_in;go_upto_region 1 with fail
 generalize w.alloc (.cells #[zI 7,zI a,zI b,zI c] 33)=w0 at f d |-;have g:=Hid.mk' f;have o:=aB d (i:=0) (u:=zI 7) rfl;have p:=aB d (i:=1) (u:=zI a) rfl;have q:=aB d (i:=2) (u:=zI b) rfl;have r:=aB d (i:=3) (u:=zI c) rfl;have m:=C _ f;go_wp2_with fail;refine m.mono ?_;rintro e w3 ⟨v,rfl,j,l,h⟩;obtain⟨s,t,y,rfl⟩:=EdPost.slice j l;have n:Hid (EdPost w k L (.returned (.tuple #[.slice s t y,errV k])) w3):=⟨_,rfl,fun e=>OpsNew.base (j e) g.out.size,l,bel g.out h⟩;generalize errV k=ek at n |-;clear j l h m C f d o p q r;go_wp2_with fail;go_ret2;exact n.out
theorem aF3(C:∀W,zB w W->Calls prog 78 #[ptr D,.int .i64 who,.int .i64 b] W (EdPost W k L)):
  Calls prog 50 #[evV (8,a,b,c),ptr D,.int .i64 who] w (EdPost w k L):=by
 have f:zB w (w.alloc (.cells #[zI 8,zI a,zI b,zI c] 33)):=zb _ _;have d:=heap_alloc_new w (.cells #[zI 8,zI a,zI b,zI c] 33);go_in;go_upto_region 1 with fail
 generalize w.alloc (.cells #[zI 8,zI a,zI b,zI c] 33)=w0 at f d |-;have g:=Hid.mk' f;have o:=aB d (i:=0) (u:=zI 8) rfl;have p:=aB d (i:=1) (u:=zI a) rfl;have q:=aB d (i:=2) (u:=zI b) rfl;have r:=aB d (i:=3) (u:=zI c) rfl;have m:=C _ f;go_wp2_with fail;refine m.mono ?_;rintro e w3 ⟨v,rfl,j,l,h⟩;obtain⟨s,t,y,rfl⟩:=EdPost.slice j l;have n:Hid (EdPost w k L (.returned (.tuple #[.slice s t y,errV k])) w3):=⟨_,rfl,fun e=>OpsNew.base (j e) g.out.size,l,bel g.out h⟩;generalize errV k=ek at n |-;clear j l h m C f d o p q r;go_wp2_with fail;go_ret2;exact n.out
theorem aDX(b1:Int)(hwr:IntKind.i64.wrap (b+1)=b1)(L:List Ox)(w:World)(C:∀W,zB w W->Calls prog 76 #[ptr D,.int .i64 who,.int .i64 b,.int .i64 b1] W (EdPost W k L)):
  Calls prog 50 #[evV (2,a,b,c),ptr D,.int .i64 who] w (EdPost w k L):=by
 have f:zB w (w.alloc (.cells #[zI 2,zI a,zI b,zI c] 33)):=zb _ _;have d:=heap_alloc_new w (.cells #[zI 2,zI a,zI b,zI c] 33);go_in;go_upto_region 1 with fail
 generalize w.alloc (.cells #[zI 2,zI a,zI b,zI c] 33)=w0 at f d |-;have g:=Hid.mk' f;have o:=aB d (i:=0) (u:=zI 2) rfl;have p:=aB d (i:=1) (u:=zI a) rfl;have q:=aB d (i:=2) (u:=zI b) rfl;have r:=aB d (i:=3) (u:=zI c) rfl;have m:=C _ f;go_wp2_with fail;refine m.mono ?_;rintro e w3 ⟨v,rfl,j,l,h⟩;obtain⟨s,t,y,rfl⟩:=EdPost.slice j l;have n:Hid (EdPost w k L (.returned (.tuple #[.slice s t y,errV k])) w3):=⟨_,rfl,fun e=>OpsNew.base (j e) g.out.size,l,bel g.out h⟩;generalize errV k=ek at n |-;clear j l h m C f d o p q r;go_wp2_with fail;go_ret2;exact n.out
theorem aGE(h32:32<=c)(h126:c<=126)(C:∀W,zB w W->Calls prog 75 #[ptr D,.int .i64 who,.int .i64 b,.string (oneT c)] W (EdPost W k L)):
  Calls prog 50 #[evV (1,a,b,c),ptr D,.int .i64 who] w (EdPost w k L):=by
 have o:Bm.isL c=true:=by unfold Bm.isL;simp;omega
 have f:zB w (w.alloc (.cells #[zI 1,zI a,zI b,zI c] 33)):=zb _ _;have d:=heap_alloc_new w (.cells #[zI 1,zI a,zI b,zI c] 33);go_in;go_upto_region 1 with fail
 generalize w.alloc (.cells #[zI 1,zI a,zI b,zI c] 33)=w0 at f d |-;have h:=Hid.mk' f;have t:=aB d (i:=0) (u:=zI 1) rfl;have y:=aB d (i:=1) (u:=zI a) rfl;have z:=aB d (i:=2) (u:=zI b) rfl;have A:=aB d (i:=3) (u:=zI c) rfl;have l:=Lb.bV c w0;rw[o] at l;go_wp2_with fail;refine l.mono ?_;rintro e w3 ⟨rfl,p⟩;subst p;clear l;have q:=rV w3 c h32 h126;have g:Hid (zB w (w3.alloc (.cells #[.int .u8 c] 5))):=h.out.alloc h.out.size _;have r:=C _ g.out;go_wp2_with fail;refine r.mono ?_;rintro e w4 ⟨v,rfl,m,n,j⟩;obtain⟨E,F,G,rfl⟩:=EdPost.slice m n;have s:Hid (EdPost w k L (.returned (.tuple #[.slice E F G,errV k])) w4):=⟨_,rfl,fun e=>OpsNew.base (m e) g.out.size,n,bel g.out j⟩;generalize errV k=ek at s |-;clear m n j r C f d t y z A q;go_wp2_with fail;go_ret2;exact s.out
theorem aFR(hl:c<32\/126<c):
  Calls prog 50 #[evV (1,a,b,c),ptr D,.int .i64 who] w (EdPost w 1 L):=by
 have h:Bm.isL c=false:=by unfold Bm.isL;simp;omega
 have f:zB w (w.alloc (.cells #[zI 1,zI a,zI b,zI c] 33)):=(qD _ _).alloc (qC _) _;have d:=heap_alloc_new w (.cells #[zI 1,zI a,zI b,zI c] 33);go_in;go_upto_region 1 with fail
 generalize w.alloc (.cells #[zI 1,zI a,zI b,zI c] 33)=w0 at f d |-;have j:=Hid.mk' f;have m:=aB d (i:=0) (u:=zI 1) rfl;have n:=aB d (i:=1) (u:=zI a) rfl;have o:=aB d (i:=2) (u:=zI b) rfl;have p:=aB d (i:=3) (u:=zI c) rfl;have g:=Lb.bV c w0;rw[h] at g;clear f d hl;go_wp2_with fail;refine g.mono ?_;rintro e w3 ⟨rfl,k⟩;subst k;clear g;go_wp2_with fail;go_ret2;exact⟨_,by rw[aH (by decide)];rfl,fun e=>absurd e (by decide),fun _=>rfl,j.out⟩
theorem is_ed{t:Int}(h:isEd t=true):t=1\/t=2\/t=7\/t=8:=by
 unfold isEd at h;simpa using h
theorem aDT(S:Dq)(F:Nat->Prop)(who t a b c:Int)(w:World)(h:DocAt w D S F)(hw:Pm.isWho who=true)(ht:isEd t=true):
  Calls prog 50 #[evV (t,a,b,c),ptr D,.int .i64 who] w (EdPost w (edE S who (t,a,b,c)) (edL S who (t,a,b,c))):=by
 rcases is_ed ht with rfl | rfl | rfl | rfl
 ·by_cases d:c<32\/126<c
  ·rw[show edE S who (1,a,b,c)=1 by unfold edE;dsimp only;rw[if_pos rfl,if_pos d]];exact aFR D who a b c _ w d
  ·rw[show edE S who (1,a,b,c)=insE S who b (oneT c) by unfold edE;dsimp only;rw[if_pos rfl,if_neg d],show edL S who (1,a,b,c)=insL S who b (oneT c) by unfold edL;dsimp only;rw[if_pos rfl]];exact aGE D who a b c _ _ w (by omega) (by omega) fun W hb=>aCd D S F who b (oneT c) W (h.below hb) (by rw[aBc];unfold maxLen;omega)
 ·have i:edE S who (2,a,b,c)=delE S who b (IntKind.i64.wrap (b+1)):=by
   rw[aIm h.inv hw b];unfold edE;dsimp only;rw[if_neg (by decide),if_pos rfl]
  have C:=aDX D who a b c (delE S who b (IntKind.i64.wrap (b+1))) _ rfl (delL S who b (IntKind.i64.wrap (b+1))) w fun W hb=>Uq.aCl D S F who b _ W (h.below hb)
  rw[i];by_cases f:b<0\/((seenP S.book).length:Int)<=b
  ·have j:delE S who b (IntKind.i64.wrap (b+1))=1:=by rw[aIm h.inv hw b,if_pos f]
   rw[j] at C |-;refine C.mono ?_;rintro e w' ⟨v,k,q,l,m⟩;exact⟨v,k,fun e=>absurd e (by decide),l,m⟩
  ·have n:=aJi (w:=who) h.inv f;rw[n] at C |-;rw[show edL S who (2,a,b,c)=delL S who b (b+1) by unfold edL;dsimp only;rw[if_neg (by decide),if_pos rfl]];exact C
 ·rw[show edE S who (7,a,b,c)=atE S who b by unfold edE;dsimp only;rw[if_neg (by decide),if_neg (by decide),if_pos rfl],show edL S who (7,a,b,c)=splL S who b by unfold edL;dsimp only;rw[if_neg (by decide),if_neg (by decide),if_pos rfl]];exact aEd D who a b c _ _ w fun W hb=>Uf.aEJ D S F who b W (h.below hb)
 ·rw[show edE S who (8,a,b,c)=fusE S who b by unfold edE;dsimp only;rw[if_neg (by decide),if_neg (by decide),if_neg (by decide)],show edL S who (8,a,b,c)=fusL S who b by unfold edL;dsimp only;rw[if_neg (by decide),if_neg (by decide),if_neg (by decide)]];exact aF3 D who a b c _ _ w fun W hb=>Ur.aFF D S F who b W (h.below hb)
end Ht
namespace Gg
open Cm Oz Ua Hl Ho Hs Ht
open La (bel aD aH)
theorem aH2(X n cn:Nat)(t a b c:Int)(p:Option Addr)(w:World)(c0:∀W,zB w W->W.cell? ⟨X,0,none⟩=some (.slice p n cn))(hn:n<=4)(ha:out n a):Calls prog 26 #[ptr X,evV (t,a,b,c)] w fun r w'=>r=.returned (.iface 59 (.int .i64 1))/\zB w w':=by
 have f:zB w (w.alloc (.cells #[zI t,zI a,zI b,zI c] 33)):=(qD _ _).alloc (qC _) _;have d:=heap_alloc_new w (.cells #[zI t,zI a,zI b,zI c] 33);go_in;go_upto_region 1 with fail
 generalize w.alloc (.cells #[zI t,zI a,zI b,zI c] 33)=w0 at f d |-;have g:=Hid.mk' f;have j:=aB d (i:=0) (u:=zI t) rfl;have k:=aB d (i:=1) (u:=zI a) rfl;have l:=aB d (i:=2) (u:=zI b) rfl;have m:=aB d (i:=3) (u:=zI c) rfl;have C:=aFD X n cn a p w0 (c0 _ f) hn ha;clear f d c0 ha;go_wp2_with fail;refine C.mono ?_;rintro e w3 ⟨rfl,rfl⟩;clear C;go_wp2_with fail;go_ret;exact⟨rfl,g.out⟩
theorem aFq(X n cn g i D:Nat)(t b c:Int)(S:Dq)(F:Nat->Prop)(w:World)(c0:∀W,zB w W->W.cell? ⟨X,0,none⟩=some (.slice (some ⟨g,0,none⟩) n cn))(c1:∀W,zB w W->W.cell? ⟨g,i,none⟩=some (ptr D))(hn:n<=4)(hi:i<n)(h:DocAt w D S F)(ht:isEd t=true):
  Calls prog 26 #[ptr X,evV (t,i,b,c)] w fun r w'=>
   r=.returned (errV (if edE S ((i:Int)+1) (t,i,b,c)≠0 then edE S ((i:Int)+1) (t,i,b,c) else runE S (edL S ((i:Int)+1) (t,i,b,c))))/\
   ∃F',DocAt w' D (if edE S ((i:Int)+1) (t,i,b,c)≠0 then S else runS S (edL S ((i:Int)+1) (t,i,b,c))) F'/\Chg F w w'/\∀g,F' g->F g\/w.heap.size<=g:=by
 have q:Pm.isWho ((i:Int)+1)=true:=Ub.bN.2 (by omega);have ab:IntKind.i64.wrap ((i:Int)+1)=(i:Int)+1:=bG (by omega) (by omega);have y:Hid (∀W,zB w W->Calls prog 50 #[evV (t,i,b,c),ptr D,zI ((i:Int)+1)] W (EdPost W (edE S ((i:Int)+1) (t,i,b,c)) (edL S ((i:Int)+1) (t,i,b,c)))):=fun W hb=>aDT D S F _ t i b c W (h.below hb) q ht
 have A:Hid (edE S ((i:Int)+1) (t,i,b,c)=0->∀x ∈ edL S ((i:Int)+1) (t,i,b,c),x.2.2.1.size<=maxLen):=fun e=>aGY h.inv e
 have B:=Hid.mk' h;have R:=Hid.mk' c0;have T:=Hid.mk' c1;generalize edE S ((i:Int)+1) (t,i,b,c)=k at y A |-;generalize edL S ((i:Int)+1) (t,i,b,c)=L at y A |-;have i4:(i:Int)<=4:=by omega
 clear c0 c1 h q ht;have d:zB w (w.alloc (.cells #[zI t,zI i,zI b,zI c] 33)):=(qD _ _).alloc (qC _) _;have a:=heap_alloc_new w (.cells #[zI t,zI i,zI b,zI c] 33);go_in;go_upto_region 1 with fail
 generalize w.alloc (.cells #[zI t,zI i,zI b,zI c] 33)=w0 at d a |-;have j:=Hid.mk' d;have H:=aB a (i:=0) (u:=zI t) rfl;have I:=aB a (i:=1) (u:=zI i) rfl;have J:=aB a (i:=2) (u:=zI b) rfl;have K:=aB a (i:=3) (u:=zI c) rfl;have C:=aDM X n cn g i D w0 (R.out _ d) hn hi (T.out _ d);clear hi;go_wp2_with fail;refine C.mono ?_;rintro e w3 ⟨rfl,M⟩;subst M;have E:=y.out w3 j.out;clear C d a;go_wp2_with fail;refine E.mono ?_;rintro e w4 ⟨v,rfl,o,p,l⟩;have f:=z9 (bel j.out l);by_cases m:k=0
 ·subst m;have N:=zX D S F _ v L w4 (B.out.below f.out) (aHR.new (o rfl)) (fun g hg=>⟨hg.2,fun e=>by have:=B.out.lt g e;have:=j.out.size;have:=hg.1;omega⟩) (A.out rfl);obtain⟨pv,nv,cv,rfl⟩:=EdPost.slice o p;rw[aD];clear E o p l H I J K;go_wp2_with fail;refine N.mono ?_;rintro e w5 ⟨U,F',O,P,Q⟩;subst U;have V:Hid (∃F',DocAt w5 D (runS S L) F'/\Chg F w w5/\∀g,F' g->F g\/w.heap.size<=g):=⟨F',O,(Chg.ofBelow f.out F).trans P,fun g hg=>(Q g hg).imp id fun e=>qO f.out.size e⟩;obtain⟨z,G⟩:=zx (errV (runE S L));have Y:=Hid.mk' G;rw[<-G];clear O P Q N G;go_wp2_with fail;go_ret;exact⟨by rw[Y.out];rfl,V.out⟩
 ·have Z:=p m;subst Z;rw[aH m];have HK:=Hid.mk' m;clear E o p l m H I J K;go_wp2_with fail;go_ret;exact⟨by rw[aH HK.out];rfl,F,B.out.below f.out,Chg.ofBelow f.out F,fun g hg=>qH hg⟩
theorem aGO(X:Nat)(N:Nt)(F:Nat->Prop)(e:Ev)(w:World)(h:At w X N F)(he:isEd e.1=true):Calls prog 26 #[ptr X,evV e] w fun r w'=>r=.returned (errV (evE N e))/\Left' w X F (evS N e) w':=by
 obtain⟨t,a,b,c⟩:=e;have J:=h;obtain⟨U,V,E,K,m,B⟩:=h;obtain⟨p,C,rfl,_,_,M⟩:=m.fC;have he':isEd t=true:=he;by_cases d:out N.ds.length a
 ·have y:evE N (t,a,b,c)=1:=by unfold evE;dsimp only;rw[if_pos he',if_pos d]
  have z:evS N (t,a,b,c)=N:=by unfold evS;dsimp only;rw[if_pos he',if_pos d]
  rw[y,z,aH (by decide)];refine(aH2 X _ C t a b c p w (fun W f=>aA f (aB m.blk (i:=0) rfl)) m.few d).mono ?_;rintro r w' ⟨rfl,f⟩;exact⟨rfl,bS J f⟩
 ·obtain⟨i,rfl⟩:∃i:Nat,a=i:=⟨a.toNat,by unfold out at d;omega⟩;have l:i<N.ds.length:=by unfold out at d;omega
  obtain⟨g,rfl,O⟩:=M (by omega)
  have y:evE N (t,i,b,c)=if edE (dq N i) ((i:Int)+1) (t,i,b,c)≠0 then edE (dq N i) ((i:Int)+1) (t,i,b,c) else runE (dq N i) (edL (dq N i) ((i:Int)+1) (t,i,b,c)):=by
   unfold evE;dsimp only;rw[if_pos he',if_neg d];rfl
  have z:evS N (t,i,b,c)=if edE (dq N i) ((i:Int)+1) (t,i,b,c)≠0 then N else{ N with ds:=N.ds.set i (runS (dq N i) (edL (dq N i) ((i:Int)+1) (t,i,b,c))) }:=by
   unfold evS;dsimp only;rw[if_pos he',if_neg d];rfl
  rw[y,z];refine(aFq X _ C g i (E i) t b c (dq N i) (K i) w (fun W f=>aA f (aB m.blk (i:=0) rfl)) (fun W f=>aA f (O i l)) m.few l (m.docs.at' i l) he').mono ?_;rintro r w' ⟨rfl,G,P,Q,R⟩;refine⟨rfl, ?_⟩;obtain⟨q,D,s⟩:=m.aAH l P Q R;by_cases H:edE (dq N i) ((i:Int)+1) (t,i,b,c)≠0
  ·rw[if_pos H] at q s |-
   have S:({ N with ds:=N.ds.set i (dq N i) }:Nt)=N:=by
    have:N.ds.set i (dq N i)=N.ds:=by
     apply yE;intro j;rw[List.getElem?_set];by_cases I:i=j
     ·subst I;rw[if_pos rfl,if_pos l];unfold dq;rw[qA,qB l];rfl
     ·rw[if_neg I]
    rw[this]
   rw[S] at q;have T:(N.ds.set i (dq N i)).length=N.ds.length:=jN;rw[T] at s;exact dM B q D s
  ·rw[if_neg H] at q s |-;exact dM B q D s
end Gg
end Go.Proofs.YtjcemlmlfoilmaaGreatDoor
