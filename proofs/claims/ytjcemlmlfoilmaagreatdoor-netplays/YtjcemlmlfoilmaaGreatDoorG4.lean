import Derived.Test.YtjcemlmlfoilmaaGreatDoorGi
import Derived.Test.YtjcemlmlfoilmaaGreatDoorGj
import Derived.Test.YtjcemlmlfoilmaaGreatDoorHq
set_option linter.unusedSimpArgs false
set_option linter.unusedVariables false
set_option maxRecDepth 100000
set_option maxHeartbeats 8000000
namespace Go.Proofs.YtjcemlmlfoilmaaGreatDoor
open Oz Ic Hc Hd
open Go.Proofs.Tryz (prog)
namespace Gk
open Um Aa Gp
variable {vd vu:Value}{E:Nat->Nat}{Fd:Nat->Nat->Prop}(X:Nat)(N:Nt)(F:Nat->Prop)(a b c:Int)(w:World)
theorem cell0{w:World}{X:Nat}{N:Nt}(m:NAt w X vd vu N E Fd):∃p cn,∀W,zB w W->W.cell? ⟨X,0,none⟩=some (.slice p N.ds.length cn):=by
 obtain⟨p,cn,a,_,_,c⟩:=m.fC;exact⟨p,cn,fun W hb=>aA hb (by have:=aB m.blk (i:=0) (u:=vd) rfl;rw[a] at this;exact this)⟩
theorem aFN{w:World}{X:Nat}{N:Nt}(m:NAt w X vd vu N E Fd):∃p cn,∀W,zB w W->W.cell? ⟨X,1,none⟩=some (.slice p N.us.length cn):=by
 obtain⟨p,cn,a,_,_,c⟩:=m.fJ;exact⟨p,cn,fun W hb=>aA hb (by have:=aB m.blk (i:=1) (u:=vu) rfl;rw[a] at this;exact this)⟩
theorem aDO(h:At w X N F)(hu:N.us.length<=100):Calls prog 7 #[ptr X,evV (3,a,b,c)] w fun r w'=>r=.returned (.int .i64 (evE N (3,a,b,c)))/\Left' w X F (evS N (3,a,b,c)) w':=by
 have s:=h;obtain⟨C,D,E,G,m,H⟩:=h;obtain⟨p,t,v⟩:=cell0 m;obtain⟨J,K,L⟩:=aFN m;have f:isEd 3≠true:=by decide
 by_cases d:out N.ds.length a\/out N.ds.length b
 ·have g:evE N (3,a,b,c)=1:=by unfold evE;dsimp only;rw[if_neg f,if_pos rfl,if_pos d]
  have k:evS N (3,a,b,c)=N:=by unfold evS;dsimp only;rw[if_neg f,if_pos rfl,if_pos d]
  rw[g,k];refine(Gx.aHc X _ t a b c p w v m.few d).mono ?_;rintro r w' ⟨rfl,l⟩;exact⟨rfl,bS s l⟩
 ·obtain⟨i,rfl⟩:∃i:Nat,a=i:=⟨a.toNat,by unfold out at d;omega⟩;obtain⟨j,rfl⟩:∃j:Nat,b=j:=⟨b.toNat,by unfold out at d;omega⟩;have y:i<N.ds.length:=by unfold out at d;omega
  have A:j<N.ds.length:=by unfold out at d;omega
  by_cases o:i=j
  ·subst o;have g:evE N (3,i,i,c)=3:=by unfold evE;dsimp only;rw[if_neg f,if_pos rfl,if_neg d,if_pos rfl]
   have k:evS N (3,i,i,c)=N:=by unfold evS;dsimp only;rw[if_neg f,if_pos rfl,if_neg d,if_pos rfl]
   rw[g,k];refine(Gx.aCy X _ t i c p w v m.few y).mono ?_;rintro r w' ⟨rfl,l⟩;exact⟨rfl,bS s l⟩
  ·have B:¬(i:Int)=(j:Int):=by omega
   have g:evE N (3,i,j,c)=if 100<=N.us.length then 4 else 0:=by unfold evE;dsimp only;rw[if_neg f,if_pos rfl,if_neg d,if_neg B]
   have k:evS N (3,i,j,c)=if 100<=N.us.length then N else{ N with us:=N.us++[(j,packT (lackL (dq N i).ops (dq N j).known))] }:=by unfold evS;dsimp only;rw[if_neg f,if_pos rfl,if_neg d,if_neg B];rfl
   rw[g,k];by_cases q:100<=N.us.length
   ·rw[if_pos q,if_pos q];refine(Gx.aCS X _ t i j _ K c p J w v m.few L y A o q (by omega)).mono ?_;rintro r w' ⟨rfl,l⟩;exact⟨rfl,bS s l⟩
   ·rw[if_neg q,if_neg q];exact Gy.aEc X C D N E G F i j c w m H (by omega) y A o
theorem aEC(t a b c:Int)(w:World)(h:At w X N F)(hgl:Gl N)(hu:N.us.length<=100)(ht:isCo t=true):Calls prog 7 #[ptr X,evV (t,a,b,c)] w fun r w'=>r=.returned (.int .i64 (evE N (t,a,b,c)))/\Left' w X F (evS N (t,a,b,c)) w':=by
 have B:=h;obtain⟨q,s,E,v,m,y⟩:=h;have f:isEd t≠true:=by rcases Hw.is_co ht with rfl | rfl | rfl<;>decide
 have g:t≠3:=by rcases Hw.is_co ht with rfl | rfl | rfl<;>decide
 by_cases e:out N.us.length a
 ·have j:evE N (t,a,b,c)=1:=by unfold evE;dsimp only;rw[if_neg f,if_neg g,if_pos ht,if_pos e]
  have k:evS N (t,a,b,c)=N:=by unfold evS;dsimp only;rw[if_neg f,if_neg g,if_pos ht,if_pos e]
  rw[j,k];obtain⟨p,G,H⟩:=aFN m;refine(Gw.aFI X _ G t a b c p w H (by omega) e (Hw.is_co ht)).mono ?_;rintro r w' ⟨rfl,z⟩;exact⟨rfl,bS B z⟩
 ·obtain⟨i,rfl⟩:∃i:Nat,a=i:=⟨a.toNat,by unfold out at e;omega⟩;have l:i<N.us.length:=by unfold out at e;omega
  have A:par N (t,i,b,c)=N.us.getD i pz:=rfl;rcases Hw.is_co ht with rfl | rfl | rfl
  ·have j:evE N (4,i,b,c)=opnE (dq N (N.us.getD i pz).1) (N.us.getD i pz).2:=by unfold evE;dsimp only;rw[if_neg f,if_neg g,if_pos ht,if_neg e,if_neg (by decide),if_neg (by decide),A]
   have k:evS N (4,i,b,c)=⟨N.ds.set (N.us.getD i pz).1 (runS (dq N (N.us.getD i pz).1) (opnL (N.us.getD i pz).2)),N.us.eraseIdx i⟩:=by unfold evS;dsimp only;rw[if_neg f,if_neg g,if_pos ht,if_neg e,if_neg (by decide),if_neg (by decide),A];rfl
   rw[j,k];have n:N.us.getD i pz ∈ N.us:=by rw[qA,qB l];exact jF l
   exact Gj.aJd X q s N E v F i b c w m y hu l (hgl.par _ n).1 (hgl.ok _ n)
  ·have j:evE N (5,i,b,c)=0:=by unfold evE;dsimp only;rw[if_neg f,if_neg g,if_pos ht,if_neg e,if_neg (by decide),if_pos rfl]
   have k:evS N (5,i,b,c)={ N with us:=N.us.eraseIdx i }:=by unfold evS;dsimp only;rw[if_neg f,if_neg g,if_pos ht,if_neg e,if_neg (by decide),if_pos rfl];rfl
   rw[j,k];exact Gi.aI7 X q s N E v F i b c w m y hu l
  ·have j:evE N (6,i,b,c)=if 100<=N.us.length then 4 else 0:=by unfold evE;dsimp only;rw[if_neg f,if_neg g,if_pos ht,if_neg e,if_pos rfl]
   have k:evS N (6,i,b,c)=if 100<=N.us.length then N else{ N with us:=N.us++[N.us.getD i pz] }:=by unfold evS;dsimp only;rw[if_neg f,if_neg g,if_pos ht,if_neg e,if_pos rfl,A]
   rw[j,k];by_cases o:100<=N.us.length
   ·rw[if_pos o,if_pos o];refine(Gh.aBC X q s N E v F i b c w m y o (by omega) l).mono ?_;rintro r w' ⟨rfl,z⟩;exact⟨rfl,bS B z⟩
   ·rw[if_neg o,if_neg o];exact Gz.aCE X q s N E v F i b c w m y (by omega) l
theorem aJn(e:Ev)(w:World)(h:At w X N F)(hgl:Gl N)(hu:N.us.length<=100):Calls prog 7 #[ptr X,evV e] w fun r w'=>r=.returned (.int .i64 (evE N e))/\Left' w X F (evS N e) w':=by
 obtain⟨t,a,b,c⟩:=e;by_cases d:isEd t=true
 ·exact Gw.aGq X N F (t,a,b,c) w h d
 ·by_cases i:t=3
  ·subst i;exact aDO X N F a b c w h hu
  ·by_cases f:isCo t=true
   ·exact aEC X N F t a b c w h hgl hu f
   ·have m:evE N (t,a,b,c)=1:=by unfold evE;dsimp only;rw[if_neg d,if_neg i,if_neg f]
    have n:evS N (t,a,b,c)=N:=by unfold evS;dsimp only;rw[if_neg d,if_neg i,if_neg f]
    rw[m,n];unfold isEd at d;unfold isCo at f;simp only[xJ,decide_eq_true_eq,not_or] at d f;refine(Gw.aFE X t a b c w (by simp;omega) (by simp;omega) (by simp;omega) (by simp;omega) (by simp;omega) (by simp;omega) (by simp;omega) (by simp;omega)).mono ?_;rintro r w' ⟨rfl,o⟩;exact⟨rfl,bS h o⟩
end Gk
namespace Gu
open Go.RowKit Cm Ka Oa Hm Ia Hj Kl
open La (bel)
open Lj (BookAt)
structure Tw (w0 w:World) (X:Nat) (N:Nt) (Y:Nat) (M:Nt):Prop where
 ex:∃F G,Hl.At w X N F∧Gp.At w Y M G∧(∀g,F g→w0.heap.size≤g∧¬G g)∧(∀g,G g→w0.heap.size≤g)
 bel:Below w0.heap.size w0 w
theorem Tw.below{w0 w w':World}{X Y:Nat}{N M:Nt}(h:Tw w0 w X N Y M)(hb:zB w w'):Tw w0 w' X N Y M:=by
 obtain⟨⟨F,G,a,b,c,d⟩,e⟩:=h;exact⟨⟨F,G,a.below hb,b.below hb,c,d⟩,La.bel e hb⟩
theorem aIT(n:Nat)(w0 w:World)(X:Nat)(F:Nat->Prop)(h1:Hl.At w X (nw n) F)(hF:∀g,F g->w0.heap.size<=g)(hb:zB w0 w)(h4:n<=4):
  Calls prog 6 #[.int .i64 n] w fun e w'=>∃Y,e=.returned (ptr Y)/\Hid (Tw w0 w' X (nw n) Y (nw n)):=by
 refine(Gq.aCz n w h4).mono ?_;rintro e w' ⟨Y,G,rfl,c,a,b⟩;exact⟨Y,rfl,⟨F,G,h1.below b,c,fun g hg=>⟨hF g hg,fun hG=>by have:=h1.lt g hg;have:=a g hG;omega⟩,fun g hg=>qO hb.size (a g hg)⟩,La.bel hb b⟩
variable {w0 w:World}{X Y:Nat}{N M:Nt}
theorem aIR(h:Tw w0 w X N Y M)(hg:Gl M)(hu:M.us.length<=100)(e:Ev):
  Calls prog 7 #[ptr Y,evV e] w fun r w'=>r=.returned (.int .i64 (evE M e))/\Hid (Tw w0 w' X N Y (evS M e)):=by
 obtain⟨⟨F,G,a,j,b,f⟩,c⟩:=h;refine(Gk.aJn Y M G e w j hg hu).mono ?_;rintro r w' ⟨rfl,G',k,d,i⟩;refine⟨rfl,⟨F,G',a.stay (d.stay fun g hg=>⟨a.lt g hg,(b g hg).2⟩) d.size,k,fun g hg=>⟨(b g hg).1,fun hG=> ?_⟩,fun g hg=> ?_⟩,d.below f c c.size⟩
 ·rcases i g hG with e | e
  ·exact(b g hg).2 e
  ·have:=a.lt g hg;omega
 ·rcases i g hg with e | e
  ·exact f g e
  ·exact qO c.size e
theorem aJl(h:Tw w0 w X N Y M)(hg:Gl N)(hu:N.us.length<=100)(e:Ev):
  Calls prog 8 #[ptr X,evV e] w fun r w'=>r=.returned (errV (evE N e))/\Hid (Tw w0 w' X (evS N e) Y M):=by
 obtain⟨⟨F,G,f,a,b,i⟩,c⟩:=h;refine(Hq.does X N F e w f hg hu).mono ?_;rintro r w' ⟨rfl,F',j,d,k⟩;refine⟨rfl,⟨F',G,j,a.stay (d.stay fun g hg=>⟨a.lt g hg,fun hF=>(b g hF).2 hg⟩) d.size,fun g hg=> ?_,i⟩,d.below (fun g hg=>(b g hg).1) c c.size⟩;rcases k g hg with e | e
 ·exact b g e
 ·exact⟨qO c.size e,fun hG=>by have:=a.lt g hG;omega⟩
theorem aFT(h:Tw w0 w X N Y M)(hu:N.us.length<=100):Calls prog 9 #[ptr X] w fun e w'=>e=.returned (.int .i64 N.us.length)/\zB w w':=by
 obtain⟨⟨F,G,a,c,d,f⟩,g⟩:=h;exact Hs.aD8 X N F w a hu
theorem aHJ(h:Tw w0 w X N Y M)(hg:Gl N)(h1':1<=N.ds.length):Calls prog 10 #[ptr X] w fun e w'=>e=.returned (.bool (sameB N))/\zB w w':=by
 obtain⟨⟨F,G,h1,b,c,d⟩,f⟩:=h;exact Gf.sK X N F w h1 hg h1'
theorem aGI(h:Tw w0 w X N Y M)(h1':1<=M.ds.length):Calls prog 11 #[ptr Y] w fun e w'=>e=.returned (.bool (sameB M))/\zB w w':=by
 obtain⟨⟨F,G,h1,a,c,d⟩,f⟩:=h;exact Gt.aEt Y M G w a h1'
theorem aDq(h:Tw w0 w X N Y M)(hg:Gl N)(i:Int):Calls prog 12 #[ptr X,.int .i64 i] w fun e w'=>e=.returned (.tuple #[.string (if out N.ds.length i then⟨#[]⟩ else Lf.textR (dq N i.toNat).book),errV (if out N.ds.length i then 1 else 0)])/\zB w w':=by
 obtain⟨⟨F,G,a,c,d,f⟩,g⟩:=h;exact Hs.sG X N F i w a hg
theorem aI2(h:Tw w0 w X N Y M)(i:Nat)(hi:i<N.ds.length):Calls prog 13 #[ptr X,.int .i64 i] w fun e w'=>∃D Fd,e=.returned (.tuple #[ptr D,.nilIface])/\Hid (DocAt w' D (dq N i) Fd)/\Hid (zB w w'):=by
 obtain⟨⟨F,G,a,f,g,j⟩,k⟩:=h;refine(Hs.aDy X N F i w a hi).mono ?_;rintro e w' ⟨D,Fd,rfl,b,_,c⟩;exact⟨D,Fd,rfl,b,c⟩
theorem rN{E:Nat}{S:Dq}{F:Nat->Prop}(h:RefD w E S F):∃p n c,w.cell? ⟨E,0,none⟩=some (.slice p n c)/\BookAt w (.slice p n c) S.book:=by
 obtain⟨P,G,⟨I,g,f,j,k,a⟩,_⟩:=h;have b:=a.book;obtain⟨p,n,c,rfl⟩:∃p n c,f=.slice p n c:=by obtain⟨p,c,e,_⟩:=b;exact⟨_,_,_,e⟩
 exact⟨p,n,c,aB a.blk (i:=0) rfl,b⟩
structure Pts (w:World) (Y:Nat) (M:Nt) (k gd nd cn Ek:Nat) (pb:Option Addr) (nb cb:Nat) (po:Option Addr) (no co:Nat):Prop where
 c0:∀W,Below w.heap.size w W→W.cell? ⟨Y,0,none⟩=some (.slice (some ⟨gd,0,none⟩) nd cn)
 c1:∀W,Below w.heap.size w W→W.cell? ⟨gd,k,none⟩=some (ptr Ek)
 c2:∀W,Below w.heap.size w W→W.cell? ⟨Ek,0,none⟩=some (.slice pb nb cb)
 c3:∀W,Below w.heap.size w W→W.cell? ⟨Ek,3,none⟩=some (.slice po no co)
 book:∀W,Below w.heap.size w W→BookAt W (.slice pb nb cb) (dq M k).book
 ops:∀W,Below w.heap.size w W→OpsAt W (.slice po no co) (dq M k).ops
 inv:Inv (dq M k)
 nd:nd=M.ds.length
theorem aII(h:Tw w0 w X N Y M){k:Nat}(hk:k<M.ds.length):∃gd nd cn Ek pb nb cb po no co,Pts w Y M k gd nd cn Ek pb nb cb po no co:=by
 obtain⟨⟨F,G,r,⟨d,s,E,v,m,_⟩,y,z⟩,A⟩:=h;obtain⟨p,cn,b,_,_,g⟩:=m.fC;obtain⟨gd,rfl,j⟩:=g (by omega);have a:=m.docs.at' k hk;obtain⟨pb,nb,cb,l,n⟩:=rN a;obtain⟨po,no,co,o,q⟩:=Gy.aF9 a;refine⟨gd,_,cn,E k,pb,nb,cb,po,no,co,fun W hb=>aA hb ?_,fun W hb=>aA hb (j k hk),fun W hb=>aA hb l,fun W hb=>aA hb o,fun W hb=>n.below hb,fun W hb=>q.below hb,a.inv,rfl⟩;have c:=aB m.blk (i:=0) (u:=d) rfl;rw[b] at c;exact c
theorem aIc(h:Tw w0 w X N Y M):∃pu cu,∀W,zB w W->W.cell? ⟨Y,1,none⟩=some (.slice pu M.us.length cu):=by
 obtain⟨⟨F,G,a,⟨b,c,E,d,m,_⟩,f,g⟩,i⟩:=h;exact Gk.aFN m
end Gu
end Go.Proofs.YtjcemlmlfoilmaaGreatDoor
