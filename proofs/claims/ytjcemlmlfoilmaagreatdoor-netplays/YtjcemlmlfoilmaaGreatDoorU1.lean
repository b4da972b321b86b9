import Derived.Test.YtjcemlmlfoilmaaGreatDoorJ13
import Derived.Test.YtjcemlmlfoilmaaGreatDoorU0
set_option linter.unusedVariables false
set_option maxRecDepth 100000
set_option maxHeartbeats 8000000
namespace Go.Proofs.YtjcemlmlfoilmaaGreatDoor
open Go.RowKit Ka Na Om Oa Oz Hm Ia Ie Im Um
open Go.Proofs.Tryz (prog)
namespace Ua
open Ik
open La (aD aH Lies)
def OSt (G:Nat→Prop) (w:World) (b o j:Nat) (x:Ox):Prop:=∃v,(w.cell? ⟨b,o+j*6,none⟩=some (.int .i64 x.1.1)∧w.cell? ⟨b,o+j*6+1,none⟩=some (.int .i64 x.1.2)∧w.cell? ⟨b,o+j*6+2,none⟩=some (.int .i64 x.2.1)∧w.cell? ⟨b,o+j*6+3,none⟩=some (.string x.2.2.1)∧w.cell? ⟨b,o+j*6+4,none⟩=some (.int .i64 x.2.2.2.1)∧w.cell? ⟨b,o+j*6+5,none⟩=some v)∧DtsAt w v x.2.2.2.2∧In G v
def aEz (G:Nat→Prop) (w:World) (p:Option Addr) (l:List Ox):Prop:=l=[]∨∃b o,p=some ⟨b,o,none⟩∧G b∧∀j,j<l.length→OSt G w b o j (l.getD j oz)
def aHR (G:Nat→Prop) (w:World) (v:Value) (l:List Ox):Prop:=∃p c,v=.slice p l.length c∧aEz G w p l∧l.length≤c∧c≤maxLen∧(p=none→c=0)
theorem aEz.stay{G:Nat->Prop}{w w':World}{p:Option Addr}{l:List Ox}(h:aEz G w p l)(hs:Stay G w w'):aEz G w' p l:=by
 rcases h with e | ⟨b,o,hp,hG,hc⟩
 ·exact qH e
 ·refine qF ⟨b,o,hp,hG,fun j hj=> ?_⟩;obtain⟨v,⟨d,f,g,i,k,m⟩,n,c⟩:=hc j hj;have a:=hs b hG;exact⟨v,⟨(aM a).trans d,(aM a).trans f,(aM a).trans g,(aM a).trans i,(aM a).trans k,(aM a).trans m⟩,bI n c hs,c⟩
theorem aEz.some{G:Nat→Prop}{w:World}{p:Option Addr}{l:List Ox}(h:aEz G w p l)(hl:l≠[]):∃b o,p=some ⟨b,o,none⟩∧G b∧∀j,j<l.length→OSt G w b o j (l.getD j oz):=by
 rcases h with h | h
 ·exact absurd h hl
 ·exact h
theorem aHR.new{B:Nat}{w:World}{v:Value}{l:List Ox}(h:OpsNew B w v l):aHR (fun g=>B<=g/\g<w.heap.size) w v l:=by
 have m:=h.at;obtain⟨g,L,rfl,y,o,q,G,z⟩:=h;have r:g<w.heap.size:=by obtain⟨D,A,_⟩:=q;exact(qG.1 A).1
 obtain⟨p,c,e,F,H⟩:=m;injection e with e1 e2 e3
 refine⟨some (zA g),l.length,rfl,qF ⟨g,0,rfl,⟨y,r⟩,fun j hj=> ?_⟩,qC _,by unfold maxLen;omega,fun e=>by cases e⟩;have f:j<L.length:=by rw[<-o,jM] at hj;exact hj
 have s:=qB f;have C:l.getD j oz=L[j].1:=by rw[<-o,qA,qT,s];rfl
 rw[C];have b:=q.at s;have i:=z _ (jF f);refine⟨L[j].2,⟨?_, ?_, ?_, ?_, ?_, ?_⟩,gO i,fun a n c e hn=> ?_⟩
 ·have:=b 0 _ rfl;rwa [show j*6+0=0+j*6 by omega] at this
 ·have:=b 1 _ rfl;rwa [show j*6+1=0+j*6+1 by omega] at this
 ·have:=b 2 _ rfl;rwa [show j*6+2=0+j*6+2 by omega] at this
 ·have:=b 3 _ rfl;rwa [show j*6+3=0+j*6+3 by omega] at this
 ·have:=b 4 _ rfl;rwa [show j*6+4=0+j*6+4 by omega] at this
 ·have:=b 5 _ rfl;rwa [show j*6+5=0+j*6+5 by omega] at this
 ·exact⟨Lies.own i a n c e hn,(aL i a.block (by rw[e];rfl)).1⟩
def DoPost (w:World) (D:Nat) (S:Dq) (F:Nat→Prop) (L:List Ox) (e:Ending) (w':World):Prop:=
 e=.returned (errV (runE S L))∧∃F',DocAt w' D (runS S L) F'∧Chg F w w'∧∀g,F' g→F g∨w.heap.size≤g
theorem zX(D:Nat)(S:Dq)(F G:Nat->Prop)(v:Value)(L:List Ox)(w:World)(h:DocAt w D S F)(ho:aHR G w v L)(hG:∀g,G g->g<w.heap.size/\¬F g)(hsz:∀x ∈ L,x.2.2.1.size<=maxLen):
  Calls prog 51 #[.pointer (some ⟨D,0,none⟩),v] w (DoPost w D S F L):=by
 obtain⟨q,c,rfl,ae,av,aw,_⟩:=ho;obtain⟨n,hn⟩:=zx L.length;have ax:n<=maxLen:=by omega
 have bs:(n:Int)<=9223372036854775807:=by unfold maxLen at ax;omega
 rw[<-hn];have HN:=z9 hn.symm;have HI:=z9 ae;have HG:=z9 hG;have a6:=z9 hsz;have af:=z9 h;clear h ae hG hsz hn av aw;go_in;go_wp2_with fail;go_loopw [11] (fun vi wr=>∃(k:Nat) (E:Nat->Prop),k<=n/\vi=zI k/\Hid (DocAt wr D (runS S (L.take k)) E)/\Hid (∀g,E g->F g\/w.heap.size<=g)/\Hid (Chg F w wr)/\Hid (runE S (L.take k)=0)) (fun vi _=>n-(intOf vi).toNat)
 case atStart=>exact⟨0,F,by omega,rfl,af,fun g hg=>qH hg,Chg.refl _ _,rfl⟩
 case round=>
  clear af;obtain⟨k,E,hk,rfl,r,s,t,y⟩:=hrel;by_cases a7:k<n
  ·have an:(k:Int)<n:=by omega
   have a:k<L.length:=by rw[HN.out];exact a7
   obtain⟨bo,oo,rfl,_,hc⟩:=(HI.out.stay (t.out.stay HG.out)).some (by intro e;rw[e] at a;simp at a);have ha:=hc k a;have z:=a6.out _ (cP a);obtain⟨M,N⟩:=aAe (S:=S) a y.out;have O:=nH (S:=S) a y.out;obtain⟨x,hx⟩:=zx (L.getD k oz);rw[<-hx] at ha z M N O;have P:=z9 M;have Q:=z9 N;have R:=z9 O;obtain⟨⟨j,l⟩,m,o,p,T⟩:=x;obtain⟨vx,⟨a0,a1,a2,a3,a4,a5⟩,A,ag⟩:=ha;simp only at a0 a1 a2 a3 a4 a5 A z;obtain⟨H,I,J,rfl⟩:∃H I J,vx=.slice H I J:=by obtain⟨_,_,e9,_⟩:=A;exact⟨_,_,_,e9⟩
   have U:In (fun g=>¬E g) (.slice H I J):=ag.mono fun g hg hf=>by
    obtain⟨q1,q2⟩:=HG.out g hg;rcases s.out g hf with e | e
    ·exact q2 e
    ·omega
   have B:Hid (zB wr (wr.alloc (.cells #[zI j,zI l,zI m,.string o,zI p,.slice H I J] 97))):=(qD _ _).alloc (qC _) _;obtain⟨V,ah⟩:=zx (runS S (L.take k));rw[<-ah] at P Q R r;have C:=uZ D V E j l m o p (.slice H I J) T _ (r.out.below B.out) (A.below B.out) U z;obtain⟨e0,e1,e2,e3,e4,e5⟩:=aT wr j l m o p (.slice H I J) 97;clear hc hx a A z M N O U ag ah;go_wp2_with fail;refine C.mono ?_;rintro e w7 ⟨K,_,X,f,Y,Z⟩;have ai:Hid (Chg F w w7):=(t.out.trans (Chg.ofBelow B.out F)).next Y s.out
   have aj:Hid (∀g,X g->F g\/w.heap.size<=g):=fun g hg=>by
    rcases Z g hg with e | e
    ·exact s.out g e
    ·exact qF (qO t.out.size (qO B.out.size e))
   obtain⟨bn,aa⟩:=zx (isNew V ((j,l),m,o,p,T));rw[<-aa] at K;by_cases b:apE V ((j,l),m,o,p,T)=0
   ·rw[b,aD] at K;subst K;have ab:Hid (DocAt w7 D (runS S (L.take (k+1))) X):=by unfold Hid;rw[Q.out b];exact f
    have bh:Hid (runE S (L.take (k+1))=0):=by unfold Hid;rw[P.out,b]
    clear f Y Z aa b C a0 a1 a2 a3 a4 a5 e0 e1 e2 e3 e4 e5;go_wp2_with fail;go_roundw
    case rel=>exact⟨k+1,X,by omega,by go_num,ab,aj,ai,bh⟩
    case measure=>simp[intOf];omega
   ·obtain⟨z1,z2⟩:=R.out b;rw[aH b] at K;have ak:Hid (errV (runE S L)=.iface 59 (zI (apE V ((j,l),m,o,p,T)))):=by unfold Hid;rw[z1,aH b]
    have ab:Hid (DocAt w7 D (runS S L) X):=by unfold Hid;rw[iQ b] at f;rw[z2];exact f
    obtain⟨ez,al⟩:=zx (apE V ((j,l),m,o,p,T));rw[<-al] at K ak;subst K;clear f Y Z aa b C a0 a1 a2 a3 a4 a5 e0 e1 e2 e3 e4 e5 z1 z2 al P Q R;go_wp2_with fail;go_ret;exact⟨by rw[ak.out];rfl,X,ab.out,ai.out,aj.out⟩
  ·obtain rfl:n=k:=by omega
   have an:¬(n:Int)<n:=by omega
   have bk:Hid (L.take n=L):=by unfold Hid;rw[<-HN.out,yJ]
   go_wp2_with fail;go_ret;rw[bk.out] at r y;exact⟨by rw[y.out];rfl,E,r.out,t.out,s.out⟩
end Ua
namespace Ub
open Go.ChangeAt
open La (bel aS own_below)
open Lj (BookAt)
variable {B off:Nat}{v:Value}(n:Int)(w:World)
theorem mV(h1:1<=n)(h8:n<=8):Calls prog 97 #[.int .i64 n] w fun e w'=>e=.returned .nilIface/\w'=w:=by
 go_in;go_wp2;go_ret;exact⟨rfl,rfl⟩
theorem aCB(h:n<1\/8<n):Calls prog 97 #[.int .i64 n] w fun e w'=>e=.returned (.iface 59 (.int .i64 1))/\w'=w:=by
 rcases h with h | h
 ·go_in;go_wp2;go_ret;exact⟨rfl,rfl⟩
 ·have a:¬n<1:=by omega
  go_in;go_wp2;go_ret;exact⟨rfl,rfl⟩
theorem bN{n:Int}:Pm.isWho n=true↔1<=n/\n<=8:=by unfold Pm.isWho;simp
theorem fY{n:Int}:Pm.isWho n=false↔n<1\/8<n:=by
 cases h:Pm.isWho n with
 | true=>have:=bN.1 h;simp;omega
 | false=>
  simp
  by_cases a:1<=n/\n<=8
  ·rw[bN.2 a] at h;cases h
  ·omega
theorem aHf:(prog.info? 9).map (fun i=>(i.zero,i.size,i.bytes))=some (some (.string ByteArray.empty),1,16):=by kernel_rfl
def TxAt (B:Nat) (w:World) (v:Value) (l:List ByteArray):Prop:=w.ownsRow B 9 1 v l.length (l.map Value.string)
theorem TxAt.row{w:World}{l:List ByteArray}(h:TxAt B w v l):w.ownsRow B 9 1 v l.length (l.map Value.string):=h
theorem TxAt.cells{B:Nat}{w:World}{v:Value}{l:List ByteArray}(h:TxAt B w v l)(hn:0<l.length):∃g c,v=.slice (some ⟨g,0,none⟩) l.length c/\B<=g/\l.length<=c/\c<=maxLen/\∀j,j<l.length->w.cell? ⟨g,j,none⟩=some (.string (l.getD j ⟨#[]⟩)):=by
 rcases h.2 with⟨e,e0⟩ | ⟨g,cap,cur,rfl,h1,h2,h3,h4,h5,h6⟩
 ·omega
 ·refine⟨g,cap,rfl,h1,h3,h4,fun j hj=> ?_⟩;have:=h.row.cells (g:=g) rfl j (.string (l.getD j ⟨#[]⟩)) (by rw[qT,qB hj,qA,qB hj];rfl);rw[jU,qY] at this;exact this
theorem TxAt.shape{w:World}{l:List ByteArray}(h:TxAt B w v l):∃p c,v=.slice p l.length c/\l.length<=maxLen:=by
 rcases h.2 with⟨e,e0⟩ | ⟨g,cap,cur,e,h1,h2,h3,h4,_⟩
 ·exact⟨none,0,by rw[e,e0],by rw[e0];unfold maxLen;omega⟩
 ·exact⟨_,_,e,by omega⟩
theorem aHB{w:World}{t:TypeId}{tx:List ByteArray}{s:ByteArray}(h:w.ownsRow B t 1 v (tx.length+1) (tx.map Value.string++[.string s])):w.ownsRow B t 1 v (tx++[s]).length ((tx++[s]).map Value.string):=by
 rw[qE,xL];exact h
theorem eK(v:Value)(l:List Bm.Leaf)(w:World)(h:BookAt w v l)(hn3:l.length<=1000):
  Calls prog 102 #[v] w fun e w'=>∃v',e=.returned v'/\TxAt w.heap.size w' v' (seenP l)/\zB w w':=by
 obtain⟨q,c,rfl,G,_⟩:=h;obtain⟨n,H⟩:=zx l.length;rw[<-H];have ah:n<=1000:=by omega
 have I:=z9 H.symm;have HI:=z9 G;obtain⟨i0,hi,P,Q,R⟩:=info_parts aHf;clear G H hn3;go_in;go_wp2;go_loopw [3,8] (fun v i wr=>∃(k:Nat),k<=n/\i=zI k/\Hid (TxAt w.heap.size wr v (seenP (l.take k)))/\Hid (zB w wr)) (fun _ i _=>n-(intOf i).toNat)
 case atStart=>exact⟨0,by omega,rfl,jT _ _ _ _,qD _ _⟩
 case round=>
  obtain⟨k,hk,rfl,B,D⟩:=hrel;by_cases S:k<n
  ·have ad:(k:Int)<n:=by omega
   obtain⟨b,o,rfl,J⟩:=HI.out.some (by intro e;have:=I.out;rw[e] at this;simp at this;omega);have j:k<l.length:=by rw[I.out];exact S
   have T:=(J k j).below D.out (J k j).lt;have s:=aEq j;have t:=aFV j
   have U:(seenP (l.take k)).length<=1000:=by
    have h1:=dA (l.take k);rw[qQ] at h1;omega
   obtain⟨x,V⟩:=zx (l.getD k Bm.none0);rw[<-V] at T s t;have m:=z9 s;have p:=z9 t;obtain⟨y,E,F⟩:=x;obtain⟨K,L,M⟩:=T;clear J V s t;simp only at K L M;have C:=Lb.sQ y E F (wr.alloc (.cells #[.string y,zI E,.bool F] 77));obtain⟨X,z⟩:=zx (seenP (l.take k));rw[<-z] at B m p U;cases hse:Bm.isS (y,E,F)
   ·rw[hse] at C
    have A:Hid (TxAt w.heap.size wr u3 (seenP (l.take (k+1)))):=by
     unfold Hid;rw[p.out hse];exact B.out
    clear hse z m p;go_wp2_with fail;refine C.mono ?_;rintro e w2 ⟨rfl,a⟩;have f:=z9 (Lc.bE D.out a);have r:Hid (TxAt w.heap.size w2 u3 (seenP (l.take (k+1)))):=own_below (A.out.alloc _) a;clear a C K L M;go_wp2_with fail;go_roundw
    case rel=>exact⟨k+1,by omega,by go_num,r,f⟩
    case measure=>simp[intOf];omega
   ·rw[hse] at C;have HT:=z9 (m.out hse);clear hse z m p;go_wp2_with fail;refine C.mono ?_;rintro e w2 ⟨rfl,a⟩;have f:=z9 (Lc.bE D.out a);have d1:=(Lc.bC (x:=(y,E,F)) a).1;simp only at d1;have r:Hid (w2.ownsRow w.heap.size 9 1 u3 X.length (X.map Value.string)):=own_below (B.out.alloc _) a;clear a C K L M;go_wp2_with (at_builtin;refine wpList_append_own_at _ rfl (.tmp 14) (.tmp 17) 194 rfl w.heap.size 9 i0 (.string ByteArray.empty) 1 16 Tryz.underlying194 hi P Q R rfl (by decide) u3 _ _ rfl (r.out.alloc _) (zW w2) 1 1 [.string y] rfl rfl (cell_one_new _ _ _) (by intro u hu;simp at hu;subst hu;rfl) (by unfold maxLen;omega) (by omega) (by have:=f.out.size;simp;omega) ?_;intro v' w3 hown' hgrow _ hat;have Y:Hid (zB w w3):=(aS r.out (f.out.alloc f.out.size _) hgrow (by have:=f.out.size;simp;omega));have Z:Hid (TxAt w.heap.size w3 v' (seenP (l.take (k+1)))):=(by unfold Hid;rw[HT.out];exact aHB hown');clear hown' hgrow hat);go_roundw
    case rel=>exact⟨k+1,by omega,by go_num,Z,Y⟩
    case measure=>simp[intOf];omega
  ·obtain rfl:k=n:=by omega
   have A:Hid (TxAt w.heap.size wr u3 (seenP l)):=by
    have:=B.out;rwa [qW (by rw[I.out];exact qC _)] at this
   go_wp2_with fail;go_ret;exact⟨_,rfl,A.out,D.out⟩
theorem aDV{l:List Bm.Leaf}(hb:Bm.bookE l=0)(h:off<=(seenP l).length)(h0:0<off):Bm.ahd l (leftP l off).toList+1=nxt l off:=by
 obtain⟨_,_,a⟩:=Bm.aU.1 hb;obtain⟨g,i,d⟩:=rQ h;obtain⟨k,b,_⟩:=d h0;have f:nxt l off-1<l.length:=by omega
 have:Bm.ahd l (leftP l off).toList=nxt l off-1:=by
  refine Bm.aAs a (by omega) (fun j hj=> ?_) (fun j hj hl=> ?_)
  ·rw[<-b];exact Bm.gG a hj f
  ·rw[<-b];rcases xW hj with e | e
   ·exact Bm.cL (Bm.gG a e hl)
   ·rw[<-e];exact Bm.bD _
 omega
theorem left_at{l:List Bm.Leaf}(h0:0<off):leftP l off=(seenP l).getD (off-1) ⟨#[]⟩:=by unfold leftP;rw[if_neg (by omega)]
theorem aEI(v:Value)(l:List Bm.Leaf)(off:Int)(w:World)(h:BookAt w v l)(hb:Bm.bookE l=0)(ho:aroundE l off≠0):
  Calls prog 99 #[v,.int .i64 off] w fun e w'=>e=.returned (.tuple #[.string ⟨#[]⟩,.string ⟨#[]⟩,.iface 59 (.int .i64 1)])/\zB w w':=by
 have i:=(Bm.aU.1 hb).1;have C:=eK v l w h (by omega)
 have b:off<0\/(¬off<0/\((seenP l).length:Int)<off):=by
  by_cases a:off<0
  ·exact qH a
  ·by_cases j:((seenP l).length:Int)<off
   ·exact qF ⟨a,j⟩
   ·exact absurd (bX.2 ⟨by omega,by omega⟩) ho
 obtain⟨q,n,c,rfl⟩:∃q n c,v=.slice q n c:=by obtain⟨p,c,e,_⟩:=h;exact⟨_,_,_,e⟩
 obtain⟨m,g⟩:=zx ((seenP l).length);rw[<-g] at b;have t:=z9 g;clear h hb ho i g;rcases b with a | ⟨a,j⟩
 all_goals
  go_in;go_wp2_with fail;refine C.mono ?_;rintro e w1 ⟨B,rfl,d,f⟩;obtain⟨D,E,rfl,k⟩:=d.shape;rw[<-t.out] at k |-;have o:=z9 f;clear d f C;go_wp2_with fail;go_ret3;exact⟨rfl,o.out⟩
theorem aEL(v:Value)(l:List Bm.Leaf)(off:Nat)(w:World)(h:BookAt w v l)(hb:Bm.bookE l=0)(ho:off<=(seenP l).length):
  Calls prog 99 #[v,.int .i64 off] w fun e w'=>e=.returned (.tuple #[.string (leftP l off),.string (rightP l off),.nilIface])/\zB w w':=by
 have Z:=(Bm.aU.1 hb).1;have C:=eK v l w h (by omega);have aa:=z9 hb;obtain⟨q,c,rfl,L,_⟩:=h;obtain⟨n,y⟩:=zx l.length;rw[<-y] at C |-;have ar:n<=300:=by omega
 have T:=z9 y.symm;have U:=z9 L;obtain⟨m,hm⟩:=zx ((seenP l).length);have G:=z9 hm;have au:off<=m:=by omega
 have V:¬(m:Int)<off:=by omega
 have ac:¬(off:Int)<0:=by omega
 have HC:=z9 (rQ ho);have av:m<=300:=by have:=dA l;omega
 obtain⟨x,j⟩:=zx (nxt l off);have HX:=z9 j;have aw:x<=n:=by rw[j,y];exact HC.out.le
 obtain⟨R,H⟩:=zx (rightP l off);obtain⟨z,s⟩:=zx (leftP l off);rw[<-H,<-s];have M:Hid (x<n->R=(l.getD x Bm.none0).1):=fun a=>by rw[H];unfold rightP;rw[<-j,<-y,if_pos a]
 have N:Hid (¬x<n->R=⟨#[]⟩):=fun a=>by rw[H];unfold rightP;rw[<-j,<-y,if_neg a]
 have ad:Hid (0<off->z=(seenP l).getD (off-1) ⟨#[]⟩/\Bm.ahd l z.toList+1=x):=fun g=>by rw[s,j];exact⟨left_at g,aDV hb ho g⟩
 have ae:Hid (off=0->z=⟨#[]⟩/\x=0):=fun g=>by rw[s,j];unfold leftP nxt;rw[if_pos g,if_pos g];exact⟨rfl,rfl⟩
 clear hb L y hm ho j H s Z;go_in;go_wp2_with fail;refine C.mono ?_;rintro e w1 ⟨v1,rfl,t,D⟩;have i:=z9 D;by_cases g:off=0
 ·obtain⟨I,E⟩:=ae.out g;subst I E g;obtain⟨p1,c1,rfl,af⟩:=t.shape;rw[<-G.out] at af |-;clear t D C;by_cases a:0<n
  ·have k:(0:Int)<n:=by omega
   have d:0<l.length:=by rw[T.out];exact a
   obtain⟨b,o,rfl,p⟩:=U.out.some (by intro e;rw[e] at d;simp at d);have J:=((p 0 d).below i.out (p 0 d).lt).1;rw[<-M.out a] at J;rw[Nat.zero_mul,vL] at J;clear p d;go_wp2_with fail;go_ret3;exact⟨rfl,i.out⟩
  ·have k:¬(0:Int)<n:=by omega
   have X:=N.out a;subst X;go_wp2_with fail;go_ret3;exact⟨rfl,i.out⟩
 ·have ag:0<off:=by omega
  have ah:(0:Int)<off:=by omega
  obtain⟨I,E⟩:=ad.out ag;obtain⟨g1,cg,e9,_,aj,az,O⟩:=t.cells (by rw[<-G.out];omega);rw[<-G.out] at e9 aj;subst e9;have f:=O (off-1) (by rw[<-G.out];omega);rw[<-I] at f;obtain⟨r,hr⟩:∃r,off=r+1:=⟨off-1,by omega⟩;subst hr;rw[vZ] at f;have ak:((r+1:Nat):Int)=(r:Int)+1:=by omega
  have al:=z9 E;have K:=Ld.fX q n c l z w1 T.out (U.out.below i.out) (Bm.aU.1 aa.out).2.2 (by omega);obtain⟨A,P⟩:=zx (Bm.ahd l z.toList);obtain⟨a0,Q⟩:=zx (Bm.has l z.toList);rw[<-P] at E K;rw[<-Q] at K;subst E;rw[ak] at ah ac V |-;clear t D C O I P Q al;go_wp2_with fail;refine K.mono ?_;rintro e w2 ⟨rfl,S⟩;have F:=z9 (bel i.out S);clear K S f;by_cases a:A+1<n
  ·have k:(A:Int)+1<n:=by omega
   have d:A+1<l.length:=by rw[T.out];exact a
   obtain⟨b,o,rfl,p⟩:=U.out.some (by intro e;rw[e] at d;simp at d);have J:=((p (A+1) d).below F.out (p (A+1) d).lt).1;rw[<-M.out a] at J;clear p d;go_wp2_with fail;go_ret3;exact⟨rfl,F.out⟩
  ·have k:¬(A:Int)+1<n:=by omega
   have X:=N.out a;subst X;go_wp2_with fail;go_ret3;exact⟨rfl,F.out⟩
end Ub
namespace Uc
open Kb Oc
theorem aE9(c:Int)(w:World)(h0:0<=c)(h1:c<=255):Calls prog 127 #[.int .u8 c] w fun e w'=>e=.returned (.bool (!Bm.isL c))/\w'=w:=by
 have C:=fun w=>Lb.bV c w
 obtain⟨b,a⟩:=zx (Bm.isL c);rw[<-a] at C |-;clear a;go_in;go_wp2_with fail;refine(C _).mono ?_;rintro e w2 ⟨rfl,d⟩;have f:=d.symm;subst f;clear d C;go_wp2_with fail;go_ret;exact⟨rfl,rfl⟩
theorem aDp{t:ByteArray}{k:Nat}(hk:k<t.size)(h:(t.toList.take k).all (fun c=>Bm.isL (c.toNat:Int))=true)(hb:Bm.isL ((t.toList.getD k 0).toNat:Int)=true):(t.toList.take (k+1)).all (fun c=>Bm.isL (c.toNat:Int))=true:=by
 have a:k<t.toList.length:=by rw[Om.aJ];exact hk
 rw[jV,qB a,yM,h];rw[qA,qB a] at hb;simpa using hb
theorem aI3{t:ByteArray}{k:Nat}(hk:k<t.size)(hb:Bm.isL ((t.toList.getD k 0).toNat:Int)=false):okText t=false:=by
 cases h:okText t with
 | false=>rfl
 | true=>rw[aCx h hk] at hb;cases hb
theorem aA0(g c n:Nat)(t:ByteArray)(w:World)(hn:t.size=n)(hs:n<=200)(hc:∀j,j<n->w.cell? ⟨g,j,none⟩=some (.int .u8 ((t.toList.getD j 0).toNat:Int))):
  Calls prog 151 #[.slice (some ⟨g,0,none⟩) n c,.func (.func 127) #[] #[]] w fun e w'=>(∃r:Int,e=.returned (.int .i64 r)/\okText t=decide (r<0))/\w'=w:=by
 have z:=z9 hn
 have D:=z9 hc
 clear hn hc
 go_in
 go_wp2
 go_loopw [8] (fun i wr=>∃(k:Nat),k<=n/\i=zI k/\Hid ((t.toList.take k).all (fun c=>Bm.isL (c.toNat:Int))=true)/\Hid (wr=w)) (fun i _=>n-(intOf i).toNat)
 case atStart=>exact⟨0,by omega,rfl,rfl,rfl⟩
 case round=>
  obtain⟨k,G,rfl,A,o⟩:=hrel
  by_cases q:k<n
  ·have E:(k:Int)<n:=by omega
   have d:=D.out k q
   rw[<-o.out] at d
   have h:k<t.size:=by rw[z.out];exact q
   have p:=z9 (aDp h A.out)
   have f:=z9 (aI3 h)
   have s:(0:Int)<=((t.toList.getD k 0).toNat:Int):=by omega
   have v:((t.toList.getD k 0).toNat:Int)<=255:=by have:=(t.toList.getD k 0).toNat_lt;omega
   obtain⟨x,B⟩:=zx ((t.toList.getD k 0).toNat:Int)
   rw[<-B] at d p f s v
   have C:=aE9 x wr s v
   clear h B
   cases hb:Bm.isL x with
   | true=>
    rw[hb] at C
    have a:=z9 (p.out hb)
    clear hb p f
    go_wp2_with fail
    refine C.mono ?_
    rintro e w2 ⟨rfl,l⟩
    have m:=z9 (l.trans o.out)
    clear l C d
    go_wp2_with fail
    go_roundw
    case rel=>exact⟨k+1,by omega,by go_num,a,m⟩
    case measure=>simp[intOf];omega
   | false=>
    rw[hb] at C
    have a:=z9 (f.out hb)
    clear hb p f
    go_wp2_with fail
    refine C.mono ?_
    rintro e w2 ⟨rfl,l⟩
    have m:=z9 (l.trans o.out)
    clear l C d
    go_wp2_with fail
    go_ret
    exact⟨⟨_,rfl,by rw[a.out,decide_eq_false (by omega)]⟩,m.out⟩
  ·obtain rfl:k=n:=by omega
   have a:Hid (okText t=true):=by
    have:=A.out
    rw[qW (by rw[Om.aJ,z.out];exact qC _)] at this
    exact this
   go_wp2_with fail
   go_ret
   exact⟨⟨_,rfl,by rw[a.out];rfl⟩,o.out⟩
theorem uG(g c n:Nat)(t:ByteArray)(w:World)(hn:t.size=n)(hs:n<=200)(hc:∀j,j<n->w.cell? ⟨g,j,none⟩=some (.int .u8 ((t.toList.getD j 0).toNat:Int))):
  Calls prog 126 #[.slice (some ⟨g,0,none⟩) n c,.func (.func 127) #[] #[]] w fun e w'=>e=.returned (.bool (!okText t))/\w'=w:=by
 have C:=aA0 g c n t w hn hs hc;obtain⟨b,a⟩:=zx (okText t);rw[<-a] at C |-;clear hn hs hc a;go_in;go_wp2_with fail;refine C.mono ?_;rintro e w2 ⟨⟨r,rfl,d⟩,f⟩;have i:=f.symm;subst i;have l:=z9 d;clear f C d;go_wp2_with fail;go_ret;refine⟨aW ?_,rfl⟩;rw[l.out];by_cases h:r<0
 ·rw[decide_eq_true h,decide_eq_false (by omega)];rfl
 ·rw[decide_eq_false h,decide_eq_true (by omega)];rfl
theorem aAb(t:ByteArray)(w:World)(hm:t.size<=maxLen):Calls prog 98 #[.string t] w fun e w'=>e=.returned (errV (textE t))/\zB w w':=by
 by_cases h:200<t.size
 ·have a:Hid (errV (textE t)=.iface 59 (zI 4)):=by unfold Hid textE;rw[if_pos h];rfl
  go_in
  go_wp2
  go_ret
  exact⟨by rw[a.out];rfl,qD _ _⟩
 ·have a:Hid (errV (textE t)=if okText t=false then .iface 59 (zI 1) else .nilIface):=by unfold Hid textE;rw[if_neg h];cases okText t<;>rfl
  have b:=fun w=>run_bytes_of_string (P:=prog) w 9 86 5 t Tryz.underlying9 Tryz.underlying86 Tryz.underlying5
  have c:t.size<=200:=by omega
  have i:¬(200:Int)<t.size:=by omega
  clear h
  go_in
  go_wp2_with fail
  refine(uG _ _ t.size t _ rfl c (fun j hj=> ?_)).mono ?_
  ·first
    | exact tB w.drew t _ _ j (by rw[Om.aJ];exact hj)
    | (rw[World.cell?_drew];exact tB w t _ _ j (by rw[Om.aJ];exact hj))
  ·rintro e w2 ⟨rfl,d⟩
   have f:Hid (zB w w2):=by
    unfold Hid;rw[d]
    first
     | exact((qD _ w).drew).alloc (qC _) _
     | exact(zb w _).drew
   clear d b
   cases hb:okText t with
   | true=>
    rw[hb] at a
    go_wp2_with fail
    go_ret
    exact⟨by rw[a.out];rfl,f.out⟩
   | false=>
    rw[hb] at a
    go_wp2_with fail
    go_ret
    exact⟨by rw[a.out];rfl,f.out⟩
end Uc
namespace Ud
open Oi Il
open La (own_below)
def z0:Ox × Value:=(oz,.slice none 0 0)
theorem iS(y:Ox × Value)(M:List (Ox × Value)):flatO (y::M)=six y.1 y.2++flatO M:=rfl
theorem uS:∀{L:List (Ox × Value)} {k:Nat} {x:Ox} {v:Value} (a b:Int),L[k]? =some (x,v)->flatO (L.set k (((a,b),x.2),v))=((flatO L).set (k*6) (.int .i64 a)).set (k*6+1) (.int .i64 b)
 | [],k,x,v,a,b,h=>by simp at h
 | y::L,0,x,v,a,b,h=>by
  simp only[List.getElem?_cons_zero,Option.some.injEq] at h
  subst h
  rw[qZ,iS,iS]
  rfl
 | y::L,k+1,x,v,a,b,h=>by
  have ih:=uS a b (L:=L) (k:=k) (x:=x) (v:=v) (by simpa using h)
  have hl:(six y.1 y.2).length=6:=rfl
  rw[qU,iS,iS,ih,List.set_append_right _ _ (by rw[hl];omega),List.set_append_right _ _ (by rw[hl];omega),hl,show(k+1)*6-6=k*6 by omega,show(k+1)*6+1-6=k*6+1 by omega]
variable {w:World}{g k:Nat}{L:List (Ox × Value)}(who n:Int)(Q:List Ox)
theorem aFu{n:Nat}{x:Ox}{v:Value}(a b:Int)(h:lY w g n L)(hk:L[k]? =some (x,v)):lY ((w.setCell ⟨g,k*6,none⟩ (.int .i64 a)).setCell ⟨g,k*6+1,none⟩ (.int .i64 b)) g n (L.set k (((a,b),x.2),v)):=by
 obtain⟨f,c,d,e⟩:=h;refine⟨_,set_heap (set_heap c),by simp[d], ?_⟩;rw[jN,uS a b hk,<-e];simp only[Array.toList_setIfInBounds,List.take_set]
def dotk (who n:Int) (L:List (Ox × Value)):Nat→List (Ox × Value)
 | 0=>L
 | k+1=>(dotk who n L k).set k (((who,n+1+k),(L.getD k z0).1.2),(L.getD k z0).2)
theorem nS(who n:Int)(L:List (Ox × Value)):∀k,(dotk who n L k).length=L.length
 | 0=>rfl
 | k+1=>by rw[dotk,jN,nS who n L k]
theorem wG(who n:Int)(L:List (Ox × Value)):∀k j,k<=j->(dotk who n L k)[j]? =L[j]?
 | 0,j,_=>rfl
 | k+1,j,h=>by rw[dotk,qS (by omega)];exact wG who n L k j (by omega)
theorem mH(who n:Int)(L:List (Ox × Value)):∀k j,j<k->j<L.length->(dotk who n L k)[j]? =some (((who,n+1+j),(L.getD j z0).1.2),(L.getD j z0).2)
 | 0,j,h,_=>absurd h (by omega)
 | k+1,j,h,hl=>by
  rw[dotk]
  rcases xW (show j<=k by omega) with e | e
  ·rw[qS (by omega)];exact mH who n L k j e hl
  ·rw[e,jR (by rw[nS];omega)]
def redot (who n:Int) (Q:List Ox):List Ox:=(List.range Q.length).map fun (k:Nat)=>((who,n+1+(k:Int)),(Q.getD k oz).2)
theorem pA:(redot who n Q).length=Q.length:=by unfold redot;simp
theorem aGR(L:List (Ox × Value)):(dotk who n L L.length).map (·.1)=redot who n (L.map (·.1)):=by
 apply yE;intro j;unfold redot;rw[qT,qT,jM];by_cases a:j<L.length
 ·rw[mH who n L L.length j a a,yG a];simp only[xU,qA,qT,qB a,xT]
 ·rw[jP (by rw[nS];omega),jP (by simp;omega)];rfl
theorem aGV{who n:Int}{y:Ox × Value}(h:y ∈ dotk who n L L.length):∃z ∈ L,y.2=z.2/\y.1.2.2.2.2=z.1.2.2.2.2:=by
 obtain⟨j,c,e⟩:=vP h;have a:j<L.length:=by rw[nS] at c;exact c
 have b:=mH who n L L.length j a a;rw[qB c,e] at b;injection b with b
 refine⟨L[j],jF a, ?_⟩;rw[b,qA,qB a];exact⟨rfl,rfl⟩
structure DotSt (B:Nat) (w:World) (who n:Int) (L:List (Ox × Value)) (g k:Nat) (wr:World):Prop where
 bl:Below B w wr
 row:lY wr g L.length (dotk who n L k)
 own:∀y ∈ L,wr.ownsRow B 80 2 y.2 y.1.2.2.2.2.length (flatD y.1.2.2.2.2)
theorem DotSt.put{B:Nat}{who n:Int}{wr:World}(h:DotSt B w who n L g k wr)(hg:B<=g)(hk:k<L.length):DotSt B w who n L g (k+1) ((wr.setCell ⟨g,k*6,none⟩ (.int .i64 who)).setCell ⟨g,k*6+1,none⟩ (.int .i64 (n+1+k))):=by
 have c:(dotk who n L k)[k]? =some ((L.getD k z0).1,(L.getD k z0).2):=by
  rw[wG who n L k k (qC _),qA,qB hk];rfl
 refine⟨(h.bl.setCell (p:=⟨g,k*6,none⟩) hg _).setCell (p:=⟨g,k*6+1,none⟩) hg _,(aFu who (n+1+k) h.row c),fun y c=> ?_⟩
 have d:∀q,y.2.ownBlock=some q->q≠g:=fun q hq e=>by
  obtain⟨_,j,b⟩:=aL (h.own y c) q hq;obtain⟨f,i,_⟩:=h.row;rw[e,i] at b;injection b with b
  injection b with _ b _
  exact absurd b (by decide)
 refine aP (h.own y c) fun q hq=> ?_
 rw[set_block _ _ _ _ (d q hq),set_block _ _ _ _ (d q hq)]
theorem fD(D:Nat)(S:Dq)(F:Nat->Prop)(who:Int)(B:Nat)(Q:List Ox)(v:Value)(w:World)(h:DocAt w D S F)(h1:1<=who)(h8:who<=8)(hq:OpsNew B w v Q)(hB:B<=w.heap.size)(hQ:Q.length<=1000):
  Calls prog 101 #[.pointer (some ⟨D,0,none⟩),.int .i64 who,v] w fun e w'=>e=.returned v/\OpsNew B w' v (redot who (kn S who) Q)/\Below B w w':=by
 have C:=wA D S F w h;have I:=h.inv;obtain⟨n0,n1⟩:=aBj I h1 h8;have hf:=I.few;have s:=I.klen;obtain⟨g,L,rfl,T,O,U,hl,V⟩:=hq;have A:L.length=Q.length:=by rw[<-O,jM]
 obtain⟨n,P⟩:=zx Q.length;obtain⟨b,i⟩:=zx (kn S who);obtain⟨r,E⟩:∃r:Nat,who=(r:Int)+1:=⟨(who-1).toNat,by omega⟩;have X:Hid (S.known.getD r 0=b):=by unfold Hid;rw[i,E];unfold kn;rw[show((r:Int)+1-1).toNat=r by omega]
 have Y:r<8:=by omega
 have aj:0<=b:=by omega
 have ak:b<=400:=by omega
 have au:n<=1000:=by omega
 rw[<-P,<-i];have G:Hid (L.length=n):=by unfold Hid;omega
 have j:=z9 P.symm;have Z:=z9 O;have l:=z9 s;have c:Hid (DotSt B w who b L g 0 w):=⟨qD _ _,by rw[A];exact U,V⟩;have HG:=z9 T;clear h I n0 n1 hf s O U hl V A P i T h1 h8 hQ;subst E;go_in;go_wp2_with fail;refine C.mono ?_;rintro e w1 ⟨vk,rfl,ab,_,d⟩;obtain⟨qk,ck,rfl,H⟩:=ab;obtain⟨bk,ok,rfl,J⟩:=H.some (by intro e;have:=l.out;rw[e] at this;simp at this);have K:=J r (by rw[l.out];exact Y);rw[X.out] at K;rw[l.out];have M:Hid (DotSt B w ((r:Int)+1) b L g 0 w1):=⟨c.out.bl.trans (d.mono hB),c.out.row.below d,fun y hy=>own_below (c.out.own y hy) d⟩;clear d H J C c;go_wp2_with fail;go_loopw [17] (fun vi wr=>∃(k:Nat),k<=n/\vi=zI k/\Hid (DotSt B w ((r:Int)+1) b L g k wr)) (fun vi _=>n-(intOf vi).toNat)
 case atStart=>exact⟨0,by omega,rfl,M⟩
 case round=>
  clear M K;obtain⟨k,hk,rfl,a⟩:=hrel;by_cases ac:k<n
  ·have R:(k:Int)<n:=by omega
   have f:k<L.length:=by rw[G.out];exact ac
   obtain⟨⟨y0,z0⟩,g0⟩:=a.out.row.eA f 0 (by omega);obtain⟨⟨y1,z1⟩,g1⟩:=a.out.row.eA f 1 (by omega);rw[vL] at z0 g0;have HP:=z9 (a.out.put HG.out f);clear f;go_wp2_with fail;go_roundw
   case rel=>exact⟨k+1,by omega,by go_num,HP⟩
   case measure=>simp[intOf];omega
  ·obtain rfl:n=k:=by omega
   have R:¬(n:Int)<n:=by omega
   go_wp2_with fail;go_ret;have m:=a.out.row;have N:=G.out;refine⟨rfl,⟨g,dotk ((r:Int)+1) b L L.length,by rw[pA,j.out],HG.out,by rw[aGR,Z.out],by rw[pA,j.out,<-N];rw[<-N] at m;exact m,by rw[pA,j.out];omega,fun y hy=> ?_⟩,a.out.bl⟩;obtain⟨z,hz,e1,e2⟩:=aGV hy;rw[e1,e2];exact a.out.own z hz
end Ud
end Go.Proofs.YtjcemlmlfoilmaaGreatDoor
