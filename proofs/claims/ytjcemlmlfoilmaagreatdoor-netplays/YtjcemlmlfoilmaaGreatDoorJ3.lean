import Derived.Test.YtjcemlmlfoilmaaGreatDoorJ2
import Derived.Lib.AppendZeros
import Derived.Deep.RegionWith
import Derived.RegionTactic
import Derived.BigRegion
import Derived.Laws.StructEq
set_option linter.unusedVariables false
set_option maxRecDepth 100000
set_option maxHeartbeats 8000000
namespace Go.Proofs.YtjcemlmlfoilmaaGreatDoor
open Go.RowKit Bm La Lf Lg Ka Lc
open Go.Proofs.Tryz (prog)
namespace Lh
theorem fH:(prog.info? 77).map (fun i=>(i.zero,i.size,i.bytes))=some (some (.agg #[.string ⟨#[]⟩,.int .i64 0,.bool false]),3,32):=by kernel_rfl
def Part (w:World) (v:Value) (l:List Leaf):Prop:=(v=.slice none 0 0∧l=[])∨∃ad c,v=.slice (some ad) l.length c∧∀i u,(flat l)[i]? =some u→w.cell? (ad.add i)=some u
variable {w:World}{v:Value}{l:List Leaf}(n c:Nat)
theorem Part.below{w':World}(h:Part w v l)(hb:zB w w'):Part w' v l:=by
 rcases h with h | ⟨ad,c,h1,h2⟩
 ·exact qH h
 ·exact qF ⟨ad,c,h1,fun i u hu=>(hb.cell (qJ _ _ (h2 i u hu))).trans (h2 i u hu)⟩
theorem Part.len(h:Part w v l):∃p c,v=.slice p l.length c:=by
 rcases h with⟨rfl,rfl⟩ | ⟨ad,c,rfl,_⟩
 ·exact⟨none,0,rfl⟩
 ·exact⟨some ad,c,rfl⟩
theorem LeafsIn.part{b o:Nat}(h:∀j,j<l.length->At w b o j (l.getD j none0)):Part w (.slice (some ⟨b,o,none⟩) l.length c) l:=
 qF ⟨_,c,rfl,fun i u hu=>by rw[jU];exact gM h i u hu⟩
def cat (L:Nat→List Leaf) (k:Nat):List Leaf:=(List.range k).flatMap L
theorem dD(L:Nat->List Leaf)(k:Nat):cat L (k+1)=cat L k++L k:=by
 unfold cat;rw[yV,vA];simp
theorem aCa{L:Nat->List Leaf}{i j:Nat}(h:i<=j):(cat L i).length<=(cat L j).length:=by
 induction h with
 | refl=>exact qC _
 | step _ ih=>rw[dD,qE];omega
theorem dL(b o n c:Nat)(l:List Leaf)(w:World)(hl:l.length=n)(hn2:n<=1048576)(hc:∀j,j<l.length->At w b o j (l.getD j none0)):
  Calls prog 37 #[.slice (some ⟨b,o,none⟩) n c] w fun e w'=>∃v,e=.returned v/\w'.ownsRow w.heap.size 77 3 v n (flat l)/\zB w w':=by
 obtain⟨m,p,d,f,g⟩:=info_parts fH
 have q:Hid (∀j u,(flat l)[j]? =some u->(w.alloc (.cells #[] 77)).cell? ((⟨b,o,none⟩:Addr).add j)=some u):=by
  intro j u hu;rw[jU];exact nP _ _ _ _ (gM hc j u hu)
 have r:=z9 hl
 have s:Hid ((w.alloc (.cells #[] 77)).ownsRow w.heap.size 77 3 (.slice (some (zW w)) 0 0) 0 []):=
  ⟨rfl,qF ⟨w.heap.size,0,#[],rfl,qC _,heap_alloc_new w _,qC _,by unfold maxLen;omega,rfl,rfl⟩⟩
 have t:∀(a:Addr) (n c:Nat) (w:World),Sem.run prog (binOp .eql 47 (.slice (some a) n c) (zS)) w=.ok (.bool false) w:=fun _ _ _ _=>by kernel_rfl
 clear hc hl;go_in;go_wp2_with (at_builtin;refine wpList_append_own_at _ rfl (.tmp 5) (.tmp 6) 47 rfl w.heap.size 77 m (.agg #[.string ⟨#[]⟩,zI 0,.bool false]) 3 32 Tryz.underlying47 p d f g rfl (by decide) (.slice (some (zW w)) 0 0) 0 [] rfl s.out ⟨b,o,none⟩ n c (flat l) rfl (by rw[aX,r.out]) q.out (bF l) (by unfold maxLen;omega) (by omega) (by simp) ?_;intro v' w1 hown' hgrow _ hat;have h:Hid (w1.ownsRow w.heap.size 77 3 v' n (flat l)):=(by have i:=hown';rw[qY,vC] at i;exact i);have k:Hid (zB w w1):=((qD _ w).alloc (qC _) (.cells #[] 77)).grown hgrow (by simp) (by intro j hj;simp[Value.ownBlock] at hj;omega);clear hown' hgrow hat);go_ret;exact⟨_,rfl,h.out,k.out⟩
theorem kY(w:World)(h0:0<n)(hn:n<=1048576):
  Calls prog 198 #[.slice none 0 0,.int .i64 n] w fun e w'=>∃v,e=.returned v/\w'.ownsRow w.heap.size 77 3 v 0 []/\zB w w':=by
 obtain⟨m,o,i,j,k⟩:=info_parts fH;have h:=Lib.run_append_nil_zeros (P:=prog) w 47 3 47 77 m _ .i64 .i64 Tryz.underlying47 Tryz.underlying3 o i n h0 (by rw[j];decide) (by omega) (by rw[k];omega);have d:=grownCap_le_maxLen w n 0 77 (by unfold maxLen;omega);have l:=grownCap_ge w n 0 77;obtain⟨c,f⟩:=zx (grownCap w n 0 77);rw[<-f] at h d l;have p:c<=9223372036854775807:=by unfold maxLen at d;omega
 obtain⟨a,b⟩:=zx (Builtin.zeroCells (Value.agg #[.string ⟨#[]⟩,zI 0,.bool false]).cells n++Builtin.zeroCells (Value.agg #[.string ⟨#[]⟩,zI 0,.bool false]).cells (c-n))
 have g:a.size=c*3:=by
  rw[b,Array.size_append,size_zeroCells,size_zeroCells];have:(Value.agg #[.string ⟨#[]⟩,zI 0,.bool false]).cells.size=3:=rfl;rw[this];omega
 rw[<-b] at h
 have q:Hid ((w.drew.alloc (.cells a 77)).ownsRow w.heap.size 77 3 (.slice (some (zW w)) 0 c) 0 []):=
  ⟨rfl,qF ⟨w.heap.size,c,a,rfl,qC _,heap_alloc_new w.drew _,jW _,d,g,rfl⟩⟩
 have r:Hid (zB w (w.drew.alloc (.cells a 77))):=((qD _ w).drew).alloc (qC _) _;have s:¬(n:Int)<0:=by omega
 have t:(0:Int)<n:=by omega
 clear b f d g;go_in;go_wp2_with (at_builtin;refine Lib.wpList_append_run _ rfl _ _ _ _ rfl _ _ rfl rfl _ _ h ?_);go_ret;exact⟨_,rfl,q.out,r.out⟩
end Lh
namespace Li
open Lh
theorem aAk{w:World}{base:Nat}{t:TypeId}{v:Value}{L:Nat->List Leaf}{k:Nat}(h:w.ownsRow base t 3 v ((cat L k).length+(L k).length) (flat (cat L k)++flat (L k))):w.ownsRow base t 3 v (cat L (k+1)).length (flat (cat L (k+1))):=by
 rw[dD,qE,fE];exact h
theorem mY(g:Nat)(V:Nat->Value)(L:Nat->List Leaf)(w:World)(hV:∀j,j<3->w.cell? ⟨g,j,none⟩=some (V j))(hP:∀j,j<3->Part w (V j) (L j))(h0:0<(cat L 3).length)(hn:(cat L 3).length<=1048576):
  Calls prog 191 #[.slice (some ⟨g,0,none⟩) 3 3] w fun e w'=>∃v,e=.returned v/\w'.ownsRow w.heap.size 77 3 v (cat L 3).length (flat (cat L 3))/\zB w w':=by
 obtain⟨J,K,M,N,O⟩:=info_parts fH;have Q:=z9 hV;have R:=z9 hP;have h:Hid (∀k,k<=3->(cat L k).length<=(cat L 3).length):=fun k t=>aCa t
 obtain⟨T,E⟩:=zx ((cat L 3).length);rw[<-E] at h0 hn h |-;have S:=z9 E;clear hV hP E;go_in;go_wp2;go_loop [3,5,11] (fun s _ i=>∃(k m:Nat),k<=3/\i=zI k/\s=zI m/\Hid (m=(cat L k).length)) (fun _ _ i=>3-(intOf i).toNat)
 case atStart=>exact⟨0,0,by omega,rfl,rfl,rfl⟩
 case round=>
  obtain⟨k,m,t,rfl,rfl,F⟩:=hrel;have hm:m<=1048576:=by have h1:=h.out k t;have h2:=F.out;omega
  by_cases b:k<3
  ·have G:(k:Int)<3:=by omega
   have l:=Q.out k b;obtain⟨p,c,U⟩:=(R.out k b).len;obtain⟨r,d⟩:=zx ((L k).length);rw[U,<-d] at l;have y:Hid (m+r=(cat L (k+1)).length):=by unfold Hid;rw[dD,qE,F.out,d]
   have aj:m+r<=1048576:=by have h1:=h.out (k+1) b;have h2:=y.out;omega
   have ag:¬(m:Int)+r<0:=by omega
   clear U d;go_wp2_with fail;go_round
   case rel=>exact⟨k+1,m+r,by omega,by go_num,by go_num,y⟩
   case measure=>simp[intOf];omega
  ·obtain rfl:k=3:=by omega
   obtain rfl:m=T:=by rw[S.out];exact F.out
   have C:=kY m w h0 hn;go_wp2_with fail;refine C.mono ?_;rintro e w1 ⟨v1,rfl,z,A⟩;have B:=z9 z;have D:=z9 A;clear C z A;go_wp2_with fail;go_loopw [6,8,27] (fun v _ i wr=>∃(k:Nat),k<=3/\i=zI k/\Hid (wr.ownsRow w.heap.size 77 3 v (cat L k).length (flat (cat L k)))/\Hid (zB w wr)) (fun _ _ i _=>3-(intOf i).toNat)
   case atStart=>exact⟨0,by omega,rfl,B,D⟩
   case round=>
    clear B D;obtain⟨k,t,rfl,n,f⟩:=hrel;by_cases b:k<3
    ·have G:(k:Int)<3:=by omega
     have o:=h.out (k+1) b;rw[dD,qE] at o;have I:=Q.out k b;have l:wr.cell? ⟨g,k,none⟩=some (V k):=(f.out.cell (p:=⟨g,k,none⟩) (qJ _ _ I)).trans I;clear I;rcases(R.out k b).below f.out with⟨hv,hl0⟩ | ⟨ad,c,hv,hcc⟩
     ·rw[hv] at l;have X:=run_append_owned_none (P:=prog) (w:=wr) w.heap.size 47 47 77 J 3 Tryz.underlying47 K u6 _ _ n.out
      have Y:Hid (wr.ownsRow w.heap.size 77 3 u6 (cat L (k+1)).length (flat (cat L (k+1)))):=by
       unfold Hid;rw[dD,hl0,vY];exact n.out
      clear hv hl0 o;go_wp2_with (at_builtin;refine Lib.wpList_append_run _ rfl _ _ _ _ rfl _ _ rfl rfl _ _ X ?_);go_roundw
      case rel=>exact⟨k+1,by omega,by go_num,Y,f⟩
      case measure=>simp[intOf];omega
     ·rw[hv] at l;obtain⟨r,d⟩:=zx ((L k).length);rw[<-d] at l o;have Z:Hid ((flat (L k)).length=r*3):=by unfold Hid;rw[aX,d]
      have aa:=z9 hcc;have HR:=z9 d;clear hv hcc d;go_wp2_with (at_builtin;refine wpList_append_own_at _ rfl (.tmp 31) (.tmp 32) 47 rfl w.heap.size 77 J (.agg #[.string ⟨#[]⟩,zI 0,.bool false]) 3 32 Tryz.underlying47 K M N O rfl (by decide) u6 _ _ rfl n.out ad r c (flat (L k)) rfl Z.out aa.out (bF _) (by unfold maxLen;omega) (by omega) f.out.size ?_;intro v' w3 hown' hgrow _ hat;have ab:Hid (zB w w3):=(aS n.out f.out hgrow f.out.size);have ac:Hid (w3.ownsRow w.heap.size 77 3 v' (cat L (k+1)).length (flat (cat L (k+1)))):=(by rw[HR.out] at hown';exact aAk hown');clear hown' hgrow hat);go_roundw
      case rel=>exact⟨k+1,by omega,by go_num,ac,ab⟩
      case measure=>simp[intOf];omega
    ·obtain rfl:k=3:=by omega
     go_wp2_with fail;go_ret;exact⟨_,rfl,by rw[S.out];exact n.out,f.out⟩
end Li
namespace Lj
open Ld Lh Li
def BookAt (w:World) (v:Value) (l:List Leaf):Prop:=∃p c,v=.slice p l.length c∧LeafsIn w p l∧l.length≤c∧c≤maxLen∧(p=none→c=0)
theorem BookAt.below{w w':World}{v:Value}{l:List Leaf}(h:BookAt w v l)(hb:zB w w'):BookAt w' v l:=by
 obtain⟨p,c,a,b,d⟩:=h;exact⟨p,c,a,b.below hb,d⟩
variable {l:List Leaf}{i b o:Nat}(q:Option Addr)(w2:World)(p:List UInt8)(x:Leaf)(n c:Nat)(v0:Value)(sx:ByteArray)(v2:Value)(nx:Int)(bx:Bool)(w:World)
theorem BookAt.nil:BookAt w (.slice none 0 0) []:=⟨none,0,rfl,qH rfl,qC _,by unfold maxLen;omega,fun _=>rfl⟩
def BookNew (B:Nat) (w:World) (v:Value) (l:List Leaf):Prop:=BookAt w v l∧Lies B v
theorem BookNew.mono{B C:Nat}{w:World}{v:Value}{l:List Leaf}(h:BookNew B w v l)(hC:C<=B):BookNew C w v l:=⟨h.1,h.2.mono hC⟩
theorem BookNew.nil(B:Nat)(w:World):BookNew B w (.slice none 0 0) []:=⟨BookAt.nil w,Lies.nil B⟩
theorem own_at{w:World}{base:Nat}{t:TypeId}{v:Value}{n:Nat}(h:w.ownsRow base t 3 v n (flat l)):BookAt w v l:=by
 obtain⟨b,p,c,a,d⟩:=aBi h;refine⟨p,c,by rw[b];exact a,d, ?_⟩;rcases h.2 with⟨e,e0⟩ | ⟨g,cap,cur,e,_,_,h3,h4,_⟩
 ·rw[a] at e;injection e with e1 e2 e3
  exact⟨by omega,by rw[e3];unfold maxLen;omega,fun _=>e3⟩
 ·rw[a] at e;injection e with e1 e2 e3
  exact⟨by omega,by omega,fun h9=>by rw[h9] at e1;cases e1⟩
theorem aH1{p:ByteArray}(hh:has l p.toList=true)(x:Leaf):putL l p x=l.set (ahd l p.toList) x:=by
 unfold putL;rw[hh,if_pos rfl];unfold has at hh;rw[qX,decide_eq_true_eq] at hh;rw[List.set_eq_take_append_cons_drop,if_pos hh.1]
theorem aG0{w:World}{g:Nat}{x:Leaf}(hi:i<l.length)(hc:∀j,j<l.length->At w g 0 j (l.getD j none0)):
  ∀j,j<(l.set i x).length->At (((w.setCell ⟨g,i*3,none⟩ (.string x.1)).setCell ⟨g,i*3+1,none⟩ (.int .i64 x.2.1)).setCell ⟨g,i*3+2,none⟩ (.bool x.2.2)) g 0 j ((l.set i x).getD j none0):=by
 intro j hj;rw[jN] at hj;by_cases h:j=i
 ·subst h;have e:(l.set j x).getD j none0=x:=by rw[qA,jR hj];rfl
  obtain⟨b,c,d⟩:=hc j hj;rw[qY] at b c d;rw[e];unfold At;rw[qY];have m:(⟨g,j*3,none⟩:Addr)≠⟨g,j*3+1,none⟩:=by intro e;injection e;omega
  have n:(⟨g,j*3,none⟩:Addr)≠⟨g,j*3+2,none⟩:=by intro e;injection e;omega
  have o:(⟨g,j*3+1,none⟩:Addr)≠⟨g,j*3+2,none⟩:=by intro e;injection e;omega
  refine⟨?_, ?_, ?_⟩
  ·rw[qN _ _ _ _ n.symm,qN _ _ _ _ m.symm,xE _ _ _ b]
  ·rw[qN _ _ _ _ o.symm];obtain⟨u,f⟩:=cell?_setCell_some (x:=.string x.1) (p:=⟨g,j*3,none⟩) c;rw[xE _ _ _ f]
  ·obtain⟨u,f⟩:=cell?_setCell_some (x:=.string x.1) (p:=⟨g,j*3,none⟩) d;obtain⟨u2,k⟩:=cell?_setCell_some (x:=zI x.2.1) (p:=⟨g,j*3+1,none⟩) f;rw[xE _ _ _ k]
 ·have e:(l.set i x).getD j none0=l.getD j none0:=by rw[qA,qA,qS (by omega)]
  rw[e];obtain⟨b,c,d⟩:=hc j hj;unfold At;refine⟨?_, ?_, ?_⟩
  ·rw[qN _ _ _ _ (by intro e;injection e;omega),qN _ _ _ _ (by intro e;injection e;omega),qN _ _ _ _ (by intro e;injection e;omega)];exact b
  ·rw[qN _ _ _ _ (by intro e;injection e;omega),qN _ _ _ _ (by intro e;injection e;omega),qN _ _ _ _ (by intro e;injection e;omega)];exact c
  ·rw[qN _ _ _ _ (by intro e;injection e;omega),qN _ _ _ _ (by intro e;injection e;omega),qN _ _ _ _ (by intro e;injection e;omega)];exact d
theorem aH0(l:List Leaf)(sx:ByteArray)(nx:Int)(bx:Bool)(w:World)(hl:l.length=n)(h:LeafsIn w q l)(hr:Rise l)(hn:n<=300)(hh:has l sx.toList=true):
  Calls prog 180 #[.slice q n c,.agg #[.string sx,.int .i64 nx,.bool bx]] w fun e w'=>∃v,e=.returned (.tuple #[v,.nilIface])/\BookNew w.heap.size w' v (putL l sx (sx,nx,bx))/\zB w w':=by
 have m:ahd l sx.toList<l.length:=by unfold has at hh;rw[qX,decide_eq_true_eq] at hh;exact hh.1
 have r:Hid (putL l sx (sx,nx,bx)=l.set (ahd l sx.toList) (sx,nx,bx)):=aH1 hh _;have A:zB w (w.alloc (.cells #[.string sx,zI nx,.bool bx] 77)):=(qD _ w).alloc (qC _) _;have C:=fX q n c l sx _ hl (h.below A) hr (by omega);rw[hh] at C;obtain⟨b,o,rfl,L⟩:=h.some (by rintro rfl;simp at m)
 have N:Hid (∀w2,zB w w2->Calls prog 37 #[.slice (some ⟨b,o,none⟩) n c] w2 fun e w'=>∃v,e=.returned v/\w'.ownsRow w2.heap.size 77 3 v n (flat l)/\zB w2 w'):=
  fun w2 hb=>dL b o n c l w2 hl (by omega) (fun j hj=>(L j hj).below hb (L j hj).lt)
 obtain⟨i,O⟩:=zx (ahd l sx.toList);rw[<-O] at C r m;have P:=z9 hl;have D:=z9 m;have ad:(i:Int)<n:=by omega
 have Q:=z9 A;clear hl h hr hh O A L m;go_in;go_wp2_with fail;refine C.mono ?_;rintro e w2 ⟨rfl,s⟩;have G:=z9 (bel Q.out s);have d:=bC (x:=(sx,nx,bx)) s;simp only at d;have R:=z9 d;have t:Hid (w.heap.size<w2.heap.size):=by have:=s.size;simp at this;unfold Hid;omega
 have S:=N.out w2 G.out;clear s C d;go_wp2_with fail;refine S.mono ?_;rintro e w3 ⟨v,rfl,E,f⟩;have T:=z9 (bel G.out f);obtain⟨U,V,X⟩:=R.out;have e0:=(f.cell (p:=(zW w)) t.out).trans U;have e1:=(f.cell (p:=⟨w.heap.size,1,none⟩) t.out).trans V;have e2:=(f.cell (p:=⟨w.heap.size,2,none⟩) t.out).trans X;obtain⟨_,p3,M,rfl,H⟩:=aBi E;rcases E.2 with⟨e,e9⟩ | ⟨g,cap,cur,e,hg,hcur,h3,h4,_⟩
 ·exfalso;omega
 injection e with e5 e6 e7
 subst e5 e7;obtain⟨b4,o4,k,F⟩:=H.some (by rintro rfl;have:=D.out;simp at this);injection k with k
 injection k with k hp5
 subst k hp5;have Y:=z9 F;have a:Hid (n<=M/\M<=maxLen/\w.heap.size<=g):=⟨h3,h4,by have:=t.out;omega⟩;obtain⟨Z,a2,a3⟩:=F i D.out;rw[qY] at Z a2 a3;have f1:w3.frozen? ⟨g,i*3,none⟩=false:=by simp[World.frozen?,hcur]
 have f2:w3.frozen? ⟨g,i*3+1,none⟩=false:=by simp[World.frozen?,hcur]
 have f3:w3.frozen? ⟨g,i*3+2,none⟩=false:=by simp[World.frozen?,hcur]
 obtain⟨y1,I⟩:∃y,y=Value.string (l.getD i none0).1:=⟨_,rfl⟩;obtain⟨y2,J⟩:∃y,y=Value.int .i64 (l.getD i none0).2.1:=⟨_,rfl⟩;obtain⟨y3,K⟩:∃y,y=Value.bool (l.getD i none0).2.2:=⟨_,rfl⟩;rw[<-I] at Z;rw[<-J] at a2;rw[<-K] at a3;clear f S U V X E H hcur h3 h4 F I J K e6;go_wp2_with fail;go_ret2;refine⟨_,rfl,⟨⟨some (zA g),M, ?_,qF ⟨g,0,rfl, ?_⟩, ?_,a.out.2.1,fun h=>by cases h⟩,Lies.at a.out.2.2⟩, ?_⟩
 ·rw[r.out,jN,P.out];rfl
 ·rw[r.out];exact aG0 (x:=(sx,nx,bx)) D.out Y.out
 ·rw[r.out,jN,P.out];exact a.out.1
 ·exact((T.out.setCell (p:=⟨g,i*3,none⟩) a.out.2.2 _).setCell (p:=⟨g,i*3+1,none⟩) a.out.2.2 _).setCell (p:=⟨g,i*3+2,none⟩) a.out.2.2 _
theorem aFm(l:List Leaf)(sx:ByteArray)(nx:Int)(bx:Bool)(w:World)(hl:l.length=n)(h:LeafsIn w q l)(hr:Rise l)(hn:n<=1048576)(hh:has l sx.toList=false)(h300:300<=n):
  Calls prog 180 #[.slice q n c,.agg #[.string sx,.int .i64 nx,.bool bx]] w fun e w'=>e=.returned (.tuple #[.slice none 0 0,.iface 59 (.int .i64 4)])/\zB w w':=by
 have a:zB w (w.alloc (.cells #[.string sx,zI nx,.bool bx] 77)):=(qD _ w).alloc (qC _) _;have C:=fX q n c l sx _ hl (h.below a) hr (by omega);rw[hh] at C;obtain⟨i,d⟩:=zx (ahd l sx.toList);rw[<-d] at C;have k:(300:Int)<=n:=by omega
 have f:=z9 a;clear hl h hr hh d a;go_in;go_wp2_with fail;refine C.mono ?_;rintro e w2 ⟨rfl,b⟩;have g:=z9 (bel f.out b);clear b C;go_wp2_with fail;go_ret2;exact⟨rfl,g.out⟩
def threeW (w2:World) (x:Leaf) (v0 v2:Value):World:=((w2.alloc (.cells #[.string x.1,.int .i64 x.2.1,.bool x.2.2] 77)).alloc (.cells #[v0,.slice (some ⟨w2.heap.size,0,none⟩) 1 1,v2] 47)).drew
theorem lI:zB w2 (threeW w2 x v0 v2):=
 (((zb w2 _).alloc (by simp) _).drew)
theorem cO(l0 l2:List Leaf)(h0:Part w2 v0 l0)(h2:Part w2 v2 l2)(hn:(l0++x::l2).length<=1048576):
  Calls prog 191 #[.slice (some ⟨w2.heap.size+1,0,none⟩) 3 3] (threeW w2 x v0 v2) fun e w'=>∃v,e=.returned v/\BookNew w2.heap.size w' v (l0++x::l2)/\zB w2 w':=by
 have a:=lI w2 x v0 v2
 have c:(threeW w2 x v0 v2).heap[w2.heap.size+1]? =some (.cells #[v0,.slice (some (zW w2)) 1 1,v2] 47):=by
  have:=heap_alloc_new (w2.alloc (.cells #[.string x.1,zI x.2.1,.bool x.2.2] 77)) (.cells #[v0,.slice (some (zW w2)) 1 1,v2] 47)
  have e:(w2.alloc (.cells #[.string x.1,zI x.2.1,.bool x.2.2] 77)).heap.size=w2.heap.size+1:=by simp
  rw[e] at this
  exact this
 have h:(threeW w2 x v0 v2).heap[w2.heap.size]? =some (.cells #[.string x.1,zI x.2.1,.bool x.2.2] 77):=by
  have:=heap_alloc_old (w2.alloc (.cells #[.string x.1,zI x.2.1,.bool x.2.2] 77)) (.cells #[v0,.slice (some (zW w2)) 1 1,v2] 47) (show w2.heap.size<_ by simp)
  exact this.trans (heap_alloc_new w2 _)
 have d:cat (fun j=>if j=0 then l0 else if j=1 then[x] else l2) 3=l0++x::l2:=by simp[cat,yV]
 have C:=mY (w2.heap.size+1) (fun j=>if j=0 then v0 else if j=1 then .slice (some (zW w2)) 1 1 else v2) (fun j=>if j=0 then l0 else if j=1 then[x] else l2) (threeW w2 x v0 v2) (by
   intro j hj
   match j,hj with
   | 0,_=>simp only[World.cell?,c];rfl
   | 1,_=>simp only[World.cell?,c];rfl
   | 2,_=>simp only[World.cell?,c];rfl) (by
   intro j hj
   match j,hj with
   | 0,_=>exact h0.below a
   | 1,_=>
    refine qF ⟨(zW w2),1,rfl,fun i u hu=> ?_⟩
    rw[jU,qY]
    simp only[World.cell?,h]
    have e:flat [x]=[.string x.1,zI x.2.1,.bool x.2.2]:=rfl
    have b:(flat [x])[i]? =some u:=hu
    rw[e] at b
    simpa using b
   | 2,_=>exact h2.below a) (by rw[d];simp;omega) (by rw[d];exact hn)
 refine C.mono ?_
 rintro e w' ⟨v,rfl,f,g⟩
 rw[d] at f
 exact⟨v,rfl,⟨own_at f,(Lies.own f).mono a.size⟩,bel a g⟩
theorem take_part{w:World}{c:Nat}(hi:i<=l.length)(h:∀j,j<l.length->At w b o j (l.getD j none0)):Part w (.slice (some ⟨b,o,none⟩) i c) (l.take i):=by
 have e:(l.take i).length=i:=by rw[qQ];omega
 have:=LeafsIn.part (w:=w) (b:=b) (o:=o) (l:=l.take i) c (fun j hj=>by
  rw[e] at hj
  have:(l.take i).getD j none0=l.getD j none0:=by
   rw[qA,qA,jC hj]
  rw[this];exact h j (by omega))
 rw[e] at this;exact this
theorem drop_part{w:World}{c n:Nat}{ad:Addr}(hl:l.length=n)(hi:i<=n)(hc:n<=c)(had:(if c=i then some (⟨b,o,none⟩:Addr) else some ⟨b,o+i*3,none⟩)=some ad)(h:∀j,j<l.length->At w b o j (l.getD j none0)):Part w (.slice (some ad) (n-i) (c-i)) (l.drop i):=by
 have e:(l.drop i).length=n-i:=by rw[xH,hl]
 by_cases a:c=i
 ·have f:l.drop i=[]:=xM (by omega);have g:n-i=0:=by omega
  rw[f,g];exact qF ⟨ad,c-i,rfl,fun j u hu=>by simp[flat] at hu⟩
 ·rw[if_neg a] at had;injection had with had
  subst had
  have:=LeafsIn.part (w:=w) (b:=b) (o:=o+i*3) (l:=l.drop i) (c-i) (fun j hj=>by
   rw[e] at hj
   have k:(l.drop i).getD j none0=l.getD (i+j) none0:=by
    rw[qA,qA,xQ]
   rw[k];have d:=h (i+j) (by omega);unfold At at d |-;rw[show o+i*3+j*3=o+(i+j)*3 by omega];exact d)
  rw[e] at this;exact this
theorem aHX(b o n c:Nat)(l:List Leaf)(sx:ByteArray)(nx:Int)(bx:Bool)(w:World)(hl:l.length=n)(hn0:0<n)(h:∀j,j<l.length->At w b o j (l.getD j none0))(hr:Rise l)(hn:n<300)(hc:n<=c)(hcm:c<=maxLen)(hh:has l sx.toList=false):
  Calls prog 180 #[.slice (some ⟨b,o,none⟩) n c,.agg #[.string sx,.int .i64 nx,.bool bx]] w fun e w'=>∃v,e=.returned (.tuple #[v,.nilIface])/\BookNew w.heap.size w' v (putL l sx (sx,nx,bx))/\zB w w':=by
 have a:zB w (w.alloc (.cells #[.string sx,zI nx,.bool bx] 77)):=(qD _ w).alloc (qC _) _;have q:LeafsIn w (some ⟨b,o,none⟩) l:=qF ⟨b,o,rfl,h⟩;have C:=fX (some ⟨b,o,none⟩) n c l sx _ hl (q.below a) hr (by omega);rw[hh] at C;have f:=nU (p:=sx.toList) hr;rw[hl] at f;have r:Hid (putL l sx (sx,nx,bx)=l.take (ahd l sx.toList)++(sx,nx,bx)::l.drop (ahd l sx.toList)):=by unfold Hid putL;rw[hh];rfl
 obtain⟨i,A⟩:=zx (ahd l sx.toList);rw[<-A] at C f r;have M:¬(300:Int)<=n:=by omega
 have K:(i:Int)<=n:=by omega
 have J:(i:Int)<=c:=by omega
 unfold maxLen at hcm
 obtain⟨y,B⟩:∃y,(if c=i then some (⟨b,o,none⟩:Addr) else some ⟨b,o+i*3,none⟩)=some y:=by
  by_cases e:c=i
  ·exact⟨⟨b,o,none⟩,by rw[if_pos e]⟩
  ·exact⟨⟨b,o+i*3,none⟩,by rw[if_neg e]⟩
 have D:Hid (∀w2,zB w w2->Calls prog 191 #[.slice (some (zV w2)) 3 3] (threeW w2 (sx,nx,bx) (.slice (some ⟨b,o,none⟩) i c) (.slice (some y) (n-i) (c-i))) fun e w'=>∃v,e=.returned v/\BookNew w2.heap.size w' v (l.take i++(sx,nx,bx)::l.drop i)/\zB w2 w'):=by
  intro w2 hb;have E:∀j,j<l.length->At w2 b o j (l.getD j none0):=fun j hj=>(h j hj).below hb (h j hj).lt
  refine cO w2 (sx,nx,bx) _ _ _ _ (take_part (by omega) E) (drop_part hl f hc B E) ?_;rw[qE,qV,qQ,xH];omega
 have F:=z9 a;clear hl h hr hh A a q;go_in;go_wp2_with fail;refine C.mono ?_;rintro e w2 ⟨rfl,k⟩;have m:=z9 (bel F.out k);have d:=bC (x:=(sx,nx,bx)) k;simp only at d;obtain⟨N,O,P⟩:=d;have z:=D.out w2 m.out;unfold threeW at z;simp only at z;clear k C;go_wp2_with fail;go_region_with (go_at_call 191;refine z.mono ?_;rintro e w6 ⟨Q,rfl,s,t⟩;have G:=z9 (s.mono m.out.size);have H:=z9 (bel m.out t);clear s t)
 all_goals
  go_wp2_with fail;go_ret2;exact⟨_,rfl,by rw[r.out];exact G.out,H.out⟩
theorem aDr:ahd [] p=0:=rfl
theorem aC2:has [] p=false:=rfl
theorem aFx:
  Calls prog 180 #[.slice none 0 0,.agg #[.string sx,.int .i64 nx,.bool bx]] w fun e w'=>∃v,e=.returned (.tuple #[v,.nilIface])/\BookNew w.heap.size w' v (putL [] sx (sx,nx,bx))/\zB w w':=by
 have C:=fX none 0 0 [] sx (w.alloc (.cells #[.string sx,zI nx,.bool bx] 77)) rfl (qH rfl) List.Pairwise.nil (by omega);rw[aDr,aC2] at C
 have h:Hid (∀w2,Calls prog 191 #[.slice (some (zV w2)) 3 3] (threeW w2 (sx,nx,bx) (zS) (zS)) fun e w'=>∃v,e=.returned v/\BookNew w2.heap.size w' v ([]++(sx,nx,bx)::[])/\zB w2 w'):=
  fun w2=>cO w2 (sx,nx,bx) _ _ [] [] (qH ⟨rfl,rfl⟩) (qH ⟨rfl,rfl⟩) (by simp)
 have i:Hid (zB w (w.alloc (.cells #[.string sx,zI nx,.bool bx] 77))):=zb w _;go_in;go_wp2_with fail;refine C.mono ?_;rintro e w2 ⟨rfl,a⟩;have b:=z9 (bel i.out a);have d:=bC (x:=(sx,nx,bx)) a;simp only at d;obtain⟨n,o,p⟩:=d;have g:=h.out w2;unfold threeW at g;simp only at g;clear a C;go_wp2_with fail;go_region_with (go_at_call 191;refine g.mono ?_;rintro e w6 ⟨q,rfl,c,f⟩;have j:=z9 (c.mono b.out.size);have k:=z9 (bel b.out f);clear c f)
 all_goals
  go_wp2_with fail;go_ret2;exact⟨_,rfl,j.out,k.out⟩
theorem aEU(a:Addr)(c:Nat)(sx:ByteArray)(nx:Int)(bx:Bool)(w:World)(hcm:c<=maxLen):
  Calls prog 180 #[.slice (some a) 0 c,.agg #[.string sx,.int .i64 nx,.bool bx]] w fun e w'=>∃v,e=.returned (.tuple #[v,.nilIface])/\BookNew w.heap.size w' v (putL [] sx (sx,nx,bx))/\zB w w':=by
 have C:=fX (some a) 0 c [] sx (w.alloc (.cells #[.string sx,zI nx,.bool bx] 77)) rfl (qH rfl) List.Pairwise.nil (by omega);rw[aDr,aC2] at C;unfold maxLen at hcm;have i:∀(w2:World) (x:Addr) (c:Nat),Part w2 (.slice (some x) 0 c) []:=fun w2 x c=>qF ⟨x,c,rfl,fun j u hu=>by simp[flat] at hu⟩
 have l:Hid (∀w2,Calls prog 191 #[.slice (some (zV w2)) 3 3] (threeW w2 (sx,nx,bx) (.slice (some a) 0 c) (.slice (some a) 0 c)) fun e w'=>∃v,e=.returned v/\BookNew w2.heap.size w' v ([]++(sx,nx,bx)::[])/\zB w2 w'):=
  fun w2=>cO w2 (sx,nx,bx) _ _ [] [] (i _ _ _) (i _ _ _) (by simp)
 have m:Hid (zB w (w.alloc (.cells #[.string sx,zI nx,.bool bx] 77))):=zb w _;clear i;have q:(0:Int)<=c:=by omega
 go_in;go_wp2_with fail;refine C.mono ?_;rintro e w2 ⟨rfl,b⟩;have f:=z9 (bel m.out b);have d:=bC (x:=(sx,nx,bx)) b;simp only at d;obtain⟨s,t,y⟩:=d;have k:=l.out w2;unfold threeW at k;simp only at k;clear b C;go_wp2_with fail;go_region_with (go_at_call 191;refine k.mono ?_;rintro e w6 ⟨z,rfl,g,h⟩;have n:=z9 (g.mono f.out.size);have o:=z9 (bel f.out h);clear g h)
 all_goals
  go_wp2_with fail;go_ret2;exact⟨_,rfl,n.out,o.out⟩
def putR (l:List Leaf) (p:ByteArray) (x:Leaf):List Leaf:=if putE l p=0 then putL l p x else[]
theorem aDF(v:Value)(l:List Leaf)(sx:ByteArray)(nx:Int)(bx:Bool)(w:World)(h:BookAt w v l)(hr:Rise l)(hn:l.length<=300):
  Calls prog 180 #[v,.agg #[.string sx,.int .i64 nx,.bool bx]] w fun e w'=>∃v',e=.returned (.tuple #[v',errV (putE l sx)])/\BookNew w.heap.size w' v' (putR l sx (sx,nx,bx))/\zB w w':=by
 obtain⟨p,c,rfl,d,r,j,k⟩:=h
 cases hh:has l sx.toList
 ·by_cases f:300<=l.length
  ·have e:putE l sx=4:=by unfold putE;rw[if_pos ⟨hh,f⟩]
   have g:putR l sx (sx,nx,bx)=[]:=by unfold putR;rw[e,if_neg (by decide)]
   rw[e,g]
   refine(aFm p _ c l sx nx bx w rfl d hr (by omega) hh f).mono ?_
   rintro e w' ⟨rfl,s⟩
   exact⟨_,rfl,BookNew.nil _ _,s⟩
  ·have e:putE l sx=0:=putE_zero.2 (qF (by omega))
   have g:putR l sx (sx,nx,bx)=putL l sx (sx,nx,bx):=by unfold putR;rw[if_pos e]
   rw[e,g,aD]
   by_cases i:l=[]
   ·subst i
    cases p with
    | none=>
     rw[k rfl]
     exact aFx sx nx bx w
    | some a=>exact aEU a c sx nx bx w j
   ·obtain⟨b,o,rfl,m⟩:=d.some i
    exact aHX b o _ c l sx nx bx w rfl (by cases l with | nil=>exact absurd rfl i | cons _ _=>simp) m hr (by omega) r j hh
 ·have e:putE l sx=0:=putE_zero.2 (qH hh)
  have g:putR l sx (sx,nx,bx)=putL l sx (sx,nx,bx):=by unfold putR;rw[if_pos e]
  rw[e,g,aD]
  exact aH0 p _ c l sx nx bx w rfl d hr hn hh
end Lj
namespace Lk
open Go.WideShapes Lb Lj
theorem aAT{w:World}{v:Value}{l:List Leaf}(h:BookAt w v l)(p:ByteArray)(hs:∀x ∈ l,x.1.size<=maxLen)(hp:p.size<=maxLen):
  Calls prog 178 #[v,.string p] w fun e w'=>e=.returned (errV (withE l p))/\zB w w':=by
 obtain⟨q,c,rfl,a,d,b,_⟩:=h;exact uN q _ c l p w rfl a hs (qO d b) hp
theorem uQ{w:World}{v:Value}{l:List Leaf}(h:BookAt w v l)(p:ByteArray)(hr:Rise l)(hn:l.length<=300):
  Calls prog 179 #[v,.string p] w fun e w'=>e=.returned (rK (Bm.leafAt l p))/\zB w w':=by
 obtain⟨q,c,rfl,a,g,b,_⟩:=h;exact aCI q _ c l p w rfl a hr (by omega)
theorem iA(v:Value)(l:List Leaf)(p:ByteArray)(c:Int)(w:World)(h:BookAt w v l)(hs:∀x ∈ l,x.1.size<=maxLen)(hp:p.size<=maxLen):
  Calls prog 158 #[v,.string p,.int .i64 c] w fun e w'=>∃v',e=.returned (.tuple #[v',errV (writeE l p c)])/\BookNew w.heap.size w' v' (writeL l p c)/\zB w w':=by
 have C:=aAT h p hs hp;by_cases m:withE l p=0
 ·obtain⟨D,K⟩:=eU.1 m;have j:=dO D;have G:Hid (writeE l p c=wrE l p c):=by unfold Hid writeE;rw[if_neg (by simpa using m)]
  rw[m,aD] at C;cases hc:isL c
  ·have g:Hid (writeE l p c=1):=by unfold Hid;rw[G.out];unfold wrE;rw[if_pos hc]
   have n:Hid (writeL l p c=[]):=by unfold Hid writeL;rw[g.out];rfl
   have o:=fun w=>bV c w
   rw[hc] at o;rw[g.out,n.out];clear m D K j G hc g n h hs hp;go_in;go_wp2_with fail;refine C.mono ?_;rintro e w2 ⟨rfl,a⟩;have d:=z9 a;clear a C;go_wp2_with fail;refine(o _).mono ?_;rintro e w3 ⟨rfl,q⟩;have r:=q.symm;subst r;clear q o;go_wp2_with fail;go_ret2;exact⟨_,rfl,BookNew.nil _ _,d.out⟩
  ·have o:=fun w=>bV c w
   rw[hc] at o;have E:Hid (∀w2,zB w w2->Calls prog 179 #[v,.string p] w2 fun e w'=>e=.returned (rK (Bm.leafAt l p))/\zB w2 w'):=fun w2 hb=>uQ (h.below hb) p j.2.1 j.1
   have B:=iV j.2.1 p;obtain⟨x,H⟩:=zx (Bm.leafAt l p);rw[<-H] at E B;obtain⟨b,I,t⟩:=x;simp only at B;subst B;have L:Hid (wrX l b c=(b,c,t)):=by unfold Hid wrX;rw[<-H]
   cases hcl:clash (b,I,t) c
   ·have g:Hid (writeE l b c=putE l b):=by unfold Hid;rw[G.out];unfold wrE;rw[if_neg (by rw[hc];decide),<-H,hcl];rfl
    have n:Hid (writeL l b c=putR l b (b,c,t)):=by unfold Hid writeL putR;rw[g.out,L.out]
    have M:Hid (∀w2,zB w w2->Calls prog 180 #[v,.agg #[.string b,zI c,.bool t]] w2 fun e w'=>∃v',e=.returned (.tuple #[v',errV (putE l b)])/\BookNew w2.heap.size w' v' (putR l b (b,c,t))/\zB w2 w'):=fun w2 hb=>aDF v l b c t w2 (h.below hb) j.2.1 j.1
    rw[g.out,n.out];obtain⟨X,R⟩:=zx (errV (putE l b));rw[<-R] at M |-;clear m D K j G g n h hs hp H L R hc;by_cases N:I=0
    ·subst N;clear hcl;go_in;go_wp2_with fail;refine C.mono ?_;rintro e w2 ⟨rfl,a⟩;have d:=z9 a;clear a C;go_wp2_with fail;refine(o _).mono ?_;rintro e w3 ⟨rfl,q⟩;have r:=q.symm;subst r;clear q o;have s:=E.out w2 d.out;unfold rK at s;go_wp2_with fail;refine s.mono ?_;rintro e w4 ⟨rfl,i⟩;have f:=z9 (bel d.out i);clear i s;have O:=M.out _ (f.out.alloc f.out.size (.cells #[.string b,zI c,.bool t] 77));have y:Hid (zB w (w4.alloc (.cells #[.string b,zI c,.bool t] 77))):=f.out.alloc f.out.size _;go_wp2_with fail;refine O.mono ?_;rintro e w6 ⟨U,rfl,z,A⟩;have P:=z9 (z.mono y.out.size);have Q:=z9 (bel y.out A);clear z A O;go_wp2_with fail;go_ret2;exact⟨_,rfl,P.out,Q.out⟩
    ·have F:(I !=0)=true:=by simpa using N
     have S:c=I:=by
      unfold clash at hcl;rw[xX] at hcl;rcases hcl with e | e
      ·rw[F] at e;cases e
      ·have V:I=c:=by simpa using e
       exact V.symm
     subst S;clear hcl;go_in;go_wp2_with fail;refine C.mono ?_;rintro e w2 ⟨rfl,a⟩;have d:=z9 a;clear a C;go_wp2_with fail;refine(o _).mono ?_;rintro e w3 ⟨rfl,q⟩;have r:=q.symm;subst r;clear q o;have s:=E.out w2 d.out;unfold rK at s;go_wp2_with fail;refine s.mono ?_;rintro e w4 ⟨rfl,i⟩;have f:=z9 (bel d.out i);clear i s;have O:=M.out _ (f.out.alloc f.out.size (.cells #[.string b,zI c,.bool t] 77));have y:Hid (zB w (w4.alloc (.cells #[.string b,zI c,.bool t] 77))):=f.out.alloc f.out.size _;go_wp2_with fail;refine O.mono ?_;rintro e w6 ⟨U,rfl,z,A⟩;have P:=z9 (z.mono y.out.size);have Q:=z9 (bel y.out A);clear z A O;go_wp2_with fail;go_ret2;exact⟨_,rfl,P.out,Q.out⟩
   ·have g:Hid (writeE l b c=7):=by unfold Hid;rw[G.out];unfold wrE;rw[if_neg (by rw[hc];decide),<-H,hcl];rfl
    have n:Hid (writeL l b c=[]):=by unfold Hid writeL;rw[g.out];rfl
    rw[g.out,n.out];unfold clash at hcl;rw[qX] at hcl;obtain⟨F,T⟩:=hcl;simp only at F T;have N:¬I=0:=by simpa using F
    clear m D K j G g n h hs hp H L hc;go_in;go_wp2_with fail;refine C.mono ?_;rintro e w2 ⟨rfl,a⟩;have d:=z9 a;clear a C;go_wp2_with fail;refine(o _).mono ?_;rintro e w3 ⟨rfl,q⟩;have r:=q.symm;subst r;clear q o;have s:=E.out w2 d.out;unfold rK at s;go_wp2_with fail;refine s.mono ?_;rintro e w4 ⟨rfl,i⟩;have f:=z9 (bel d.out i);clear i s;go_wp2_with fail;go_ret2;exact⟨_,rfl,BookNew.nil _ _,f.out.alloc f.out.size _⟩
 ·obtain⟨k,j⟩:=zx (withE l p);have g:Hid (writeE l p c=withE l p):=by unfold Hid writeE;rw[if_pos m]
  have n:Hid (writeL l p c=[]):=by unfold Hid writeL;rw[g.out,if_neg m]
  rw[aH m,<-j] at C;rw[g.out,n.out,aH m,<-j];clear m j g n h hs hp;go_in;go_wp2_with fail;refine C.mono ?_;rintro e w2 ⟨rfl,a⟩;have d:=z9 a;clear a C;go_wp2_with fail;go_ret2;exact⟨_,rfl,BookNew.nil _ _,d.out⟩
theorem gC(v:Value)(l:List Leaf)(p:ByteArray)(w:World)(h:BookAt w v l)(hs:∀x ∈ l,x.1.size<=maxLen)(hp:p.size<=maxLen):
  Calls prog 159 #[v,.string p] w fun e w'=>∃v',e=.returned (.tuple #[v',errV (strikeE l p)])/\BookNew w.heap.size w' v' (strikeL l p)/\zB w w':=by
 have C:=aAT h p hs hp;by_cases d:withE l p=0
 ·obtain⟨o,F⟩:=eU.1 d;have b:=dO o;rw[d,aD] at C;have q:Hid (∀w2,zB w w2->Calls prog 179 #[v,.string p] w2 fun e w'=>e=.returned (rK (Bm.leafAt l p))/\zB w2 w'):=fun w2 hb=>uQ (h.below hb) p b.2.1 b.1
  have f:=iV b.2.1 p;obtain⟨x,B⟩:=zx (Bm.leafAt l p);rw[<-B] at q f;obtain⟨a,j,J⟩:=x;simp only at f;subst f;have g:Hid (strikeE l a=putE l a):=by unfold Hid strikeE;rw[if_neg (by simpa using d)]
  have m:Hid (strikeL l a=putR l a (a,j,true)):=by unfold Hid strikeL putR stX;rw[g.out,<-B]
  have r:Hid (∀w2,zB w w2->Calls prog 180 #[v,.agg #[.string a,zI j,.bool true]] w2 fun e w'=>∃v',e=.returned (.tuple #[v',errV (putE l a)])/\BookNew w2.heap.size w' v' (putR l a (a,j,true))/\zB w2 w'):=fun w2 hb=>aDF v l a j true w2 (h.below hb) b.2.1 b.1
  rw[g.out,m.out];obtain⟨K,s⟩:=zx (errV (putE l a));rw[<-s] at r |-;clear d o F b g m h hs hp B s;go_in;go_wp2_with fail;refine C.mono ?_;rintro e w2 ⟨rfl,c⟩;have n:=z9 c;have D:=q.out w2 c;unfold rK at D;clear c C;go_wp2_with fail;refine D.mono ?_;rintro e w4 ⟨rfl,t⟩;have i:=z9 (bel n.out t);clear t D;have G:=r.out _ (i.out.alloc i.out.size (.cells #[.string a,zI j,.bool true] 77));have y:Hid (zB w (w4.alloc (.cells #[.string a,zI j,.bool true] 77))):=i.out.alloc i.out.size _;go_wp2_with fail;refine G.mono ?_;rintro e w6 ⟨L,rfl,z,A⟩;have H:=z9 (z.mono y.out.size);have I:=z9 (bel y.out A);clear z A G;go_wp2_with fail;go_ret2;exact⟨_,rfl,H.out,I.out⟩
 ·obtain⟨k,b⟩:=zx (withE l p);have g:Hid (strikeE l p=withE l p):=by unfold Hid strikeE;rw[if_pos d]
  have m:Hid (strikeL l p=[]):=by unfold Hid strikeL;rw[g.out,if_neg d]
  rw[aH d,<-b] at C;rw[g.out,m.out,aH d,<-b];clear d b g m h hs hp;go_in;go_wp2_with fail;refine C.mono ?_;rintro e w2 ⟨rfl,c⟩;have n:=z9 c;clear c C;go_wp2_with fail;go_ret2;exact⟨_,rfl,BookNew.nil _ _,n.out⟩
theorem aHY{s t:ByteArray}{n m:Int}{a b:Bool}:((s,n,a):Leaf)=(t,m,b)↔s.toList=t.toList/\n=m/\a=b:=by
 constructor
 ·intro h;injection h with c h2;injection h2 with h2 h3;exact⟨by rw[c],h2,h3⟩
 ·rintro⟨c,rfl,rfl⟩;rw[bytes_inj c]
theorem sV(s t:ByteArray)(n m:Int)(a b:Bool)(w:World):(binOp .neq 77 (.agg #[.string s,.int .i64 n,.bool a]) (.agg #[.string t,.int .i64 m,.bool b])).run prog w=.ok (.bool (!decide (((s,n,a):Leaf)=(t,m,b)))) w:=by
 have u3:=Tryz.underlying3;have i:=Tryz.isAgg3;have j:=Tryz.sizeOf3;have u4:=Tryz.underlying4;have k:=Tryz.isAgg4;have l:=Tryz.sizeOf4;have u9:=Tryz.underlying9;have o:=Tryz.isAgg9;have p:=Tryz.sizeOf9;have c:prog.underlying 77=some (.struct (prog.fieldsOf 77)):=by kernel_rfl
 have d:prog.stoodInHeld 77=false:=by kernel_rfl
 rw[run_neq_struct,show(10000:Nat)=9999+1 from rfl,run_equalIn_agg w 9999 77 _ _ c d];simp only[Program.fieldsOf,Tryz.underlying77]
 have e:decide (((s,n,a):Leaf)=(t,m,b))=(s.toList==t.toList&&(n==m&&a==b)):=by
  rw[xP];simp only[decide_eq_true_eq,aHY,qX,beq_iff_eq]
 rw[e];go_simp;by_cases f:s.toList=t.toList<;>by_cases g:n=m<;>by_cases h:a=b<;>simp[f,g,h]
theorem aEB(v u:Value)(a b:List Leaf)(w:World)(h1:BookAt w v a)(h2:BookAt w u b)(hn:a.length<=1048576):
  Calls prog 15 #[v,u] w fun e w'=>e=.returned (.bool (decide (a=b)))/\zB w w':=by
 obtain⟨p,c,rfl,t,_⟩:=h1;obtain⟨q,d,rfl,z,_⟩:=h2;obtain⟨n,A⟩:∃n,a.length=n:=⟨_,rfl⟩;obtain⟨m,E⟩:∃m,b.length=m:=⟨_,rfl⟩;rw[A,E];rw[A] at hn;by_cases hnm:n=m
 ·subst hnm;have r:=z9 A;have s:=z9 E;have Z:=z9 t;have HG:=z9 z;clear A E t z;go_in;go_wp2;go_loopw [5] (fun i wr=>∃k:Nat,k<=n/\i=zI k/\Hid (∀j,j<k->a.getD j none0=b.getD j none0)/\Hid (zB w wr)) (fun i _=>n-(intOf i).toNat)
  case atStart=>exact⟨0,by omega,rfl,fun j hj=>absurd hj (by omega),qD _ _⟩
  case round=>
   obtain⟨k,hk,rfl,O,g⟩:=hrel;by_cases o:k<n
   ·have ab:(k:Int)<n:=by omega
    obtain⟨b1,o1,rfl,K⟩:=Z.out.some (by intro e;have:=r.out;rw[e] at this;simp at this;omega);obtain⟨b2,o2,rfl,L⟩:=HG.out.some (by intro e;have:=s.out;rw[e] at this;simp at this;omega);have P:=(K k (by rw[r.out];exact o)).below g.out (K k (by rw[r.out];exact o)).lt;have Q:=(L k (by rw[s.out];exact o)).below g.out (L k (by rw[s.out];exact o)).lt;obtain⟨x,M⟩:=zx (a.getD k none0);obtain⟨y,N⟩:=zx (b.getD k none0);rw[<-M] at P;rw[<-N] at Q;have R:=z9 M;have S:=z9 N;clear M N K L;obtain⟨F,G,H⟩:=x;obtain⟨I,J,by'⟩:=y;obtain⟨x1,x2,x3⟩:=P;obtain⟨y1,y2,y3⟩:=Q;simp only at x1 x2 x3 y1 y2 y3;have T:∀w,(binOp .neq 77 (.agg #[.string F,zI G,.bool H]) (.agg #[.string I,zI J,.bool by'])).run prog w=.ok (.bool (!decide (((F,G,H):Leaf)=(I,J,by')))) w:=fun w=>sV F I G J H by' w
    have hg:prog.eqGuardType prog.depth 77=false:=by kernel_rfl
    by_cases f:((F,G,H):Leaf)=(I,J,by')
    ·rw[decide_eq_true f] at T;have U:=z9 f;clear f;go_wp2;go_quiet (fail)
     go_wp2;go_roundw
     case rel=>exact⟨k+1,by omega,by go_num,fun j hj=>by
      rcases jS.1 hj with h | rfl
      ·exact O.out j h
      ·rw[<-R.out,<-S.out];exact U.out,aC g.out _⟩
     case measure=>simp[intOf];omega
    ·rw[decide_eq_false f] at T
     have V:Hid (decide (a=b)=false):=by
      rw[Hid,decide_eq_false_iff_not];intro e;apply f;rw[R.out,S.out,e]
     clear f;go_wp2;go_quiet (fail)
     go_wp2;go_ret;exact⟨by rw[V.out];rfl,aC g.out _⟩
   ·obtain rfl:k=n:=by omega
    have X:Hid (decide (a=b)=true):=by
     rw[Hid,decide_eq_true_eq];apply yE;intro i;by_cases B:i<k
     ·have:=O.out i B;rw[qA,qA,qB (by rw[r.out];exact B),qB (by rw[s.out];exact B)] at this;rw[qB (by rw[r.out];exact B),qB (by rw[s.out];exact B)];simpa using this
     ·rw[jP (by rw[r.out];omega),jP (by rw[s.out];omega)]
    go_wp2;go_ret;exact⟨by rw[X.out];rfl,g.out⟩
 ·have hnm':((n:Int)==(m:Int))=false:=by simp;omega
  have HE:Hid (decide (a=b)=false):=by
   rw[Hid,decide_eq_false_iff_not];rintro rfl;omega
  clear A E t z;go_in;go_wp2;go_ret;exact⟨by rw[HE.out];rfl,qD _ _⟩
end Lk
end Go.Proofs.YtjcemlmlfoilmaaGreatDoor
