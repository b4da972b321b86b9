import Derived.Test.YtjcemlmlfoilmaaGreatDoorH2
set_option linter.unusedSimpArgs false
set_option linter.unusedVariables false
set_option maxRecDepth 100000
set_option maxHeartbeats 8000000
namespace Go.Proofs.YtjcemlmlfoilmaaGreatDoor
open Go.RowKit Cm
open Go.Proofs.Tryz (prog)
namespace Hy
section
open Bm La Lj Lk
theorem aGy(v u:Value)(a b:List Leaf)(w:World)(h1:BookAt w v a)(h2:BookAt w u b)(hn:a.length<=1048576):
  Calls prog 32 #[v,u] w fun e w'=>e=.returned (.bool (decide (a=b)))/\zB w w':=by
 obtain⟨p,c,rfl,z,_⟩:=h1;obtain⟨q,d,rfl,A,_⟩:=h2;obtain⟨n,B⟩:∃n,a.length=n:=⟨_,rfl⟩;obtain⟨m,E⟩:∃m,b.length=m:=⟨_,rfl⟩;rw[B,E];rw[B] at hn;by_cases hnm:n=m
 ·subst hnm;have r:=z9 B;have s:=z9 E;have Z:=z9 z;have HG:=z9 A;clear B E z A;go_in;go_wp2;go_loopw [5,13] (fun _ i wr=>∃k:Nat,k<=n/\i=zI k/\Hid (∀j,j<k->a.getD j none0=b.getD j none0)/\Hid (zB w wr)) (fun _ i _=>n-(intOf i).toNat)
  case atStart=>exact⟨0,by omega,rfl,fun j hj=>absurd hj (by omega),qD _ _⟩
  case round=>
   obtain⟨k,hk,rfl,O,g⟩:=hrel;by_cases o:k<n
   ·have ab:(k:Int)<n:=by omega
    obtain⟨b1,o1,rfl,K⟩:=Z.out.some (by intro e;have:=r.out;rw[e] at this;simp at this;omega);obtain⟨b2,o2,rfl,L⟩:=HG.out.some (by intro e;have:=s.out;rw[e] at this;simp at this;omega);have P:=(K k (by rw[r.out];exact o)).below g.out (K k (by rw[r.out];exact o)).lt;have Q:=(L k (by rw[s.out];exact o)).below g.out (L k (by rw[s.out];exact o)).lt;obtain⟨x,M⟩:=zx (a.getD k none0);obtain⟨y,N⟩:=zx (b.getD k none0);rw[<-M] at P;rw[<-N] at Q;have R:=z9 M;have S:=z9 N;clear M N K L;obtain⟨F,G,H⟩:=x;obtain⟨I,J,by'⟩:=y;obtain⟨x1,x2,x3⟩:=P;obtain⟨y1,y2,y3⟩:=Q;simp only at x1 x2 x3 y1 y2 y3;have T:∀w,(binOp .neq 77 (.agg #[.string F,zI G,.bool H]) (.agg #[.string I,zI J,.bool by'])).run prog w=.ok (.bool (!decide (((F,G,H):Leaf)=(I,J,by')))) w:=fun w=>sV F I G J H by' w
    have hg:prog.eqGuardType prog.depth 77=false:=by kernel_rfl
    by_cases f:((F,G,H):Leaf)=(I,J,by')
    ·rw[decide_eq_true f] at T;have U:=z9 f;clear f;go_wp2;go_quiet (fail)
     go_wp2;go_roundw
     case rel=>exact⟨k+1,by omega,by go_num,fun j hj=>by
      rcases jS.1 hj with h | rfl
      ·exact O.out j h
      ·rw[<-R.out,<-S.out];exact U.out,aC g.out _⟩
     case measure=>simp[intOf];omega
    ·rw[decide_eq_false f] at T
     have V:Hid (decide (a=b)=false):=by
      rw[Hid,decide_eq_false_iff_not];intro e;apply f;rw[R.out,S.out,e]
     clear f;go_wp2;go_quiet (fail)
     go_wp2;go_ret;exact⟨by rw[V.out];rfl,aC g.out _⟩
   ·obtain rfl:k=n:=by omega
    have X:Hid (decide (a=b)=true):=by
     rw[Hid,decide_eq_true_eq];apply yE;intro i;by_cases C:i<k
     ·have:=O.out i C;rw[qA,qA,qB (by rw[r.out];exact C),qB (by rw[s.out];exact C)] at this;rw[qB (by rw[r.out];exact C),qB (by rw[s.out];exact C)];simpa using this
     ·rw[jP (by rw[r.out];omega),jP (by rw[s.out];omega)]
    go_wp2;go_ret;exact⟨by rw[X.out];rfl,g.out⟩
 ·have hnm':((n:Int)==(m:Int))=false:=by simp;omega
  have HE:Hid (decide (a=b)=false):=by
   rw[Hid,decide_eq_false_iff_not];rintro rfl;omega
  clear B E z A;go_in;go_wp2;go_ret;exact⟨by rw[HE.out];rfl,qD _ _⟩
end
section
open Na Np
open La (aC)
theorem aFJ(v u:Value)(a b:List Mk)(w:World)(h1:MksAt w v a)(h2:MksAt w u b)(hn:a.length<=1048576):
  Calls prog 33 #[v,u] w fun e w'=>e=.returned (.bool (decide (a=b)))/\zB w w':=by
 obtain⟨p,c,rfl,z,_⟩:=h1;obtain⟨q,d,rfl,A,_⟩:=h2;obtain⟨n,B⟩:∃n,a.length=n:=⟨_,rfl⟩;obtain⟨m,E⟩:∃m,b.length=m:=⟨_,rfl⟩;rw[B,E];rw[B] at hn;by_cases hnm:n=m
 ·subst hnm;have r:=z9 B;have s:=z9 E;have Z:=z9 z;have HG:=z9 A;clear B E z A;go_in;go_wp2;go_loopw [5,13] (fun _ i wr=>∃k:Nat,k<=n/\i=zI k/\Hid (∀j,j<k->a.getD j none1=b.getD j none1)/\Hid (zB w wr)) (fun _ i _=>n-(intOf i).toNat)
  case atStart=>exact⟨0,by omega,rfl,fun j hj=>absurd hj (by omega),qD _ _⟩
  case round=>
   obtain⟨k,hk,rfl,O,g⟩:=hrel;by_cases o:k<n
   ·have ab:(k:Int)<n:=by omega
    obtain⟨b1,o1,rfl,K⟩:=Z.out.some (by intro e;have:=r.out;rw[e] at this;simp at this;omega);obtain⟨b2,o2,rfl,L⟩:=HG.out.some (by intro e;have:=s.out;rw[e] at this;simp at this;omega);have P:=(K k (by rw[r.out];exact o)).below g.out (K k (by rw[r.out];exact o)).lt;have Q:=(L k (by rw[s.out];exact o)).below g.out (L k (by rw[s.out];exact o)).lt;obtain⟨x,M⟩:=zx (a.getD k none1);obtain⟨y,N⟩:=zx (b.getD k none1);rw[<-M] at P;rw[<-N] at Q;have R:=z9 M;have S:=z9 N;clear M N K L;obtain⟨F,G,H⟩:=x;obtain⟨I,J,by'⟩:=y;obtain⟨x1,x2,x3⟩:=P;obtain⟨y1,y2,y3⟩:=Q;simp only at x1 x2 x3 y1 y2 y3;have T:∀w,(binOp .neq 82 (.agg #[.string F,zI G,zI H]) (.agg #[.string I,zI J,zI by'])).run prog w=.ok (.bool (!decide (((F,(G,H)):Mk)=(I,(J,by'))))) w:=fun w=>aBh F I G J H by' w
    have hg:prog.eqGuardType prog.depth 82=false:=by kernel_rfl
    by_cases f:((F,(G,H)):Mk)=(I,(J,by'))
    ·rw[decide_eq_true f] at T;have U:=z9 f;clear f;go_wp2;go_quiet (fail)
     go_wp2;go_roundw
     case rel=>exact⟨k+1,by omega,by go_num,fun j hj=>by
      rcases jS.1 hj with h | rfl
      ·exact O.out j h
      ·rw[<-R.out,<-S.out];exact U.out,aC g.out _⟩
     case measure=>simp[intOf];omega
    ·rw[decide_eq_false f] at T
     have V:Hid (decide (a=b)=false):=by
      rw[Hid,decide_eq_false_iff_not];intro e;apply f;rw[R.out,S.out,e]
     clear f;go_wp2;go_quiet (fail)
     go_wp2;go_ret;exact⟨by rw[V.out];rfl,aC g.out _⟩
   ·obtain rfl:k=n:=by omega
    have X:Hid (decide (a=b)=true):=by
     rw[Hid,decide_eq_true_eq];apply yE;intro i;by_cases C:i<k
     ·have:=O.out i C;rw[qA,qA,qB (by rw[r.out];exact C),qB (by rw[s.out];exact C)] at this;rw[qB (by rw[r.out];exact C),qB (by rw[s.out];exact C)];simpa using this
     ·rw[jP (by rw[r.out];omega),jP (by rw[s.out];omega)]
    go_wp2;go_ret;exact⟨by rw[X.out];rfl,g.out⟩
 ·have hnm':((n:Int)==(m:Int))=false:=by simp;omega
  have HE:Hid (decide (a=b)=false):=by
   rw[Hid,decide_eq_false_iff_not];rintro rfl;omega
  clear B E z A;go_in;go_wp2;go_ret;exact⟨by rw[HE.out];rfl,qD _ _⟩
end
end Hy
namespace Hz
open Ka Oz Oi Hm Ia Ic Hc Hd Hi Hl
open La (bel aC aH)
theorem tD:(prog.info? 43).map (fun i=>(i.zero,i.size,i.bytes))=some (some (.pointer none),1,8):=by kernel_rfl
variable {ops:Array Oper}{o:Oper}{a:Act}{W:World}{K:Act->World->Prop}{Q:Exit->Act->World->Prop}(k:Nat)
theorem aE7{C:Prop}(hgd:o.guard=none)(sO xO:Operand)(ho:o.op=.call { callee:=.builtin .append,args:=#[sO,xO],argTypes:=#[60,60] })(v:Value)(n:Nat)(E:Nat->Nat)(D:Nat)(hs:a.eval sO=v)(h0:Nat)(hx:a.eval xO=.slice (some ⟨h0,0,none⟩) 1 1)(hlen:n+1<=1048576)(hown:RowE W v n E)(hc0:W.heap[h0]? =some (.cells #[ptr D] 43))(h:∀v' w',RowE w' v' (n+1) (upd E n D)->W.grownBy w' v.ownBlock->(v'.ownBlock=v.ownBlock\/v'.ownBlock=some W.heap.size)->K (a.put o.dst v') w'):
  if Region.wanted o (yielded ops a.tmps)=true then Oper.wp prog o a W K Q else C:=by
 have e:Region.wanted o (yielded ops a.tmps)=true:=by simp[Region.wanted,hgd]
 rw[if_pos e];obtain⟨f,g,b,c,d⟩:=info_parts tD
 obtain⟨v',w',k,l,m,_,p⟩:=run_append_own_at (P:=prog) W 0 60 o.type 43 f (.pointer none) 1 8 Tryz.underlying60 g b c d rfl (by decide) v n (ptrs n E) hown (zA h0) 1 1 [ptr D] rfl (by
  intro j u hu;rw[jU,qY];rcases j with _ | j
  ·rw[aB hc0 (i:=0) rfl];exact hu
  ·simp at hu) (by intro u hu;rw[qP.1 hu];rfl) (by unfold maxLen;omega) (by omega) (jW _)
 unfold Oper.wp execOp;simp only[ho,resolve,invoke,builtin,jZ,vB,vU,xN,jY,vM,hs,hx,k];refine h v' w' ?_ m p;unfold RowE;rw[pP];exact l
theorem aCc{E:Prop}{R:Value->World->Prop}(hgd:o.guard=none)(F:FuncId)(ho:o.op=.call { callee:=.value (.func F),args:=#[],argTypes:=#[] })(hcf:∀args W,(callFunc F args).run prog W=.ok (.enter F args) W)(hC:Calls prog F #[] W fun e w'=>∃v,e=.returned v/\R v w')(h:∀v w',R v w'->K (a.put o.dst v) w'):
  if Region.wanted o (yielded ops a.tmps)=true then Oper.wp prog o a W K Q else E:=by
 have b:Region.wanted o (yielded ops a.tmps)=true:=by simp[Region.wanted,hgd]
 rw[if_pos b]
 have c:(execOp a.eval o).run prog W=.ok (.enter F #[]) W:=by
  have d:a.eval (.func F)=.func (.func F) #[] #[]:=rfl;unfold execOp;simp only[ho,resolve,invoke,xN,vM,d];exact hcf _ _
 unfold Oper.wp;rw[c,Oper.upon_enter];refine hC.mono ?_;rintro e w' ⟨v,rfl,f⟩;exact h v w' f
theorem aIN(n:Int)(w:World)(h:n<1\/4<n):Calls prog 4 #[.int .i64 n] w fun e w'=>e=.returned (.tuple #[.pointer none,errV 1])/\zB w w':=by
 rw[aH (by decide)];by_cases a:n<1
 ·clear h;go_in;go_wp2_with fail;go_ret2;exact⟨rfl,qD _ _⟩
 ·have b:4<n:=by omega
  clear h;go_in;go_wp2_with fail;go_ret2;exact⟨rfl,qD _ _⟩
theorem nw_len:(nw k).ds.length=k:=by unfold nw;simp
theorem aDH:({ nw k with ds:=(nw k).ds++[d0] }:Nt)=nw (k+1):=by
 unfold nw;rw[List.replicate_succ']
def Mk (w:World) (X k:Nat) (wr:World):Prop:=∃vd E Fd,NAt wr X vd (.slice none 0 0) (nw k) E Fd∧(∀g,Fs X vd (.slice none 0 0) k Fd g→w.heap.size≤g)∧Below w.heap.size w wr
theorem xI{w wr w2 w9:World}{X k c D:Nat}{p:Option Addr}{E:Nat->Nat}{Fd:Nat->Nat->Prop}{G:Nat->Prop}{v9:Value}(m:NAt wr X (.slice p k c) (.slice none 0 0) (nw k) E Fd)(hfs:∀g,Fs X (.slice p k c) (.slice none 0 0) k Fd g->w.heap.size<=g)(hbw:zB w wr)(hk:k+1<=4)(hb2:zB wr w2)(hd:DocAt w2 D d0 G)(hG:∀g,G g->wr.heap.size<=g)(hbW:zB w2 W)(hr:RowE w9 v9 (k+1) (upd E k D))(hg:W.grownBy w9 (Value.slice p k c).ownBlock)(hl:v9.ownBlock=(Value.slice p k c).ownBlock\/v9.ownBlock=some W.heap.size):
  w9.cell? ⟨X,0,none⟩=some (.slice p k c)/\w9.frozen? ⟨X,0,none⟩=false/\Mk w X (k+1) (w9.setCell ⟨X,0,none⟩ v9):=by
 have b:=bel hb2 hbW;have h:=m.below b;have d:=(hg.block X h.oM (fun e=>h.dX X e.symm rfl)).trans h.blk;have l:=Chg.grown hg fun g e=>e
 have n:=m.push (N:=nw k) b (hd.below hbW) hG l (by rw[nw_len];exact hr) (fun g e=>by
  rcases hl with e2 | e2
  ·left;rw[<-e2];exact e
  ·right;rw[e] at e2;injection e2 with e2;omega) (by rw[nw_len];exact hk)
 rw[aDH,nw_len] at n;have o:=hfs X (qH rfl)
 have j:∀g,v9.ownBlock=some g->w.heap.size<=g:=fun g e=>by
  rcases hl with e2 | e2
  ·exact hfs g (qF (qH (by rw[<-e2];exact e)))
  ·rw[e] at e2;injection e2 with e2;have:=(bel hbw b).size;omega
 refine⟨aB d (i:=0) rfl,aF d (i:=0),v9,_,_,n, ?_, ?_⟩
 ·rintro g (e | e | e | ⟨i,q,e⟩)
  ·rw[e];exact o
  ·exact j g e
  ·cases e
  ·by_cases f:i=k
   ·subst f;rw[bU] at e;have:=hG g e;have:=hbw.size;omega
   ·rw[bL _ _ f] at e;exact hfs g (qF (qF (qF ⟨i,by omega,e⟩)))
 ·exact(l.below (fun g e=>hfs g (qF (qH e))) (bel hbw b) (bel hbw b).size).setCell (p:=(zA X)) o _
theorem aHW(n:Nat)(w:World)(h1:1<=n)(h4:n<=4):Calls prog 4 #[.int .i64 n] w fun e w'=>∃X F,e=.returned (.tuple #[ptr X,.nilIface])/\At w' X (nw n) F/\(∀g,F g->w.heap.size<=g)/\zB w w':=by
 have z1:¬(n:Int)<1:=by omega
 have z4:¬(4:Int)<(n:Int):=by omega
 have I:∀args W,(callFunc 19 args).run prog W=.ok (.enter 19 args) W:=fun _ _=>by kernel_rfl
 go_in
 go_wp2_with fail
 go_loopw [15] (fun i wr=>∃k:Nat,k<=n/\i=zI k/\Hid (Mk w w.heap.size k wr)) (fun i _=>n-(intOf i).toNat)
 case atStart=>
  refine⟨0,by omega,rfl,zS,fun _=>0,fun _ _=>False,⟨heap_alloc_new w _,⟨rfl,qH ⟨rfl,rfl⟩⟩,⟨rfl,qH ⟨rfl,rfl⟩⟩,Rowd.none _ _ _ _ _,fun ⟨i,y,_⟩=>absurd y (Nat.not_lt_zero i),fun g hg=>by(cases hg),fun g hg=>by(cases hg),by rw[nw_len];omega,fun p hp=>by(cases hp)⟩, ?_,(qD _ w).alloc (qC _) _⟩
  rintro g (e | e | e | ⟨i,y,_⟩)
  ·omega
  ·cases e
  ·cases e
  ·exact absurd y (Nat.not_lt_zero i)
 case round=>
  obtain⟨k,hk,rfl,z⟩:=hrel
  by_cases Y:k<n
  ·have A:(k:Int)<n:=by omega
   obtain⟨K,E,L,m,f,h⟩:=z.out
   obtain⟨p,c,rfl,_⟩:=m.fC
   rw[nw_len] at m f
   have M:=Hid.mk' m
   have N:=Hid.mk' f
   have P:=Hid.mk' h
   have T:=aB m.blk (i:=0) (u:=.slice p k c) rfl
   have U:Hid (∀W,Calls prog 19 #[] W fun e w'=>∃v,e=.returned v/\∃D F,v=ptr D/\DocAt w' D d0 F/\(∀g,F g->W.heap.size<=g)/\zB W w'):=fun W=>(Il.aHZ W).mono fun e w' ⟨D,F,h1,h2,h3,h4⟩=>⟨_,h1,D,F,rfl,h2,h3,h4⟩
   have H:=Hid.mk' (qD wr.heap.size wr)
   have l:Hid (∀W,zB wr W->RowE W (.slice p k c) k E):=fun W hb=>by have:=(M.out.below hb).rd;rw[nw_len] at this;exact this
   have Q:k+1<=4:=by omega
   clear m f h z
   go_wp2_with fail
   go_region_law (first
    | (refine aCc (by rfl) 19 (by rfl) I (U.out _) ?_;rintro v2 w2 ⟨D,G,rfl,q,r,j⟩;have b:Hid (zB wr w2):=(by first | exact bel H.out j | exact bel H.out.drew j | exact bel H.out.drew.drew j);have s:Hid (DocAt w2 D d0 G/\∀g,G g->wr.heap.size<=g):=⟨q,fun g hg=>r g hg⟩;have V:=aA b.out T;have x3:∀O,(w2.alloc O).cell? (zW w)=some (.slice p k c):=fun O=>aA ((qD _ w2).alloc (qC _) O) V;clear q r j)
    | (refine aE7 (by rfl) (.tmp 21) (.tmp 23) (by rfl) (.slice p k c) k E D (by rfl) w2.heap.size (by rfl) (by omega) (by first | exact(l.out _ (b.out.alloc b.out.size _)) | exact(l.out _ (b.out.alloc b.out.size _).drew) | exact(l.out _ (b.out.alloc b.out.size _).drew.drew)) (heap_alloc_new w2 _) ?_;intro v9 w9 hr9 hg9 hl9;obtain⟨p9,n9,c9,rfl,_⟩:=aG hr9;obtain⟨q9,aa,t⟩:=xI M.out N.out P.out Q b.out s.out.1 s.out.2 (by first | exact(qD _ w2).alloc (qC _) _ | exact((qD _ w2).alloc (qC _) _).drew | exact((qD _ w2).alloc (qC _) _).drew.drew) hr9 hg9 hl9;have o:=Hid.mk' t;clear hr9 hg9 hl9 t))
   all_goals
    go_wp2_with fail
    go_roundw
    case rel=>exact⟨k+1,by omega,by go_num,by first | exact o.out | exact o.out.below (qD _ _).drew | exact o.out.below (aC (qD _ _) _)⟩
    case measure=>simp[intOf];omega
  ·obtain rfl:k=n:=by omega
   have A:¬(k:Int)<k:=by omega
   go_wp2_with fail
   go_ret2
   obtain⟨K,E,L,m,f,h⟩:=z.out
   exact⟨w.heap.size,rfl,Fs w.heap.size K (zS) (nw k).ds.length L,⟨_,_,_,_,m,fun g=>Iff.rfl⟩,by rw[nw_len];exact f,h⟩
end Hz
end Go.Proofs.YtjcemlmlfoilmaaGreatDoor
