import Derived.Test.YtjcemlmlfoilmaaGreatDoorJ10
import Derived.Deep.RegionLaw
set_option linter.unusedVariables false
set_option maxRecDepth 100000
set_option maxHeartbeats 8000000
namespace Go.Proofs.YtjcemlmlfoilmaaGreatDoor
open Cm Ia
open Go.Proofs.Tryz (prog)
namespace If
open Go.RowKit Na Oi Ic Ie
theorem aD1{w:World}{b o:Nat}{s:List Dt}(h:∀j,j<s.length->DAt w b o j (s.getD j noneD)):∀i u,(flatD s)[i]? =some u->w.cell? ⟨b,o+i,none⟩=some u:=by
 intro i u hu;have f:=(jK.1 hu).1;rw[eE] at f;obtain⟨q,r,t,e⟩:∃q r,r<2/\i=q*2+r:=⟨i/2,i%2,by omega,by omega⟩;have c:q<s.length:=by omega
 obtain⟨k,l⟩:=sL c;obtain⟨m,n⟩:=h q c;have p:r=0\/r=1:=by omega
 rcases p with rfl | rfl
 ·rw[vL] at e;subst e;rw[k] at hu;injection hu with hu;rw[<-hu];exact m
 ·subst e;rw[l] at hu;injection hu with hu;rw[<-hu,<-Nat.add_assoc];exact n
theorem aDG{W:World}{g:Nat}{x0 x1 x2 x4:Int}{x3:ByteArray}{x5:Value}(h:W.heap[g]? =some (.cells #[.int .i64 x0,.int .i64 x1,.int .i64 x2,.string x3,.int .i64 x4,x5] 97)):
  (loadVar 97 ⟨g,0,none⟩).run prog W=.ok (.agg #[.int .i64 x0,.int .i64 x1,.int .i64 x2,.string x3,.int .i64 x4,x5]) W:=by
 have a:=aB h (i:=0) (u:=zI x0) rfl;have b:=aB h (i:=1) (u:=zI x1) rfl;have c:=aB h (i:=2) (u:=zI x2) rfl;have d:=aB h (i:=3) (u:=.string x3) rfl;have e:=aB h (i:=4) (u:=zI x4) rfl;have f:=aB h (i:=5) (u:=x5) rfl;have u1:=Tryz.isAgg97;have u2:=Tryz.sizeOf97;go_simp
def opW (w:World) (a b t:Int) (p:ByteArray) (c:Int) (vs:Value):World:=(w.alloc (.cells #[.int .i64 a,.int .i64 b,.int .i64 t,.string p,.int .i64 c,vs] 97)).alloc (.cells #[.int .i64 0,.int .i64 0,.int .i64 0,.string ⟨#[]⟩,.int .i64 0,.slice none 0 0] 97)
variable (a b t:Int)(p:ByteArray)(w:World)(c:Int)(vs:Value)(s:List Dt)
theorem vX(a b t:Int)(p:ByteArray)(c:Int)(vs:Value):(opW w a b t p c vs).heap[w.heap.size]? =some (.cells #[.int .i64 a,.int .i64 b,.int .i64 t,.string p,.int .i64 c,vs] 97)/\(opW w a b t p c vs).heap[w.heap.size+1]? =some (.cells #[.int .i64 0,.int .i64 0,.int .i64 0,.string ⟨#[]⟩,.int .i64 0,.slice none 0 0] 97)/\zB w (opW w a b t p c vs)/\(opW w a b t p c vs).heap.size=w.heap.size+2:=by
 unfold opW;refine⟨?_, ?_,(zb w _).alloc (by simp) _,by simp⟩
 ·have:=heap_alloc_old (w.alloc (.cells #[zI a,zI b,zI t,.string p,zI c,vs] 97)) (.cells #[zI 0,zI 0,zI 0,.string ⟨#[]⟩,zI 0,zS] 97) (show w.heap.size<_ by simp);exact this.trans (heap_alloc_new w _)
 ·have:=heap_alloc_new (w.alloc (.cells #[zI a,zI b,zI t,.string p,zI c,vs] 97)) (.cells #[zI 0,zI 0,zI 0,.string ⟨#[]⟩,zI 0,zS] 97);rwa [show(w.alloc (.cells #[zI a,zI b,zI t,.string p,zI c,vs] 97)).heap.size=w.heap.size+1 by simp] at this
theorem aEb(ad:Addr)(n cc:Nat)(s:List Dt)(w:World)(h:DtsAt w (.slice (some ad) n cc) s)(hs:s.length<=1048576):
  Calls prog 39 #[.agg #[.int .i64 a,.int .i64 b,.int .i64 t,.string p,.int .i64 c,.slice (some ad) n cc]] w fun e w'=>∃v',e=.returned (.agg #[.int .i64 a,.int .i64 b,.int .i64 t,.string p,.int .i64 c,v'])/\w'.ownsRow w.heap.size 80 2 v' s.length (flatD s)/\zB w w':=by
 obtain⟨i0,hi,M,N,O⟩:=info_parts Oi.tD;obtain⟨P,Q,K,R⟩:=vX w a b t p c (.slice (some ad) n cc);have hd:=h.below K;obtain⟨q,S,hv,D,T,U,V⟩:=hd;injection hv with e1 e2 e3
 subst e1 e3;have L:s.length=n:=e2.symm
 have B:Hid (∀j u,(flatD s)[j]? =some u->(opW w a b t p c (.slice (some ad) n cc)).cell? (ad.add j)=some u):=by
  intro j u hu;rcases D with e0 | ⟨bb,oo,hp,hcs⟩
  ·rw[e0] at hu;simp[flatD] at hu
  ·injection hp with hp
   have ha:ad.add j=⟨bb,oo+j,none⟩:=by rw[hp,jU]
   rw[ha];exact aD1 hcs j u hu
 have HN:=z9 L;have X:Hid ((flatD s).length=n*2):=by unfold Hid;rw[eE,L]
 have a1:n<=1048576:=by omega
 have C:=z9 K;have z:Hid ((opW w a b t p c (.slice (some ad) n cc)).heap[w.heap.size]? =some (.cells #[zI a,zI b,zI t,.string p,zI c,(.slice (some ad) n cc)] 97)/\(opW w a b t p c (.slice (some ad) n cc)).heap[w.heap.size+1]? =some (.cells #[zI 0,zI 0,zI 0,.string ⟨#[]⟩,zI 0,zS] 97)):=⟨P,Q⟩;have r:=z9 R;clear P Q K R D T U V e2 h hs L;unfold opW at B C z r;go_in;go_wp2_with (at_builtin;refine wpList_append_own_at _ rfl (.const (zS)) (.tmp 4) 95 rfl w.heap.size 80 i0 (.agg #[zI 0,zI 0]) 2 16 Tryz.underlying95 hi M N O rfl (by decide) (zS) 0 [] rfl (jT _ _ _ _) ad n cc (flatD s) rfl X.out B.out (lM s) (by unfold maxLen;omega) (by omega) C.out.size ?_;intro v9 w9 hown9 hgrow9 _ hat9;have E:Hid (w9.ownsRow w.heap.size 80 2 v9 n (flatD s)):=(by have:=hown9;rw[qY,vC] at this;exact this);obtain⟨l,m,o,rfl,_⟩:=aG hown9;have y:=(hgrow9.block w.heap.size (by rw[r.out];omega) (by intro e;cases e)).trans z.out.1;have f:=(hgrow9.block (w.heap.size+1) (by rw[r.out];omega) (by intro e;cases e)).trans z.out.2;have F:=z9 (C.out.grown hgrow9 C.out.size (by intro j hj;cases hj));have G:Hid (∀k,(Value.slice l m o).ownBlock=some k->k≠w.heap.size/\k≠w.heap.size+1):=(by intro k hk;rcases hat9 with e9 | e9;(rw[hk] at e9;cases e9);(rw[hk,r.out] at e9;injection e9 with e9;omega));have c0:=aB y (i:=0) rfl;have c1:=aB y (i:=1) rfl;have S:=aB y (i:=2) rfl;have c3:=aB y (i:=3) rfl;have c4:=aB y (i:=4) rfl;have c5:=aB y (i:=5) rfl;have z0:=aB f (i:=0) rfl;have z1:=aB f (i:=1) rfl;have z2:=aB f (i:=2) rfl;have z3:=aB f (i:=3) rfl;have z4:=aB f (i:=4) rfl;have z5:=aB f (i:=5) rfl;have f5:=aF y (i:=5);have y0:=aF f (i:=0);have y1:=aF f (i:=1);have y2:=aF f (i:=2);have y3:=aF f (i:=3);have y4:=aF f (i:=4);have y5:=aF f (i:=5);have H:=z9 f;clear hown9 hgrow9 hat9 y f);(try simp only[Exit.inBlock,Exit.then])
 have Y:Hid ((((((((w9.setCell ⟨w.heap.size,5,none⟩ (.slice l m o)).setCell (zV w) (zI a)).setCell ⟨w.heap.size+1,1,none⟩ (zI b)).setCell ⟨w.heap.size+1,2,none⟩ (zI t)).setCell ⟨w.heap.size+1,3,none⟩ (.string p)).setCell ⟨w.heap.size+1,4,none⟩ (zI c)).setCell ⟨w.heap.size+1,5,none⟩ (.slice l m o)).heap[w.heap.size+1]? =some (.cells #[zI a,zI b,zI t,.string p,zI c,.slice l m o] 97)):=by
  unfold Hid;rw[set_heap (set_heap (set_heap (set_heap (set_heap (set_heap ((set_block _ _ _ _ (by simp)).trans H.out))))))];rfl
 have I:Hid (zB w (((((((w9.setCell ⟨w.heap.size,5,none⟩ (.slice l m o)).setCell (zV w) (zI a)).setCell ⟨w.heap.size+1,1,none⟩ (zI b)).setCell ⟨w.heap.size+1,2,none⟩ (zI t)).setCell ⟨w.heap.size+1,3,none⟩ (.string p)).setCell ⟨w.heap.size+1,4,none⟩ (zI c)).setCell ⟨w.heap.size+1,5,none⟩ (.slice l m o))):=
  ((((((F.out.setCell (p:=⟨w.heap.size,5,none⟩) (by simp) _).setCell (p:=(zV w)) (by simp) _).setCell (p:=⟨w.heap.size+1,1,none⟩) (by simp) _).setCell (p:=⟨w.heap.size+1,2,none⟩) (by simp) _).setCell (p:=⟨w.heap.size+1,3,none⟩) (by simp) _).setCell (p:=⟨w.heap.size+1,4,none⟩) (by simp) _).setCell (p:=⟨w.heap.size+1,5,none⟩) (by simp) _
 have J:Hid ((((((((w9.setCell ⟨w.heap.size,5,none⟩ (.slice l m o)).setCell (zV w) (zI a)).setCell ⟨w.heap.size+1,1,none⟩ (zI b)).setCell ⟨w.heap.size+1,2,none⟩ (zI t)).setCell ⟨w.heap.size+1,3,none⟩ (.string p)).setCell ⟨w.heap.size+1,4,none⟩ (zI c)).setCell ⟨w.heap.size+1,5,none⟩ (.slice l m o)).ownsRow w.heap.size 80 2 (.slice l m o) s.length (flatD s)):=by
  unfold Hid;rw[HN.out];refine aP E.out fun g hg=> ?_
  obtain⟨x1,A⟩:=G.out g hg;rw[set_block _ _ _ _ (by simpa using A),set_block _ _ _ _ (by simpa using A),set_block _ _ _ _ (by simpa using A),set_block _ _ _ _ (by simpa using A),set_block _ _ _ _ (by simpa using A),set_block _ _ _ _ (by simpa using A),set_block _ _ _ _ (by simpa using x1)]
 generalize Z:((((((w9.setCell ⟨w.heap.size,5,none⟩ (.slice l m o)).setCell (zV w) (zI a)).setCell ⟨w.heap.size+1,1,none⟩ (zI b)).setCell ⟨w.heap.size+1,2,none⟩ (zI t)).setCell ⟨w.heap.size+1,3,none⟩ (.string p)).setCell ⟨w.heap.size+1,4,none⟩ (zI c)).setCell ⟨w.heap.size+1,5,none⟩ (.slice l m o)=W at Y I J |-;clear Z c0 c1 S c3 c4 c5 z0 z1 z2 z3 z4 z5 f5 y0 y1 y2 y3 y4 y5 B C z r E F G H;refine bodyPost_ret (v:=.agg #[zI a,zI b,zI t,.string p,zI c,.slice l m o]) ?_ rfl ?_
 ·simp[results];rw[show(asAddr (Value.pointer (some (zV w)))).run prog W=.ok (zV w) W from rfl];exact aDG Y.out
 ·exact⟨_,rfl,J.out,I.out⟩
theorem aAM(ty:TypeId)(w:World):(Builtin.append_ #[95,95] ty #[.slice none 0 0,.slice none 0 0]).run prog w=.ok (.slice none 0 0) w:=by kernel_rfl
theorem mR{ops:Array Oper}{rest:List Oper}{o:Oper}{a:Act}{Q:Exit->Act->World->Prop}(hg:o.guard=none)(x y:Operand)(hop:o.op=.call { callee:=.builtin .append,args:=#[x,y],argTypes:=#[95,95] })(hx:a.eval x=.slice none 0 0)(hy:a.eval y=.slice none 0 0)(hK:∀w',w'=w->wpList prog ops Q rest (a.put o.dst (.slice none 0 0)) w'):wpList prog ops Q (o::rest) a w:=by
 refine wpList_plain hg fun K' hK'=> ?_
 unfold Oper.wp execOp;simp only[hop,resolve,invoke,builtin,jZ,vB,vU,xN,jY,vM,hx,hy,aAM];exact hK' _ _ (hK w rfl)
theorem aD2(w:World):
  Calls prog 39 #[.agg #[.int .i64 a,.int .i64 b,.int .i64 t,.string p,.int .i64 c,.slice none 0 0]] w fun e w'=>e=.returned (.agg #[.int .i64 a,.int .i64 b,.int .i64 t,.string p,.int .i64 c,.slice none 0 0])/\zB w w':=by
 obtain⟨m,n,o,s⟩:=vX w a b t p c (zS);have g:Hid ((opW w a b t p c (zS)).heap[w.heap.size]? =some (.cells #[zI a,zI b,zI t,.string p,zI c,(zS)] 97)/\(opW w a b t p c (zS)).heap[w.heap.size+1]? =some (.cells #[zI 0,zI 0,zI 0,.string ⟨#[]⟩,zI 0,zS] 97)):=⟨m,n⟩;have l:=z9 o;clear m n o s;unfold opW at l g;go_in;go_wp2_with (at_builtin;refine mR _ rfl (.const (zS)) (.tmp 4) rfl rfl rfl ?_;intro w9 hw9;have f:=g.out.1;have d:=g.out.2;have h:Hid (zB w w9):=(by rw[hw9];exact l.out);rw[<-hw9] at f d;have j:=z9 d;have y:=aB f (i:=0) rfl;have z:=aB f (i:=1) rfl;have A:=aB f (i:=2) rfl;have B:=aB f (i:=3) rfl;have C:=aB f (i:=4) rfl;have D:=aB f (i:=5) rfl;have E:=aB d (i:=0) rfl;have F:=aB d (i:=1) rfl;have G:=aB d (i:=2) rfl;have H:=aB d (i:=3) rfl;have I:=aB d (i:=4) rfl;have J:=aB d (i:=5) rfl;have K:=aF f (i:=5);have L:=aF d (i:=0);have M:=aF d (i:=1);have N:=aF d (i:=2);have O:=aF d (i:=3);have P:=aF d (i:=4);have Q:=aF d (i:=5);clear f d hw9);(try simp only[Exit.inBlock,Exit.then])
 have q:Hid ((((((((w9.setCell ⟨w.heap.size,5,none⟩ (zS)).setCell (zV w) (zI a)).setCell ⟨w.heap.size+1,1,none⟩ (zI b)).setCell ⟨w.heap.size+1,2,none⟩ (zI t)).setCell ⟨w.heap.size+1,3,none⟩ (.string p)).setCell ⟨w.heap.size+1,4,none⟩ (zI c)).setCell ⟨w.heap.size+1,5,none⟩ (zS)).heap[w.heap.size+1]? =some (.cells #[zI a,zI b,zI t,.string p,zI c,zS] 97)):=by
  unfold Hid;rw[set_heap (set_heap (set_heap (set_heap (set_heap (set_heap ((set_block _ _ _ _ (by simp)).trans j.out))))))];rfl
 have k:Hid (zB w (((((((w9.setCell ⟨w.heap.size,5,none⟩ (zS)).setCell (zV w) (zI a)).setCell ⟨w.heap.size+1,1,none⟩ (zI b)).setCell ⟨w.heap.size+1,2,none⟩ (zI t)).setCell ⟨w.heap.size+1,3,none⟩ (.string p)).setCell ⟨w.heap.size+1,4,none⟩ (zI c)).setCell ⟨w.heap.size+1,5,none⟩ (zS))):=
  ((((((h.out.setCell (p:=⟨w.heap.size,5,none⟩) (by simp) _).setCell (p:=(zV w)) (by simp) _).setCell (p:=⟨w.heap.size+1,1,none⟩) (by simp) _).setCell (p:=⟨w.heap.size+1,2,none⟩) (by simp) _).setCell (p:=⟨w.heap.size+1,3,none⟩) (by simp) _).setCell (p:=⟨w.heap.size+1,4,none⟩) (by simp) _).setCell (p:=⟨w.heap.size+1,5,none⟩) (by simp) _
 generalize r:((((((w9.setCell ⟨w.heap.size,5,none⟩ (zS)).setCell (zV w) (zI a)).setCell ⟨w.heap.size+1,1,none⟩ (zI b)).setCell ⟨w.heap.size+1,2,none⟩ (zI t)).setCell ⟨w.heap.size+1,3,none⟩ (.string p)).setCell ⟨w.heap.size+1,4,none⟩ (zI c)).setCell ⟨w.heap.size+1,5,none⟩ (zS)=W at q k |-;clear r y z A B C D E F G H I J K L M N O P Q l g h j;refine bodyPost_ret (v:=.agg #[zI a,zI b,zI t,.string p,zI c,zS]) ?_ rfl ?_
 ·simp[results];rw[show∀W,(asAddr (Value.pointer (some (zV w)))).run prog W=.ok (zV w) W from fun _=>rfl];exact aDG q.out
 ·exact⟨rfl,k.out⟩
theorem tL(w:World)(h:DtsAt w vs s)(hs:s.length<=1048576):
  Calls prog 39 #[.agg #[.int .i64 a,.int .i64 b,.int .i64 t,.string p,.int .i64 c,vs]] w fun e w'=>∃v',e=.returned (.agg #[.int .i64 a,.int .i64 b,.int .i64 t,.string p,.int .i64 c,v'])/\w'.ownsRow w.heap.size 80 2 v' s.length (flatD s)/\zB w w':=by
 have d:=h
 obtain⟨q,f,rfl,l,n,o,g⟩:=d
 cases q with
 | none=>
  have i:=g rfl
  have j:s=[]:=qK (by omega)
  subst j i
  refine(aD2 a b t p c w).mono ?_
  rintro e w' ⟨rfl,k⟩
  exact⟨_,rfl,jT _ _ _ _,k⟩
 | some ad=>exact aEb a b t p c ad _ f s w h hs
end If
namespace Ig
open Hm Ib Idc
variable {ops:Array Oper}{o:Oper}{a:Act}{W w w':World}{K:Act->World->Prop}{Q:Exit->Act->World->Prop}{E:Prop}{m:Mem}{S:Dq}{G:Nat->Prop}{d:Dt}
theorem step_drop(hgd:o.guard=none)(m x:Operand)(hop:o.op=Op.call { callee:=Callee.builtin Builtin.delete,args:=#[m,x],argTypes:=#[91,80] }){B:Nat}{M:List Ent}(hm:a.eval m=.map (some B))(h:MapAt W B M)(d1 d2:Int)(hx:a.eval x=.agg #[.int .i64 d1,.int .i64 d2])(hK:∀w',MapAt w' B (delM (d1,d2) M)->W.grownBy w' (some B)->K (a.put o.dst (.tuple #[])) w'):if Region.wanted o (yielded ops a.tmps)=true then Oper.wp prog o a W K Q else E:=by
 have c:Region.wanted o (yielded ops a.tmps)=true:=by simp[Region.wanted,hgd]
 rw[if_pos c];obtain⟨w',b,d,e⟩:=aCQ h d1 d2 o.type;unfold Oper.wp execOp;simp only[hop,resolve,invoke,builtin,jZ,vB,vU,xN,jY,vM,hm,hx,b];exact hK w' d e
theorem mN{R:Value->World->Prop}(hgd:o.guard=none)(F:FuncId)(x y:Operand)(T U:TypeId)(ho:o.op=.call { callee:=.value (.func F),args:=#[x,y],argTypes:=#[T,U] })(v0 v1:Value)(hx:a.eval x=v0)(hy:a.eval y=v1)(hcf:∀args W,(callFunc F args).run prog W=.ok (.enter F args) W)(hC:Calls prog F #[v0,v1] W fun e w'=>∃v,e=.returned v/\R v w')(h:∀v w',R v w'->K (a.put o.dst v) w'):
  if Region.wanted o (yielded ops a.tmps)=true then Oper.wp prog o a W K Q else E:=by
 have b:Region.wanted o (yielded ops a.tmps)=true:=by simp[Region.wanted,hgd]
 rw[if_pos b]
 have c:(execOp a.eval o).run prog W=.ok (.enter F #[v0,v1]) W:=by
  have d:a.eval (.func F)=.func (.func F) #[] #[]:=rfl;unfold execOp;simp only[ho,resolve,invoke,xN,jY,vM,hx,hy,d];exact hcf _ _
 unfold Oper.wp;rw[c,Oper.upon_enter];refine hC.mono ?_;rintro e w' ⟨v,rfl,f⟩;exact h v w' f
theorem aAD(args:Array Value)(W:World):(callFunc 132 args).run prog W=.ok (.enter 132 args) W:=by
 first | kernel_rfl | simp[callFunc,go_sem,Tryz.func132]
theorem aJf:(prog.info? 9).map (fun i=>(i.zero,i.size,i.bytes))=some (some (.string ByteArray.empty),1,16):=by kernel_rfl
theorem aEk(hgd:o.guard=none)(sO xO:Operand)(ho:o.op=.call { callee:=.builtin .append,args:=#[sO,xO],argTypes:=#[194,194] })(v:Value)(l:List ByteArray)(x:ByteArray)(hs:a.eval sO=v)(h0:Nat)(hx:a.eval xO=.slice (some ⟨h0,0,none⟩) 1 1)(hlen:l.length+1<=1048576)(hown:RowS W v l)(hc0:W.cell? ⟨h0,0,none⟩=some (.string x))(h:∀v' w',RowS w' v' (l++[x])->W.grownBy w' v.ownBlock->(v'.ownBlock=v.ownBlock\/v'.ownBlock=some W.heap.size)->K (a.put o.dst v') w'):
  if Region.wanted o (yielded ops a.tmps)=true then Oper.wp prog o a W K Q else E:=by
 have e:Region.wanted o (yielded ops a.tmps)=true:=by simp[Region.wanted,hgd]
 rw[if_pos e];obtain⟨f,g,b,c,d⟩:=info_parts aJf
 obtain⟨v',w',i,k,m,_,n⟩:=run_append_own_at (P:=prog) W 0 194 o.type 9 f (.string ByteArray.empty) 1 16 Tryz.underlying194 g b c d rfl (by decide) v l.length (l.map Value.string) hown (zA h0) 1 1 [.string x] rfl (by
  intro j u hu;rw[jU,qY];rcases j with _ | j
  ·rw[hc0];exact hu
  ·simp at hu) (by intro u hu;rw[qP.1 hu];rfl) (by unfold maxLen;omega) (by omega) (jW _)
 unfold Oper.wp execOp;simp only[ho,resolve,invoke,builtin,jZ,vB,vU,xN,jY,vM,hs,hx,i];refine h v' w' ?_ m n;unfold RowS;rw[qE,xL];exact k
theorem put_at{d:Dt}{v:Value}{l:List ByteArray}{x:Ent}:∀{M:List Ent},x ∈ putM d v l M->x=(d,v,l)\/(x ∈ M/\(M.Pairwise Sep->∀g,x.2.1.ownBlock=some g->(getV M d).ownBlock≠some g))
 | [],h=>by left;simpa[putM] using h
 | y::M,h=>by
  rw[iD] at h
  by_cases e:d=y.1
  ·rw[if_pos e] at h
   rcases jD.1 h with h | h
   ·exact qH h
   ·refine qF ⟨jO _ h,fun hp g hg h2=> ?_⟩
    rw[dV,if_pos e] at h2
    exact(jL.1 hp).1 x h g h2 hg
  ·rw[if_neg e] at h
   rcases jD.1 h with h | h
   ·refine qF ⟨by rw[h];exact xA,fun hp g hg h2=> ?_⟩
    rw[dV,if_neg e] at h2
    rcases get_mem d M with⟨e0,_⟩ | ⟨z,hz,e0,_⟩
    ·rw[e0] at h2;cases h2
    ·rw[<-e0] at h2
     rw[h] at hg
     exact(jL.1 hp).1 z hz g hg h2
   ·rcases put_at h with h | ⟨h,h3⟩
    ·exact qH h
    ·refine qF ⟨jO _ h,fun hp g hg h2=> ?_⟩
     rw[dV,if_neg e] at h2
     exact h3 (jL.1 hp).2 g hg h2
theorem aFO(h:DocMem w m S G)(hm:MapAt w' m.B (delM d m.M))(hg:w.grownBy w' (some m.B)):
  DocMem w' { m with M:=delM d m.M } S G/\Chg (fun g=>g=m.B) w w'/\∀g,Wr { m with M:=delM d m.M } g->Wr m g:=by
 have b:=aAh d m.M
 have q:∀g,Wr { m with M:=delM d m.M } g->Wr m g:=by
  rintro g (e | e | e | ⟨x,k,e⟩)
  ·exact qH e
  ·exact qF (qH e)
  ·exact qF (qF (qH e))
  ·exact qF (qF (qF ⟨x,b.subset k,e⟩))
 have i:∀g,g<w.heap.size->g≠m.B->w'.heap[g]? =w.heap[g]? :=fun g j hne=>hg.block g j (fun e=>hne (by injection e))
 have l:Stay G w w':=fun g hgg=>i g (h.lt g hgg) (fun e=>h.off g hgg (qF (qH e)))
 have f:∀g a t,w.heap[g]? =some (.cells a t (0,0))->g≠m.B:=fun g a t h9 e=>by
  obtain⟨C,v,z,_⟩:=h.map;rw[e,z] at h9;cases h9
 obtain⟨L,A,r,n⟩:=h.ops;refine⟨⟨?_,cR h.book h.bookG l,h.bookG,cI h.marks h.marksG l,h.marksG,cW h.known h.knownG l,h.knownG,⟨L,A,aP r (fun g hgg=> ?_),fun y hy=>⟨bI (n y hy).1 (n y hy).2 l,(n y hy).2⟩⟩,hm,fun x k=>aP (h.rows x (b.subset k)) (fun g hgg=> ?_),h.apart.sublist b,fun g hgg=>jE (h.lt g hgg) hg.size,fun g hgg e=>h.off g hgg (q g e)⟩,Chg.grown hg (fun g e=>by injection e with e;exact e.symm),q⟩
 ·rw[i _ (qG.1 h.blk).1 (f _ _ _ h.blk)];exact h.blk
 ·obtain⟨j,a,o⟩:=aL r g hgg;exact i g j (f g a _ o)
 ·obtain⟨j,a,o⟩:=aL (h.rows x (b.subset k)) g hgg;exact i g j (f g a _ o)
theorem aGm{v':Value}{p:ByteArray}(h:DocMem w m S G)(hm:MapAt w' m.B (putM d v' (getJ m.M d++[p]) m.M))(hr:RowS w' v' (getJ m.M d++[p]))(hc:Chg (fun g=>g=m.B\/(getV m.M d).ownBlock=some g) w w')(hv:∀g,v'.ownBlock=some g->(getV m.M d).ownBlock=some g\/w.heap.size<=g):
  DocMem w' { m with M:=putM d v' (getJ m.M d++[p]) m.M } S G/\Chg (Wr m) w w'/\∀g,Wr { m with M:=putM d v' (getJ m.M d++[p]) m.M } g->Wr m g\/w.heap.size<=g:=by
 have n:∀g,(getV m.M d).ownBlock=some g->∃x ∈ m.M,x.2.1.ownBlock=some g/\x.2.1=getV m.M d:=fun g hg=>by
  rcases get_mem d m.M with⟨e,_⟩ | ⟨x,b,e,_⟩
  ·rw[e] at hg;cases hg
  ·exact⟨x,b,by rw[e];exact hg,e⟩
 have D:∀g,Wr { m with M:=putM d v' (getJ m.M d++[p]) m.M } g->Wr m g\/w.heap.size<=g:=by
  rintro g (e | e | e | ⟨x,b,e⟩)
  ·exact qH (qH e)
  ·exact qH (qF (qH e))
  ·exact qH (qF (qF (qH e)))
  ·rcases put_mem b with rfl | b
   ·rcases hv g e with e | e
    ·obtain⟨y,f,i,_⟩:=n g e;exact qH (qF (qF (qF ⟨y,f,i⟩)))
    ·exact qF e
   ·exact qH (qF (qF (qF ⟨x,b,e⟩)))
 have v:∀g,(g=m.B\/(getV m.M d).ownBlock=some g)->Wr m g:=fun g hg=>by
  rcases hg with e | e
  ·exact qF (qH e)
  ·obtain⟨y,f,i,_⟩:=n g e;exact qF (qF (qF ⟨y,f,i⟩))
 have r:=hc.stay fun g hgg=>⟨h.lt g hgg,fun e=>h.off g hgg (v g e)⟩
 have E:∀g,(getV m.M d).ownBlock=some g->∃c,w.heap[g]? =some (.cells c 9 (0,0)):=fun g hg=>by
  obtain⟨y,f,i,_⟩:=n g hg;exact(aL (h.rows y f) g i).2
 have j:∀g c t,w.heap[g]? =some (.cells c t (0,0))->t≠9->¬(g=m.B\/(getV m.M d).ownBlock=some g):=fun g c t h9 ht e=>by
  rcases e with e | e
  ·obtain⟨H,s,z,_⟩:=h.map;rw[e,z] at h9;cases h9
  ·obtain⟨I,J⟩:=E g e;rw[J] at h9;injection h9 with h9
   injection h9 with _ h9 _
   exact ht h9.symm
 obtain⟨L,K,F,A⟩:=h.ops;refine⟨⟨?_,cR h.book h.bookG r,h.bookG,cI h.marks h.marksG r,h.marksG,cW h.known h.knownG r,h.knownG,⟨L,K,aP F (fun g hgg=> ?_),fun y f=>⟨bI (A y f).1 (A y f).2 r,(A y f).2⟩⟩,hm,fun x b=> ?_, ?_,fun g hgg=>jE (h.lt g hgg) hc.size,fun g hgg e=> ?_⟩,hc.mono v,D⟩
 ·rw[hc.block _ (qG.1 h.blk).1 (j _ _ _ h.blk (by decide))];exact h.blk
 ·obtain⟨C,c,k⟩:=aL F g hgg;exact hc.block g C (j g c _ k (by decide))
 ·rcases put_at b with rfl | ⟨b,hne⟩
  ·exact hr
  ·refine aP (h.rows x b) fun g hgg=> ?_
   obtain⟨C,c,k⟩:=aL (h.rows x b) g hgg;refine hc.block g C ?_;rintro(e | e)
   ·obtain⟨H,s,z,_⟩:=h.map;rw[e,z] at k;cases k
   ·exact hne h.apart g hgg e
 ·exact wP h.apart fun g hgg=>by
   rcases hv g hgg with e | e
   ·exact qH e
   ·refine qF fun x b i=> ?_
    have:=(aL (h.rows x b) g i).1;omega
 ·rcases D g e with e | e
  ·exact h.off g hgg e
  ·have:=h.lt g hgg;omega
end Ig
end Go.Proofs.YtjcemlmlfoilmaaGreatDoor
