import Derived.Test.YtjcemlmlfoilmaaGreatDoorA0
set_option linter.unusedVariables false
set_option maxRecDepth 100000
set_option maxHeartbeats 8000000
namespace Go.Proofs.YtjcemlmlfoilmaaGreatDoor
namespace Ac
open Cm Na Om Oa Ia Iq
def OJt (Q:Nat→Prop) (w:World) (b o j:Nat) (x:Ox):Prop:=∃v,(w.cell? ⟨b,o+j*6,none⟩=some (.int .i64 x.1.1)∧w.cell? ⟨b,o+j*6+1,none⟩=some (.int .i64 x.1.2)∧w.cell? ⟨b,o+j*6+2,none⟩=some (.int .i64 x.2.1)∧w.cell? ⟨b,o+j*6+3,none⟩=some (.string x.2.2.1)∧w.cell? ⟨b,o+j*6+4,none⟩=some (.int .i64 x.2.2.2.1)∧w.cell? ⟨b,o+j*6+5,none⟩=some v)∧DtsAt w v x.2.2.2.2∧In Q v
def aEP (R Q:Nat→Prop) (w:World) (p:Option Addr) (l:List Ox):Prop:=l=[]∨∃b o,p=some ⟨b,o,none⟩∧R b∧∀j,j<l.length→OJt Q w b o j (l.getD j oz)
def OpsJ (R Q:Nat→Prop) (w:World) (v:Value) (l:List Ox):Prop:=∃p c,v=.slice p l.length c∧aEP R Q w p l∧l.length≤c∧c≤maxLen∧(p=none→c=0)
variable {R Q:Nat->Prop}{w:World}{l:List Ox}{a:Addr}{v:Value}{B:Nat}
theorem aEP.stay{w':World}{p:Option Addr}(h:aEP R Q w p l)(hr:Stay R w w')(hs:Stay Q w w'):aEP R Q w' p l:=by
 rcases h with e | ⟨b,o,hp,hG,hc⟩
 ·exact qH e
 ·refine qF ⟨b,o,hp,hG,fun j hj=> ?_⟩;obtain⟨v,⟨d,f,g,i,k,m⟩,n,c⟩:=hc j hj;have a:=hr b hG;exact⟨v,⟨(aM a).trans d,(aM a).trans f,(aM a).trans g,(aM a).trans i,(aM a).trans k,(aM a).trans m⟩,bI n c hs,c⟩
theorem OpsJ.stay{R Q:Nat->Prop}{w w':World}{v:Value}{l:List Ox}(h:OpsJ R Q w v l)(hr:Stay R w w')(hs:Stay Q w w'):OpsJ R Q w' v l:=by
 obtain⟨p,c,a,b,d⟩:=h;exact⟨p,c,a,b.stay hr hs,d⟩
theorem aDn(h:w.cell? a=some v):a.block<w.heap.size:=by
 unfold World.cell? at h;split at h
 ·rename_i h2;exact(qG.1 h2).1
 ·cases h
theorem aEP.some{R Q:Nat→Prop}{w:World}{p:Option Addr}{l:List Ox}(h:aEP R Q w p l)(hl:l≠[]):∃b o,p=some ⟨b,o,none⟩∧R b∧∀j,j<l.length→OJt Q w b o j (l.getD j oz):=by
 rcases h with h | h
 ·exact absurd h hl
 ·exact h
theorem OpsJ.at(h:OpsJ R Q w v l):OpsAt w v l:=by
 obtain⟨p,c,a,d,f⟩:=h;refine⟨p,c,a, ?_,f⟩;rcases d with e | ⟨b,o,hp,_,hc⟩
 ·exact qH e
 ·refine qF ⟨b,o,hp,fun j hj=> ?_⟩;obtain⟨v,g,i,_⟩:=hc j hj;exact⟨v,g,i⟩
theorem OpsJ.nil(R Q:Nat->Prop)(w:World):OpsJ R Q w (.slice none 0 0) []:=⟨none,0,rfl,qH rfl,qC _,by unfold maxLen;omega,fun _=>rfl⟩
theorem OpsJ.mono{R Q R' Q':Nat->Prop}{w:World}{v:Value}{l:List Ox}(h:OpsJ R Q w v l)(hr:∀g,R g->R' g)(hs:∀g,Q g->Q' g):OpsJ R' Q' w v l:=by
 obtain⟨p,c,a,d,f⟩:=h;refine⟨p,c,a, ?_,f⟩;rcases d with e | ⟨b,o,hp,hG,hc⟩
 ·exact qH e
 ·refine qF ⟨b,o,hp,hr b hG,fun j hj=> ?_⟩;obtain⟨v,i,k,m⟩:=hc j hj;exact⟨v,i,k,m.mono hs⟩
theorem aIy{l:List Dt}(h:DtsAt w v l):In (fun g=>g<w.heap.size) v:=fun a n c e hn=>by
 obtain⟨q,c2,hv,hin,_⟩:=h
 rw[e] at hv
 injection hv with e1 e2 e3
 rcases hin with e0 | ⟨bb,oo,hp9,hcs⟩
 ·rw[e0] at e2;simp at e2;omega
 ·rw[hp9] at e1
  injection e1 with e1
  rw[e1]
  exact(hcs 0 (by omega)).lt
theorem OpsJ.old(h:OpsAt w v l):OpsJ (fun g=>g<w.heap.size) (fun g=>g<w.heap.size) w v l:=by
 obtain⟨p,c,f,i,k⟩:=h;refine⟨p,c,f, ?_,k⟩;rcases i with e | ⟨b,o,hp,hc⟩
 ·exact qH e
 ·by_cases a:l=[]
  ·exact qH a
  ·refine qF ⟨b,o,hp,(hc 0 (yF.2 a)).lt,fun j hj=> ?_⟩;obtain⟨v,m,d⟩:=hc j hj;exact⟨v,m,d,aIy d⟩
def New (B:Nat) (w:World) (g:Nat):Prop:=B≤g∧g<w.heap.size
theorem OpsJ.own{L:List (Ox × Value)}(h:RowL B w v L)(hd:∀y ∈ L,DtsAt w y.2 y.1.2.2.2.2/\In Q y.2):OpsJ (New B w) Q w v (L.map (·.1)):=by
 have k:=oD h (fun y b=>(hd y b).1);obtain⟨p,c,d,r,m⟩:=k;rcases h.shape with⟨e,i⟩ | ⟨g,c9,e,hg,_,_⟩
 ·subst i e;exact OpsJ.nil _ _ _
 ·rw[d] at e;injection e with e1 e2 e3
  subst e1 e3;refine⟨some (zA g),c,d, ?_,m⟩;by_cases i:L.map (·.1)=[]
  ·exact qH i
  ·have l:=(aL h g (by rw[d];rfl)).1;refine qF ⟨g,0,rfl,⟨hg,l⟩,fun j hj=> ?_⟩;have f:j<L.length:=by rwa [jM] at hj
   have b:=qB f;have n:(L.map (·.1)).getD j oz=L[j].1:=by rw[qA,qT,b];rfl
   rw[n];have o:RowL B w (.slice (some (zA g)) (L.map (·.1)).length c) L:=by rw[<-d];exact h
   have a:=o.six b;refine⟨L[j].2,⟨?_, ?_, ?_, ?_, ?_, ?_⟩,hd _ (jF f)⟩
   ·have:=a 0 _ rfl;rwa [show j*6+0=0+j*6 by omega] at this
   ·have:=a 1 _ rfl;rwa [show j*6+1=0+j*6+1 by omega] at this
   ·have:=a 2 _ rfl;rwa [show j*6+2=0+j*6+2 by omega] at this
   ·have:=a 3 _ rfl;rwa [show j*6+3=0+j*6+3 by omega] at this
   ·have:=a 4 _ rfl;rwa [show j*6+4=0+j*6+4 by omega] at this
   ·have:=a 5 _ rfl;rwa [show j*6+5=0+j*6+5 by omega] at this
def bare (B:Nat) (w:World):World:={ w with heap:=w.heap.mapIdx fun i o=>if i<B then .cells #[] 0 (0,0) else o }
theorem aBw{k:Nat}(h:B<=k):(bare B w).heap[k]? =w.heap[k]? :=by
 unfold bare
 rw[Array.getElem?_mapIdx]
 cases h2:w.heap[k]? with
 | none=>rfl
 | some o=>simp only[xU];rw[if_neg (by omega)]
theorem uW(h:(bare B w).cell? a=some v):New B w a.block:=by
 by_cases f:B<=a.block
 ·have d:=aDn h;exact⟨f,by unfold bare at d;simpa using d⟩
 ·exfalso;have b:=aDn h;have c:a.block<w.heap.size:=by unfold bare at b;simpa using b
  have e:(bare B w).heap[a.block]? =some (.cells #[] 0 (0,0)):=by
   unfold bare;rw[Array.getElem?_mapIdx,yT c];simp only[xU];rw[if_pos (by omega)]
  unfold World.cell? at h;rw[e] at h;simp at h
theorem OpsJ.kept(h:∀W:World,(∀k,B<=k->k<w.heap.size->W.heap[k]? =w.heap[k]?)->OpsAt W v l):OpsJ (New B w) (New B w) w v l:=by
 have s:=h (bare B w) (fun k hk _=>aBw hk);have f:Stay (New B w) (bare B w) w:=fun g hg=>(aBw hg.1).symm
 refine OpsJ.stay (w:=bare B w) ?_ f f;obtain⟨p,c,y,z,A⟩:=s;refine⟨p,c,y, ?_,A⟩;rcases z with e | ⟨b,o,hp,hc⟩
 ·exact qH e
 ·by_cases d:l=[]
  ·exact qH d
  ·obtain⟨u,⟨C,_⟩,_⟩:=hc 0 (yF.2 d);refine qF ⟨b,o,hp,uW C,fun j hj=> ?_⟩;obtain⟨u,D,i⟩:=hc j hj;refine⟨u,D,i,fun a n c e hn=> ?_⟩;obtain⟨q,H,m,r,_⟩:=i;rw[e] at m;injection m with e1 e2 e3
   rcases r with d | ⟨bb,oo,hp9,hcs⟩
   ·rw[d] at e2;simp at e2;omega
   ·rw[hp9] at e1;injection e1 with e1
    rw[e1];exact uW (hcs 0 (by omega)).1
end Ac
end Go.Proofs.YtjcemlmlfoilmaaGreatDoor
