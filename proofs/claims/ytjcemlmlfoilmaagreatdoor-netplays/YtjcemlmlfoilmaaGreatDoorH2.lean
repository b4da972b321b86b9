import Derived.Test.YtjcemlmlfoilmaaGreatDoorH1
import Derived.Deep.MidRow
import Derived.Lib.SliceRun
import Derived.Deep.Upon
set_option linter.unusedSimpArgs false
set_option linter.unusedVariables false
set_option maxRecDepth 100000
set_option maxHeartbeats 8000000
namespace Go.Proofs.YtjcemlmlfoilmaaGreatDoor
open Ia Ie Hc Hd Go.RowKit Ic
open Go.Proofs.Tryz (prog)
namespace Hl
open Oi Hm Hi
abbrev Pc:=Nat × ByteArray
def pz:Pc:=(0,⟨#[]⟩)
def cellsP (x:Pc):List Value:=[.int .i64 x.1,.string x.2]
def flatP (l:List Pc):List Value:=l.flatMap cellsP
theorem bZ(a b:List Pc):flatP (a++b)=flatP a++flatP b:=by unfold flatP;rw[vA]
theorem bA:∀l:List Pc,(flatP l).length=l.length*2
 | []=>rfl
 | x::l=>by
  have e:flatP (x::l)=cellsP x++flatP l:=rfl
  rw[e,qE,bA l,qV]
  show 2+_=_
  omega
theorem fS:∀(l:List Pc) (j:Nat),j<l.length->∀i u,(cellsP (l.getD j pz))[i]? =some u->(flatP l)[j*2+i]? =some u
 | [],j,h,_,_,_=>absurd h (Nat.not_lt_zero j)
 | x::l,0,h,i,u,hu=>by
  have e:flatP (x::l)=cellsP x++flatP l:=rfl
  have hu2:(cellsP x)[i]? =some u:=hu
  rw[e,Nat.zero_mul,qY,xS (jK.1 hu2).1]
  exact hu2
 | x::l,j+1,h,i,u,hu=>by
  have e:flatP (x::l)=cellsP x++flatP l:=rfl
  have hl:(cellsP x).length=2:=rfl
  rw[e,jG (by rw[hl];omega),hl,show(j+1)*2+i-2=j*2+i by omega]
  exact fS l j (by simpa using h) i u hu
theorem pG(l:List Pc):∀u ∈ flatP l,u.oneCell'=true:=by
 intro u hu;unfold flatP at hu;obtain⟨x,_,a⟩:=kN.1 hu;unfold cellsP at a;simp only[jD,vO,or_false] at a;rcases a with rfl | rfl<;>rfl
def RowP (w:World) (v:Value) (l:List Pc):Prop:=w.ownsRow 0 118 2 v l.length (flatP l)
def ptrs (n:Nat) (E:Nat→Nat):List Value:=(List.range n).map fun i=>ptr (E i)
theorem pP(n:Nat)(E:Nat->Nat)(D:Nat):ptrs (n+1) (upd E n D)=ptrs n E++[ptr D]:=by
 unfold ptrs;rw[yV,xL];congr 1
 ·apply kD;intro i hi;rw[bL _ _ (by have:=vW.1 hi;omega)]
 ·show[ptr (upd E n D n)]=_
  rw[bU]
theorem zN{n:Nat}{E:Nat->Nat}{i:Nat}(h:i<n):(ptrs n E)[i]? =some (ptr (E i)):=by
 unfold ptrs;rw[qT,yG h];rfl
def RowE (w:World) (v:Value) (n:Nat) (E:Nat→Nat):Prop:=w.ownsRow 0 43 1 v n (ptrs n E)
abbrev NtB (w:World) (X:Nat) (vd vu:Value):Prop:=w.heap[X]? =some (.cells #[vd,vu] 63)
structure NAt (w:World) (X:Nat) (vd vu:Value) (N:Nt) (E:Nat→Nat) (Fd:Nat→Nat→Prop):Prop where
 blk:NtB w X vd vu
 rd:RowE w vd N.ds.length E
 ru:RowP w vu N.us
 docs:Rowd aGH w N.ds.length E (dq N) Fd
 off:¬All N.ds.length Fd X
 ofd:∀g,vd.ownBlock=some g→¬All N.ds.length Fd g
 ofu:∀g,vu.ownBlock=some g→¬All N.ds.length Fd g
 few:N.ds.length≤4
 sz:∀p ∈ N.us,p.2.size≤maxLen
def Fs (X:Nat) (vd vu:Value) (n:Nat) (Fd:Nat→Nat→Prop) (g:Nat):Prop:=g=X∨vd.ownBlock=some g∨vu.ownBlock=some g∨All n Fd g
def At (w:World) (X:Nat) (N:Nt) (F:Nat→Prop):Prop:=∃vd vu E Fd,NAt w X vd vu N E Fd∧∀g,F g↔Fs X vd vu N.ds.length Fd g
theorem kind_ne{w:World}{base z n:Nat}{t s:TypeId}{v:Value}{xs:List Value}(h:w.ownsRow base t z v n xs){X:Nat}{cs:Array Value}{f:Nat × Nat}(hX:w.heap[X]? =some (.cells cs s f))(ht:t≠s):∀g,v.ownBlock=some g->g≠X:=fun g hg e=>by
 obtain⟨_,cur,hc⟩:=aL h g hg
 rw[e,hX] at hc
 injection hc with hc
 injection hc with _ hc _
 exact ht hc.symm
theorem uF{w:World}{base z n base' z' n':Nat}{t s:TypeId}{v u:Value}{xs ys:List Value}(h:w.ownsRow base t z v n xs)(h':w.ownsRow base' s z' u n' ys)(ht:t≠s):∀g,v.ownBlock=some g->u.ownBlock≠some g:=fun g hg e=>by
 obtain⟨_,cur,hc⟩:=aL h' g e
 exact kind_ne h hc ht g hg rfl
section
variable {w w' : World} {X : Nat} {vd vu : Value} {N : Nt} {E : Nat → Nat} {Fd : Nat → Nat → Prop} {F : Nat → Prop}
theorem NAt.oM(h:NAt w X vd vu N E Fd):X<w.heap.size:=(qG.1 h.blk).1
theorem NAt.lt(h:NAt w X vd vu N E Fd):∀g,Fs X vd vu N.ds.length Fd g->g<w.heap.size:=by
 rintro g (e | e | e | e)
 ·rw[e];exact h.oM
 ·exact(aL h.rd g e).1
 ·exact(aL h.ru g e).1
 ·exact h.docs.lt g e
theorem NAt.stay(h:NAt w X vd vu N E Fd)(hs:Stay (Fs X vd vu N.ds.length Fd) w w')(hz:w.heap.size<=w'.heap.size):NAt w' X vd vu N E Fd:=
 ⟨by unfold NtB;rw[hs X (qH rfl)];exact h.blk,aP h.rd fun g e=>hs g (qF (qH e)),aP h.ru fun g e=>hs g (qF (qF (qH e))),h.docs.stay (fun g e=>hs g (qF (qF (qF e)))) hz,h.off,h.ofd,h.ofu,h.few,h.sz⟩
theorem NAt.below(h:NAt w X vd vu N E Fd)(hb:zB w w'):NAt w' X vd vu N E Fd:=h.stay (fun g hg=>hb.block g (h.lt g hg)) hb.size
theorem At.lt(h:At w X N F):∀g,F g->g<w.heap.size:=by obtain⟨vd,vu,E,Fd,m,hF⟩:=h;exact fun g hg=>m.lt g ((hF g).1 hg)
theorem At.stay(h:At w X N F)(hs:Stay F w w')(hz:w.heap.size<=w'.heap.size):At w' X N F:=by
 obtain⟨b,c,E,d,m,a⟩:=h;exact⟨b,c,E,d,m.stay (fun g hg=>hs g ((a g).2 hg)) hz,a⟩
theorem At.below(h:At w X N F)(hb:zB w w'):At w' X N F:=h.stay (fun g hg=>hb.block g (h.lt g hg)) hb.size
theorem NAt.dX(h:NAt w X vd vu N E Fd):∀g,vd.ownBlock=some g->g≠X:=kind_ne h.rd h.blk (by decide)
theorem NAt.uX(h:NAt w X vd vu N E Fd):∀g,vu.ownBlock=some g->g≠X:=kind_ne h.ru h.blk (by decide)
theorem NAt.du(h:NAt w X vd vu N E Fd):∀g,vd.ownBlock=some g->vu.ownBlock≠some g:=uF h.rd h.ru (by decide)
end
def Left' (w:World) (X:Nat) (F:Nat→Prop) (N':Nt) (w':World):Prop:=∃F',At w' X N' F'∧Chg F w w'∧∀g,F' g→F g∨w.heap.size≤g
theorem bS{w w':World}{X:Nat}{F:Nat->Prop}{N:Nt}(h:At w X N F)(hb:zB w w'):Left' w X F N w':=⟨F,h.below hb,Chg.ofBelow hb F,fun g e=>qH e⟩
theorem Left'.first{w w1 w':World}{X:Nat}{F:Nat->Prop}{N:Nt}(hb:zB w w1)(h:Left' w1 X F N w'):Left' w X F N w':=by
 obtain⟨F',a,b,c⟩:=h;exact⟨F',a,(Chg.ofBelow hb F).trans b,fun g hg=>(c g hg).imp id fun e=>qO hb.size e⟩
theorem Left'.then{w w1 w':World}{X:Nat}{F:Nat->Prop}{N:Nt}(h:Left' w X F N w1)(hb:zB w1 w'):Left' w X F N w':=by
 obtain⟨F',a,b,c⟩:=h;exact⟨F',a.below hb,b.trans (Chg.ofBelow hb F),c⟩
theorem dM{w w':World}{X:Nat}{F:Nat->Prop}{vd vu vd' vu':Value}{N N':Nt}{E':Nat->Nat}{Fd Fd':Nat->Nat->Prop}(hF:∀g,F g↔Fs X vd vu N.ds.length Fd g)(h:NAt w' X vd' vu' N' E' Fd')(hc:Chg (Fs X vd vu N.ds.length Fd) w w')(hl:∀g,Fs X vd' vu' N'.ds.length Fd' g->Fs X vd vu N.ds.length Fd g\/w.heap.size<=g):Left' w X F N' w':=
 ⟨Fs X vd' vu' N'.ds.length Fd',⟨vd',vu',E',Fd',h,fun g=>Iff.rfl⟩,hc.mono fun g e=>(hF g).2 e,fun g e=>(hl g e).imp (hF g).2 id⟩
theorem fU{N:Nt}{i j:Nat}(T:Dq)(hi:i<N.ds.length):dq { N with ds:=N.ds.set i T } j=upd (dq N) i T j:=by
 unfold dq upd;show(N.ds.set i T).getD j d0=_
 rw[qA,List.getElem?_set];by_cases h:i=j
 ·subst h;rw[if_pos rfl,if_pos hi,if_pos rfl];rfl
 ·rw[if_neg h,if_neg (Ne.symm h)];exact(qA ..).symm
theorem wY{N:Nt}{j:Nat}(T:Dq)(hj:j<N.ds.length+1):dq { N with ds:=N.ds++[T] } j=upd (dq N) N.ds.length T j:=by
 unfold dq upd;show(N.ds++[T]).getD j d0=_
 rw[qA];by_cases h:j=N.ds.length
 ·subst h;rw[if_pos rfl,jG (qC _),Nat.sub_self];rfl
 ·rw[if_neg h,xS (by omega)];exact(qA ..).symm
theorem NAt.aAH{w w':World}{X:Nat}{vd vu:Value}{N:Nt}{E:Nat->Nat}{Fd:Nat->Nat->Prop}(h:NAt w X vd vu N E Fd){i:Nat}(hi:i<N.ds.length){T:Dq}{G:Nat->Prop}(hA:DocAt w' (E i) T G)(hc:Chg (Fd i) w w')(hG:∀g,G g->Fd i g\/w.heap.size<=g):
  NAt w' X vd vu { N with ds:=N.ds.set i T } E (upd Fd i G)/\Chg (Fs X vd vu N.ds.length Fd) w w'/\∀g,Fs X vd vu (N.ds.set i T).length (upd Fd i G) g->Fs X vd vu N.ds.length Fd g\/w.heap.size<=g:=by
 have c:(N.ds.set i T).length=N.ds.length:=jN;have b:=Rowd.aBt (w:=w) (F:=Fd) hi hG;refine⟨⟨?_, ?_, ?_, ?_, ?_, ?_, ?_, ?_,h.sz⟩,hc.mono fun g e=>qF (qF (qF ⟨i,hi,e⟩)), ?_⟩
 ·unfold NtB;rw[hc.block X h.oM (fun e=>h.off ⟨i,hi,e⟩)];exact h.blk
 ·show RowE w' vd (N.ds.set i T).length E
  rw[c];exact aP h.rd fun g e=>hc.block g (aL h.rd g e).1 (fun e2=>h.ofd g e ⟨i,hi,e2⟩)
 ·exact aP h.ru fun g e=>hc.block g (aL h.ru g e).1 (fun e2=>h.ofu g e ⟨i,hi,e2⟩)
 ·show Rowd aGH w' (N.ds.set i T).length E _ _
  rw[c];exact(h.docs.aAH (K:=aGH) hi hA hc hG).same (fun _ _=>rfl) (fun j hj=>fU T hi)
 ·show¬All (N.ds.set i T).length _ X
  rw[c];intro e;rcases b X e with e | e
  ·exact h.off e
  ·have:=h.oM;omega
 ·intro g hg;show¬All (N.ds.set i T).length _ g
  rw[c];intro e;rcases b g e with e | e
  ·exact h.ofd g hg e
  ·have:=(aL h.rd g hg).1;omega
 ·intro g hg;show¬All (N.ds.set i T).length _ g
  rw[c];intro e;rcases b g e with e | e
  ·exact h.ofu g hg e
  ·have:=(aL h.ru g hg).1;omega
 ·show(N.ds.set i T).length<=4
  rw[c];exact h.few
 ·rw[c];rintro g (e | e | e | e)
  ·exact qH (qH e)
  ·exact qH (qF (qH e))
  ·exact qH (qF (qF (qH e)))
  ·rcases b g e with e | e
   ·exact qH (qF (qF (qF e)))
   ·exact qF e
theorem NAt.sC{w w1:World}{X:Nat}{vd vu vu':Value}{N:Nt}{E:Nat->Nat}{Fd:Nat->Nat->Prop}{us':List Pc}(h:NAt w X vd vu N E Fd)(hc:Chg (fun g=>vu.ownBlock=some g) w w1)(hr:RowP w1 vu' us')(hl:∀g,vu'.ownBlock=some g->vu.ownBlock=some g\/w.heap.size<=g)(hs:∀p ∈ us',p.2.size<=maxLen):
  NAt (w1.setCell ⟨X,1,none⟩ vu') X vd vu' { N with us:=us' } E Fd/\Chg (Fs X vd vu N.ds.length Fd) w (w1.setCell ⟨X,1,none⟩ vu')/\∀g,Fs X vd vu' N.ds.length Fd g->Fs X vd vu N.ds.length Fd g\/w.heap.size<=g:=by
 have b:NtB w1 X vd vu:=by unfold NtB;rw[hc.block X h.oM (fun e=>h.uX X e rfl)];exact h.blk
 have c:Chg (Fs X vd vu N.ds.length Fd) w (w1.setCell ⟨X,1,none⟩ vu'):=Chg.setCell (F:=Fs X vd vu N.ds.length Fd) (hc.mono fun g e=>qF (qF (qH e))) (p:=⟨X,1,none⟩) (qH rfl) _;refine⟨⟨?_, ?_, ?_, ?_,h.off,h.ofd, ?_,h.few,hs⟩,c, ?_⟩
 ·unfold NtB;rw[set_heap b];rfl
 ·exact aP h.rd fun g e=>by
   rw[set_block _ _ _ _ (h.dX g e)];exact hc.block g (aL h.rd g e).1 (h.du g e)
 ·exact aP hr fun g e=>set_block _ _ _ _ (kind_ne hr b (by decide) g e)
 ·refine h.docs.stay (fun g e=> ?_) c.size;rw[set_block _ _ _ _ (fun e9:g=X=>h.off (e9▸e))];exact hc.block g (h.docs.lt g e) (fun e2=>h.ofu g e2 e)
 ·intro g hg e;rcases hl g hg with e2 | e2
  ·exact h.ofu g e2 e
  ·have:=h.docs.lt g e;omega
 ·rintro g (e | e | e | e)
  ·exact qH (qH e)
  ·exact qH (qF (qH e))
  ·rcases hl g e with e | e
   ·exact qH (qF (qF (qH e)))
   ·exact qF e
  ·exact qH (qF (qF (qF e)))
theorem NAt.push{w w2 w3:World}{X:Nat}{vd vd' vu:Value}{N:Nt}{E:Nat->Nat}{Fd:Nat->Nat->Prop}{D:Nat}{T:Dq}{G:Nat->Prop}(h:NAt w X vd vu N E Fd)(hb:zB w w2)(hD:DocAt w2 D T G)(hG:∀g,G g->w.heap.size<=g)(hc:Chg (fun g=>vd.ownBlock=some g) w2 w3)(hr:RowE w3 vd' (N.ds.length+1) (upd E N.ds.length D))(hl:∀g,vd'.ownBlock=some g->vd.ownBlock=some g\/w2.heap.size<=g)(hk:N.ds.length+1<=4):
  NAt (w3.setCell ⟨X,0,none⟩ vd') X vd' vu { N with ds:=N.ds++[T] } (upd E N.ds.length D) (upd Fd N.ds.length G):=by
 have p:=h.oM;have d:=h.below hb;have i:(N.ds++[T]).length=N.ds.length+1:=by rw[qE];rfl
 have k:NtB w3 X vd vu:=by unfold NtB;rw[hc.block X d.oM (fun e=>d.dX X e rfl)];exact d.blk
 have c:=h.docs.push (K:=aGH) hb hD hG
 have f:∀g,All (N.ds.length+1) (upd Fd N.ds.length G) g->All N.ds.length Fd g\/w.heap.size<=g:=by
  rintro g ⟨j,n,b⟩;by_cases e:j=N.ds.length
  ·subst e;rw[bU] at b;exact qF (hG g b)
  ·rw[bL _ _ e] at b;exact qH ⟨j,by omega,b⟩
 have l:∀g,vd.ownBlock=some g->¬All (N.ds.length+1) (upd Fd N.ds.length G) g:=fun g b e=>by
  rcases f g e with e | e
  ·exact h.ofd g b e
  ·have:=(aL h.rd g b).1;omega
 have m:¬All (N.ds.length+1) (upd Fd N.ds.length G) X:=fun e=>by
  rcases f X e with e | e
  ·exact h.off e
  ·omega
 refine⟨?_, ?_, ?_, ?_, ?_, ?_, ?_, ?_,h.sz⟩
 ·unfold NtB;rw[set_heap k];rfl
 ·show RowE _ vd' (N.ds++[T]).length _
  rw[i];exact aP hr fun g e=>set_block _ _ _ _ (kind_ne hr k (by decide) g e)
 ·exact aP d.ru fun g e=>by
   rw[set_block _ _ _ _ (d.uX g e)];exact hc.block g (aL d.ru g e).1 (fun e2=>d.du g e2 e)
 ·show Rowd aGH _ (N.ds++[T]).length _ _ _
  rw[i];refine Rowd.same (c.stay (fun g e=> ?_) (by rw[set_size];exact hc.size)) (fun _ _=>rfl) (fun j n=>wY T n);rw[set_block _ _ _ _ (fun e9:g=X=>m (e9▸e))];exact hc.block g (c.lt g e) (fun e2=>l g e2 e)
 ·show¬All (N.ds++[T]).length _ X
  rw[i];exact m
 ·intro g b;show¬All (N.ds++[T]).length _ g
  rw[i];rcases hl g b with e | e
  ·exact l g e
  ·intro e2;have:=c.lt g e2;omega
 ·intro g b;show¬All (N.ds++[T]).length _ g
  rw[i];intro e;rcases f g e with e | e
  ·exact h.ofu g b e
  ·have:=(aL h.ru g b).1;omega
 ·show(N.ds++[T]).length<=4
  rw[i];exact hk
theorem NAt.fC{w:World}{X:Nat}{vd vu:Value}{N:Nt}{E:Nat->Nat}{Fd:Nat->Nat->Prop}(h:NAt w X vd vu N E Fd):∃p c,vd=.slice p N.ds.length c/\N.ds.length<=c/\c<=maxLen/\(0<N.ds.length->∃g,p=some ⟨g,0,none⟩/\∀i,i<N.ds.length->w.cell? ⟨g,i,none⟩=some (ptr (E i))):=by
 rcases h.rd.2 with⟨e,e0⟩ | ⟨g,cap,cur,h1,h2,h3,h4,h5,h6,h7⟩
 ·exact⟨none,0,by rw[e,e0],by omega,jW _,fun a=>by omega⟩
 ·refine⟨_,cap,h1,h4,h5,fun _=>⟨g,rfl,fun i hi=> ?_⟩⟩;have a:=World.ownsRow.cells h.rd (g:=g) (by rw[h1];rfl) i _ (zN hi);rw[jU,qY] at a;exact a
theorem NAt.fJ{w:World}{X:Nat}{vd vu:Value}{N:Nt}{E:Nat->Nat}{Fd:Nat->Nat->Prop}(h:NAt w X vd vu N E Fd):∃p c,vu=.slice p N.us.length c/\N.us.length<=c/\c<=maxLen/\(0<N.us.length->∃g,p=some ⟨g,0,none⟩/\∀i,i<N.us.length->w.cell? ⟨g,i*2,none⟩=some (.int .i64 (N.us.getD i pz).1)/\w.cell? ⟨g,i*2+1,none⟩=some (.string (N.us.getD i pz).2)):=by
 rcases h.ru.2 with⟨e,e0⟩ | ⟨g,cap,cur,h1,h2,h3,h4,h5,h6,h7⟩
 ·exact⟨none,0,by rw[e,e0],by omega,jW _,fun a=>by omega⟩
 ·refine⟨_,cap,h1,h4,h5,fun _=>⟨g,rfl,fun i hi=>⟨?_, ?_⟩⟩⟩
  ·have a:=World.ownsRow.cells h.ru (g:=g) (by rw[h1];rfl) _ _ (fS N.us i hi 0 _ rfl);rw[jU,qY,vL] at a;exact a
  ·have a:=World.ownsRow.cells h.ru (g:=g) (by rw[h1];rfl) _ _ (fS N.us i hi 1 _ rfl);rw[jU,qY] at a;exact a
end Hl
namespace Hs
open Cm Ka Hl
open La (bel aD aH)
variable (X:Nat)(N:Nt)(n:Nat)(F:Nat->Prop)(c i:Nat)(w:World)
theorem aD8(h:At w X N F)(hn:N.us.length<=100):Calls prog 9 #[ptr X] w fun e w'=>e=.returned (.int .i64 N.us.length)/\zB w w':=by
 obtain⟨g,j,E,k,m,b⟩:=h;obtain⟨p,c,rfl,_⟩:=m.fJ;have d:=aB m.blk (i:=1) (u:=.slice p N.us.length c) rfl;generalize N.us.length=n at d hn |-;clear m b;go_in;go_wp2_with fail;go_ret;exact⟨rfl,qD _ _⟩
theorem lD(c:Nat)(p:Option Addr)(w:World)(c0:w.cell? ⟨X,0,none⟩=some (.slice p n c))(hn:n<=4)(hi:i<n):Calls prog 35 #[ptr X,.int .i64 i] w fun e w'=>e=.returned (.bool true)/\w'=w:=by
 have a:(0:Int)<=(i:Int):=by omega
 have b:(i:Int)<(n:Int):=by omega
 clear hi;go_in;go_wp2_with fail;go_ret;exact⟨rfl,rfl⟩
theorem zH(i:Int)(p:Option Addr)(w:World)(c0:w.cell? ⟨X,0,none⟩=some (.slice p n c))(hn:n<=4)(hi:out n i):Calls prog 35 #[ptr X,.int .i64 i] w fun e w'=>e=.returned (.bool false)/\w'=w:=by
 by_cases h:i<0
 ·have a:¬(0:Int)<=i:=by omega
  clear hi h;go_in;go_wp2_with fail;go_ret;exact⟨rfl,rfl⟩
 ·have a:(0:Int)<=i:=by omega
  have d:¬i<(n:Int):=by unfold out at hi;omega
  clear hi h;go_in;go_wp2_with fail;go_ret;exact⟨rfl,rfl⟩
theorem aFD(i:Int)(p:Option Addr)(w:World)(c0:w.cell? ⟨X,0,none⟩=some (.slice p n c))(hn:n<=4)(hi:out n i):Calls prog 13 #[ptr X,.int .i64 i] w fun e w'=>e=.returned (.tuple #[.pointer none,.iface 59 (.int .i64 1)])/\w'=w:=by
 have C:=zH X n c i p w c0 hn hi;clear hi;go_in;go_wp2_with fail;refine C.mono ?_;rintro e w' ⟨rfl,rfl⟩;go_wp2_with fail;go_ret2;exact⟨rfl,rfl⟩
theorem aDM(g i D:Nat)(w:World)(c0:w.cell? ⟨X,0,none⟩=some (.slice (some ⟨g,0,none⟩) n c))(hn:n<=4)(hi:i<n)(c1:w.cell? ⟨g,i,none⟩=some (ptr D)):Calls prog 13 #[ptr X,.int .i64 i] w fun e w'=>e=.returned (.tuple #[ptr D,.nilIface])/\w'=w:=by
 have a:(0:Int)<=(i:Int):=by omega
 have b:(i:Int)<(n:Int):=by omega
 have d:w.cell? ⟨g,0+i,none⟩=some (ptr D):=by rw[qY];exact c1
 go_in;go_wp2_with fail;refine(lD X n i c _ w c0 hn hi).mono ?_;rintro e w' ⟨rfl,rfl⟩;go_wp2_with fail;go_ret2;exact⟨rfl,rfl⟩
theorem aDy(h:At w X N F)(hi:i<N.ds.length):Calls prog 13 #[ptr X,.int .i64 i] w fun e w'=>∃D Fd,e=.returned (.tuple #[ptr D,.nilIface])/\DocAt w' D (dq N i) Fd/\(∀g,Fd g->F g)/\zB w w':=by
 obtain⟨l,n,E,Fd,m,f⟩:=h;obtain⟨p,c,rfl,_,_,j⟩:=m.fC;obtain⟨g,rfl,a⟩:=j (by omega);refine(aDM X _ c g i (E i) w (aB m.blk (i:=0) rfl) m.few hi (a i hi)).mono ?_;rintro e w' ⟨rfl,rfl⟩;exact⟨E i,Fd i,rfl,m.docs.at' i hi,fun g a=>(f g).2 (qF (qF (qF ⟨i,hi,a⟩))),qD _ _⟩
theorem sG(i:Int)(w:World)(h:At w X N F)(hgl:Gl N):Calls prog 12 #[ptr X,.int .i64 i] w fun e w'=>e=.returned (.tuple #[.string (if out N.ds.length i then⟨#[]⟩ else Lf.textR (dq N i.toNat).book),errV (if out N.ds.length i then 1 else 0)])/\zB w w':=by
 by_cases a:out N.ds.length i
 ·rw[if_pos a,if_pos a,aH (by decide)];obtain⟨A,B,E,g,m,v⟩:=h;obtain⟨p,c,rfl,_⟩:=m.fC;have C:=aFD X _ c i p w (aB m.blk (i:=0) rfl) m.few a;clear m v a hgl;go_in;go_wp2_with fail;refine C.mono ?_;rintro e w' ⟨rfl,rfl⟩;go_wp2_with fail;go_ret2;exact⟨rfl,qD _ _⟩
 ·rw[if_neg a,if_neg a,aD];obtain⟨k,rfl⟩:∃k:Nat,i=k:=⟨i.toNat,by unfold out at a;omega⟩;have n:k<N.ds.length:=by unfold out at a;omega
  rw[xK];have C:=aDy X N F k w h n;generalize dq N k=S at C |-;clear h hgl a n;go_in;go_wp2_with fail;refine C.mono ?_;rintro e w1 ⟨D,g,rfl,o,_,q⟩;have y:=Hid.mk' q;have d:=Il.aFL D S g w1 o;obtain⟨T,f⟩:=zx (Lf.textR S.book);rw[<-f] at d;have z:=Hid.mk' f;clear o q C f;go_wp2_with fail;refine d.mono ?_;rintro e w2 ⟨rfl,b⟩;have r:=Hid.mk' (bel y.out b);clear b d;go_wp2_with fail;go_ret2;exact⟨by rw[<-z.out];rfl,r.out⟩
end Hs
namespace Hp
open Hl
theorem aA4:(prog.info? 118).map (fun i=>(i.zero,i.size,i.bytes))=some (some (.agg #[.int .i64 0,.string ⟨#[]⟩]),2,24):=by kernel_rfl
theorem aI5:∀w,(zeroValue 118).run prog w=.ok (.agg #[.int .i64 0,.string ⟨#[]⟩]) w:=fun _=>by kernel_rfl
abbrev zP:Value:=.agg #[.int .i64 0,.string ⟨#[]⟩]
theorem aC5:zP.cells.size=2:=by kernel_rfl
theorem aIG:∀u ∈ zP.cells.toList,u.oneCell'=true:=by
 intro u hu;have e:zP.cells.toList=[zI 0,.string ⟨#[]⟩]:=by kernel_rfl
 rw[e] at hu;simp only[jD,vO,or_false] at hu;rcases hu with rfl | rfl<;>rfl
theorem gW:∀(vs:List Value) (g o:Nat) (w:World) (cur:Array Value) (t:TypeId) (f:Nat × Nat),w.heap[g]? =some (.cells cur t f)->∃cur':Array Value,(w.setCells g o vs).heap[g]? =some (.cells cur' t f)/\cur'.size=cur.size
 | [],g,o,w,cur,t,f,h=>⟨cur,h,rfl⟩
 | v::r,g,o,w,cur,t,f,h=>by
  obtain⟨c2,h1,h2⟩:=gW r g (o+1) (w.setCell ⟨g,o,none⟩ v) _ t f (set_heap h)
  exact⟨c2,h1,by rw[h2];simp⟩
theorem lZ:∀(vs:List Value) (b o:Nat) (w:World),(w.setCells b o vs).tape=w.tape/\(w.setCells b o vs).heap.size=w.heap.size
 | [],_,_,_=>⟨rfl,rfl⟩
 | v::r,b,o,w=>by
  obtain⟨h1,h2⟩:=lZ r b (o+1) (w.setCell ⟨b,o,none⟩ v)
  exact⟨h1.trans rfl,h2.trans (set_size _ _ _)⟩
theorem nY{F:Nat->Prop}{w0 w:World}{g:Nat}(h:Chg F w0 w)(hg:F g)(o:Nat)(vs:List Value):Chg F w0 (w.setCells g o vs):=by
 obtain⟨a,b⟩:=lZ vs g o w;exact⟨(World.os_setCells _ _ _ _).trans h.os,a.trans h.tape,(World.output_setCells _ _ _ _).trans h.output,by rw[b];exact h.size,fun k hk hf=>by rw[World.heap_setCells_other w g o vs (jE hk h.size) (fun e=>hf (e▸hg))];exact h.block k hk hf⟩
theorem aHs(blk off cap i j n:Nat)(l:List Pc)(w:World)(hn:l.length=n)(hH:∀t,t<n*2->w.cell? ⟨blk,off+t,none⟩=(flatP l)[t]?)(hF:∀t,w.frozen? ⟨blk,t,none⟩=false)(hcap:n<=cap)(hm:cap<=9223372036854775807)(hij:i<j)(hj:j<=n):
  Calls prog 55 #[.slice (some ⟨blk,off,none⟩) n cap,.int .i64 i,.int .i64 j] w fun e w'=>e=.returned (.slice (some ⟨blk,off,none⟩) (i+(n-j)) cap)/\w'=(w.drew.setCells blk (off+i*2) (flatP (l.drop j))).setCells blk (off+(i+(n-j))*2) (Builtin.zeroCells zP.cells (n-(i+(n-j)))).toList:=by
 obtain⟨E,y,L,z,M⟩:=info_parts aA4;have p:=Tryz.underlying61;obtain⟨a,b⟩:=zx (flatP (l.drop j));rw[<-b];have c:a.length=(n-j)*2:=by rw[b,bA,xH,hn]
 have B:(flatP l).length=n*2:=by rw[bA,hn]
 have g:flatP l=flatP (l.take j)++a:=by rw[b,<-bZ,xD]
 have q:(flatP (l.take j)).length=j*2:=by rw[bA,qQ];omega
 have m:∀t,t<(n-j)*2->a[t]? =(flatP l)[j*2+t]? :=by
  intro t d;rw[g,jG (by omega),q,Nat.add_sub_cancel_left]
 have f:∀t,t<n*2->(w.cell? ⟨blk,off+t,none⟩).isSome=true:=by
  intro t d;rw[hH t d,qB (by omega)];rfl
 obtain⟨A,Q,v⟩:∃A:Addr,(if cap=j then some (⟨blk,off,none⟩:Addr) else some ⟨blk,off+j*2,none⟩)=some A/\Hid (∀t u,a[t]? =some u->w.drew.cell? (A.add t)=some u):=by
  by_cases h:cap=j
  ·refine⟨⟨blk,off,none⟩,by simp[h],fun t u hu=> ?_⟩;have F:a.length=0:=by rw[c];omega
   rw[List.length_eq_zero_iff.1 F] at hu;simp at hu
  ·refine⟨⟨blk,off+j*2,none⟩,by simp[h],fun t u hu=> ?_⟩
   have d:t<(n-j)*2:=by
    have:=(jK.1 hu).1;rwa [c] at this
   rw[m t d] at hu;rw[jU,show off+j*2+t=off+(j*2+t) by omega];exact(hH (j*2+t) (by omega)).trans hu
 have G:=z9 c;have H:Hid (∀u ∈ a,u.oneCell'=true):=by rw[b];exact pG _
 have I:Hid (∀t,t<a.length->(w.drew.cell? ⟨blk,off+i*2+t,none⟩).isSome=true/\w.drew.frozen? ⟨blk,off+i*2+t,none⟩=false):=by
  intro t d;rw[c] at d;rw[Nat.add_assoc];exact⟨f (i*2+t) (by omega),hF _⟩
 obtain⟨o,k⟩:=zx (w.drew.setCells blk (off+i*2) a);rw[<-k]
 have r:∀t,t<n*2->(o.cell? ⟨blk,off+t,none⟩).isSome=true:=by
  intro t d;rw[k];exact World.isSome_setCells blk a _ w.drew _ (f t d)
 have s:∀t,o.frozen? ⟨blk,t,none⟩=false:=by
  intro t;rw[k,World.frozen?_setCells];exact hF t
 have C:∀ty,(Builtin.clear_ #[61] ty #[.slice (some ⟨blk,off+(i+(n-j))*2,none⟩) (n-(i+(n-j))) (cap-(i+(n-j)))]).run prog o=.ok (.tuple #[]) (o.setCells blk (off+(i+(n-j))*2) (Builtin.zeroCells zP.cells (n-(i+(n-j)))).toList):=
  fun ty=>Nl.wV o _ _ ty _ p aI5 (by rw[aC5];omega) aIG blk (off+(i+(n-j))*2) _ _ (by omega) (fun t d=>by rw[aC5] at d;rw[show off+(i+(n-j))*2+t=off+((i+(n-j))*2+t) by omega];exact r _ (by omega)) s
 have J:=z9 k;have O:i<=cap:=by omega
 have P:j<=cap:=by omega
 have K:¬i=j:=by omega
 generalize (Builtin.zeroCells zP.cells (n-(i+(n-j)))).toList=zs at C |-;clear k r s hF hH m b c hn B g q f;go_in;go_wp2_with fail;go_region_law (refine step_append_room rfl (.tmp 22) (.tmp 25) 61 rfl 118 E 2 p y z blk off i cap (by simp[Act.eval,Act.put]) A (n-j) (cap-j) a (by simp[Act.eval,Act.put]) G.out v.out H.out (by omega) I.out ?_;rw[<-J.out])
 go_wp2;go_ret;exact⟨rfl,rfl⟩
theorem erase_eq(l:List Pc)(i:Nat):l.eraseIdx i=l.take i++l.drop (i+1):=List.eraseIdx_eq_take_drop_succ l i
theorem aC1(g cap n i:Nat)(l:List Pc)(w:World)(h:RowP w (.slice (some ⟨g,0,none⟩) n cap) l)(hl:l.length=n)(hi:i<n):
  Calls prog 55 #[.slice (some ⟨g,0,none⟩) n cap,.int .i64 i,.int .i64 ((i+1:Nat):Int)] w fun e w'=>e=.returned (.slice (some ⟨g,0,none⟩) (n-1) cap)/\RowP w' (.slice (some ⟨g,0,none⟩) (n-1) cap) (l.eraseIdx i)/\Chg (fun x=>(Value.slice (some ⟨g,0,none⟩) n cap).ownBlock=some x) w w':=by
 rcases h.2 with⟨e,_⟩ | ⟨g',cap',cur,e,hg,hc,h1,h2,h3,h4⟩
 ·cases e
 ·injection e with e1 e2 e3
  injection e1 with e1
  injection e1 with e1 _
  subst e1 e3;have D:(flatP l).length=n*2:=by rw[bA,hl]
  have a:∀t,t<n*2->w.cell? ⟨g,0+t,none⟩=(flatP l)[t]? :=by
   intro t k;have m:=World.ownsRow.cells h (g:=g) rfl t _ (qB (by omega));rw[jU] at m;rw[m,qB (by omega)]
  refine(aHs g 0 cap i (i+1) n l w hl a (fun t=>by simp[World.frozen?,hc]) (by omega) (by unfold maxLen at h2;omega) (Nat.lt_succ_self _) hi).mono ?_;rintro e w' ⟨rfl,rfl⟩;have q:i+(n-(i+1))=n-1:=by omega
  rw[q];have b:(l.eraseIdx i).length=n-1:=by rw[List.length_eraseIdx_of_lt (by omega),hl]
  have c:(flatP (l.drop (i+1))).length=(n-(i+1))*2:=by rw[bA,xH,hl]
  have o:(flatP (l.take i)).length=i*2:=by rw[bA,qQ];omega
  refine⟨rfl, ?_, ?_⟩
  ·obtain⟨r,v,y⟩:=gW (flatP (l.drop (i+1))) g (0+i*2) w.drew cur _ _ hc;obtain⟨z,p,A⟩:=gW (Builtin.zeroCells zP.cells (n-(n-1))).toList g (0+(n-1)*2) _ r _ _ v;refine⟨by rw[bA],qF ⟨g,cap,z,by rw[b],jW _,p,by rw[b];omega,h2,by rw[A,y];exact h3, ?_⟩⟩;rw[b];apply yE;intro t;by_cases k:t<(n-1)*2
   ·rw[jC k,kJ]
    have B:((w.drew.setCells g (0+i*2) (flatP (l.drop (i+1)))).setCells g (0+(n-1)*2) (Builtin.zeroCells zP.cells (n-(n-1))).toList).cell? ⟨g,0+t,none⟩=(flatP (l.eraseIdx i))[t]? :=by
     rw[World.cell?_setCells_out g _ _ _ _ (fun _ _=>qH (by show 0+t<0+(n-1)*2;omega)),erase_eq,bZ];by_cases E:t<i*2
     ·rw[World.cell?_setCells_out g _ _ _ _ (fun _ _=>qH (by show 0+t<0+i*2;omega)),xS (by omega)];show w.cell? _=_
      rw[a t (by omega)];have C:flatP l=flatP (l.take i)++flatP (l.drop i):=by rw[<-bZ,xD]
      rw[C,xS (by omega)]
     ·obtain⟨s,rfl⟩:∃s,t=i*2+s:=⟨t-i*2,by omega⟩;have d:s<(flatP (l.drop (i+1))).length:=by rw[c];omega
      rw[jG (by omega),o,Nat.add_sub_cancel_left,show 0+(i*2+s)=0+i*2+s by omega,World.cell?_setCells_in g _ _ _ (fun j hj=> ?_) s d,qB d];rw[c] at hj;show(w.cell? _).isSome=true
      rw[show 0+i*2+j=0+(i*2+j) by omega,a _ (by omega),qB (by omega)];rfl
    rw[<-B];simp only[World.cell?,p];simp
   ·rw[jP (by rw[qQ];omega),jP (by rw[bA,b];omega)]
  ·exact nY (F:=fun x=>some g=some x) (nY (F:=fun x=>some g=some x) (Chg.ofBelow (qD _ w).drew _) rfl _ _) rfl _ _
theorem lQ{ops:Array Oper}{o:Oper}{a:Act}{W:World}{K:Act->World->Prop}{Q:Exit->Act->World->Prop}{E:Prop}(hgd:o.guard=none)(sO xO:Operand)(ho:o.op=.call { callee:=.builtin .append,args:=#[sO,xO],argTypes:=#[61,61] })(v:Value)(n:Nat)(l:List Pc)(x:Pc)(hs:a.eval sO=v)(h0:Nat)(hx:a.eval xO=.slice (some ⟨h0,0,none⟩) 1 1)(hn:l.length=n)(hlen:n+1<=1048576)(hown:RowP W v l)(hc0:W.heap[h0]? =some (.cells #[.int .i64 x.1,.string x.2] 118))(h:∀v' w',RowP w' v' (l++[x])->W.grownBy w' v.ownBlock->(v'.ownBlock=v.ownBlock\/v'.ownBlock=some W.heap.size)->K (a.put o.dst v') w'):
  if Region.wanted o (yielded ops a.tmps)=true then Oper.wp prog o a W K Q else E:=by
 have f:Region.wanted o (yielded ops a.tmps)=true:=by simp[Region.wanted,hgd]
 rw[if_pos f];obtain⟨g,i,b,c,d⟩:=info_parts aA4;have e:flatP [x]=[zI x.1,.string x.2]:=rfl
 obtain⟨v',w',k,m,p,_,q⟩:=run_append_own_at (P:=prog) W 0 61 o.type 118 g (.agg #[zI 0,.string ⟨#[]⟩]) 2 24 Tryz.underlying61 i b c d rfl (by decide) v l.length (flatP l) hown (zA h0) 1 1 (flatP [x]) rfl (by
  intro j u hu;rw[jU,qY];rw[e] at hu;exact aB hc0 (by simpa using hu)) (by
  intro u hu;rw[e] at hu;simp only[jD,vO,or_false] at hu;rcases hu with rfl | rfl<;>rfl) (by unfold maxLen;omega) (by omega) (jW _)
 unfold Oper.wp execOp;simp only[ho,resolve,invoke,builtin,jZ,vB,vU,xN,jY,vM,hs,hx,k];refine h v' w' ?_ p q;unfold RowP;rw[qE,bZ];exact m
end Hp
namespace Hv
open Go.WideShapes Oo
theorem aG3:prog.cellsOf 33=4:=by kernel_rfl
variable {H:Type}{W:World}{base fuel:Nat}{spare:Nat->Bool}{held:Bool}{cs:List Value}
theorem aAj{enc:TypeId × Value->H}{t:TypeId}{f0 f1 f2 f3:Field}{x:DataW H × List MemPlace}(ht:prog.underlying t=some (.struct #[f0,f1,f2,f3]))(h:DataW.trod enc prog W base spare held fuel t cs=some x):
  ∃y0 y1 y2 y3 n,cs.length=prog.cellsOf t/\DataW.trod enc prog W base spare held n f0.type ((cs.drop f0.offset).take (prog.cellsOf f0.type))=some y0/\
   DataW.trod enc prog W base spare held n f1.type ((cs.drop f1.offset).take (prog.cellsOf f1.type))=some y1/\DataW.trod enc prog W base spare held n f2.type ((cs.drop f2.offset).take (prog.cellsOf f2.type))=some y2/\
   DataW.trod enc prog W base spare held n f3.type ((cs.drop f3.offset).take (prog.cellsOf f3.type))=some y3:=by
 obtain⟨c,n,_,rfl,d,b,a⟩:=DataW.trod_struct ht h
 match c,b with
 | [y0,y1,y2,y3],_=>exact⟨y0,y1,y2,y3,n,d,by simpa using a 0 f0 rfl,by simpa using a 1 f1 rfl,by simpa using a 2 f2 rfl,by simpa using a 3 f3 rfl⟩
theorem aCY{enc:TypeId × Value->H}{x:DataW H × List MemPlace}(h:DataW.trod enc prog W base spare held fuel 33 cs=some x):
  ∃y:Ev,cs=[.int .i64 y.1,.int .i64 y.2.1,.int .i64 y.2.2.1,.int .i64 y.2.2.2]:=by
 obtain⟨q,r,s,t,n,f,g,i,j,k⟩:=aAj Tryz.underlying33 h
 rw[aG3] at f
 match cs,f with
 | [c0,c1,c2,c3],_=>
  simp only[aIX,yQ,List.drop_succ_cons,List.take_succ_cons,List.take_zero] at g i j k
  obtain⟨a,l,_,_⟩:=DataW.trod_int Tryz.underlying3 g
  obtain⟨b,m,_,_⟩:=DataW.trod_int Tryz.underlying3 i
  obtain⟨c,o,_,_⟩:=DataW.trod_int Tryz.underlying3 j
  obtain⟨d,p,_,_⟩:=DataW.trod_int Tryz.underlying3 k
  simp only[List.cons.injEq,and_true] at l m o p
  subst l m o p
  exact⟨(a,b,c,d),rfl⟩
theorem aGf{enc:TypeId × Value->H}{v:Value}{d:DataW H}{ps:List MemPlace}(hv:Value.okWide prog W .any base 22 v)(h:DataW.Trod enc prog W 0 (fun _=>true) true 22 v d ps):∃p c l,v=.slice p l.length c/\aC4 W p l/\l.length<=maxLen:=by
 obtain⟨M,f,s,rfl⟩:=okWide_slice Tryz.underlying22 hv;obtain⟨J,K⟩:=h;rcases Deep.open_slice Tryz.underlying22 K with⟨hcs,_⟩ | ⟨a,len,cap,m,n,D,Pl,hcs,_,hl,hm,hmm,hx,hel⟩
 ·simp[Value.cells] at hcs;obtain⟨rfl,rfl,rfl⟩:=hcs;exact⟨none,0,[],rfl,qH rfl,jW _⟩
 ·simp[Value.cells] at hcs;obtain⟨rfl,rfl,rfl⟩:=hcs;simp at hmm
  have t:∀i,i<f->∃y:Ev,W.cell? (a.add (i*4))=some (zI y.1)/\W.cell? (a.add (i*4+1))=some (zI y.2.1)/\W.cell? (a.add (i*4+2))=some (zI y.2.2.1)/\W.cell? (a.add (i*4+3))=some (zI y.2.2.2):=by
   intro i hi;obtain⟨cs',k,o⟩:=hel i (by omega);rw[aG3] at k;obtain⟨y,rfl⟩:=aCY o;obtain⟨_,_,q⟩:=World.cells?_some k;refine⟨y, ?_, ?_, ?_, ?_⟩
   ·have:=q 0 (by omega);rw[Deep.add_add,vL] at this;exact this
   ·have:=q 1 (by omega);rw[Deep.add_add] at this;exact this
   ·have:=q 2 (by omega);rw[Deep.add_add] at this;exact this
   ·have:=q 3 (by omega);rw[Deep.add_add] at this;exact this
  obtain⟨X,B⟩:=Deep.choose_lt (α :=Ev) t;have g:((List.range f).map X).length=f:=by simp
  refine⟨some a,s,(List.range f).map X,by rw[g], ?_,by rw[g];omega⟩;by_cases L:f=0
  ·left;rw[L];rfl
  ·right;obtain⟨b,C,z⟩:=a;have E:=(B 0 (by omega)).1;have r:z=none:=by simpa[Addr.add] using World.cell?_spot E
   subst r;refine⟨b,C,rfl,fun j hj=> ?_⟩;rw[g] at hj
   have e:((List.range f).map X).getD j (0,0,0,0)=X j:=by
    rw[qA,qT,yG hj];rfl
   rw[e];obtain⟨k,o,F,G⟩:=B j hj;rw[jU] at k o F G;exact⟨k,o,F,G⟩
end Hv
end Go.Proofs.YtjcemlmlfoilmaaGreatDoor
