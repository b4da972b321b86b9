import Derived.Test.YtjcemlmlfoilmaaGreatDoorH3
import Derived.Test.YtjcemlmlfoilmaaGreatDoorN2
set_option linter.unusedSimpArgs false
set_option linter.unusedVariables false
set_option maxRecDepth 100000
set_option maxHeartbeats 8000000
namespace Go.Proofs.YtjcemlmlfoilmaaGreatDoor
open Oi Hm Ia Hc Hd Hi Hj
namespace Gp
open Ie
abbrev Pc:=Nat × ByteArray
def pz:Pc:=(0,⟨#[]⟩)
def cellsP (x:Pc):List Value:=[.int .i64 x.1,.string x.2]
def flatP (l:List Pc):List Value:=l.flatMap cellsP
theorem bZ(a b:List Pc):flatP (a++b)=flatP a++flatP b:=by unfold flatP;rw[vA]
theorem bA:∀l:List Pc,(flatP l).length=l.length*2
 | []=>rfl
 | x::l=>by
  have e:flatP (x::l)=cellsP x++flatP l:=rfl
  rw[e,qE,bA l,qV]
  show 2+_=_
  omega
theorem fS:∀(l:List Pc) (j:Nat),j<l.length->∀i u,(cellsP (l.getD j pz))[i]? =some u->(flatP l)[j*2+i]? =some u
 | [],j,h,_,_,_=>absurd h (Nat.not_lt_zero j)
 | x::l,0,h,i,u,hu=>by
  have e:flatP (x::l)=cellsP x++flatP l:=rfl
  have hu2:(cellsP x)[i]? =some u:=hu
  rw[e,Nat.zero_mul,qY,xS (jK.1 hu2).1]
  exact hu2
 | x::l,j+1,h,i,u,hu=>by
  have e:flatP (x::l)=cellsP x++flatP l:=rfl
  have hl:(cellsP x).length=2:=rfl
  rw[e,jG (by rw[hl];omega),hl,show(j+1)*2+i-2=j*2+i by omega]
  exact fS l j (by simpa using h) i u hu
theorem pG(l:List Pc):∀u ∈ flatP l,u.oneCell'=true:=by
 intro u hu;unfold flatP at hu;obtain⟨x,_,a⟩:=kN.1 hu;unfold cellsP at a;simp only[jD,vO,or_false] at a;rcases a with rfl | rfl<;>rfl
def RowP (w:World) (v:Value) (l:List Pc):Prop:=w.ownsRow 0 70 2 v l.length (flatP l)
def ptrs (n:Nat) (E:Nat→Nat):List Value:=(List.range n).map fun i=>ptr (E i)
theorem pP(n:Nat)(E:Nat->Nat)(D:Nat):ptrs (n+1) (upd E n D)=ptrs n E++[ptr D]:=by
 unfold ptrs;rw[yV,xL];congr 1
 ·apply kD;intro i hi;rw[bL _ _ (by have:=vW.1 hi;omega)]
 ·show[ptr (upd E n D n)]=_
  rw[bU]
theorem zN{n:Nat}{E:Nat->Nat}{i:Nat}(h:i<n):(ptrs n E)[i]? =some (ptr (E i)):=by
 unfold ptrs;rw[qT,yG h];rfl
def RowE (w:World) (v:Value) (n:Nat) (E:Nat→Nat):Prop:=w.ownsRow 0 53 1 v n (ptrs n E)
abbrev NtB (w:World) (X:Nat) (vd vu:Value):Prop:=w.heap[X]? =some (.cells #[vd,vu] 39)
structure NAt (w:World) (X:Nat) (vd vu:Value) (N:Nt) (E:Nat→Nat) (Fd:Nat→Nat→Prop):Prop where
 blk:NtB w X vd vu
 rd:RowE w vd N.ds.length E
 ru:RowP w vu N.us
 docs:Rowd aFh w N.ds.length E (dq N) Fd
 off:¬All N.ds.length Fd X
 ofd:∀g,vd.ownBlock=some g→¬All N.ds.length Fd g
 ofu:∀g,vu.ownBlock=some g→¬All N.ds.length Fd g
 few:N.ds.length≤4
 sz:∀p ∈ N.us,p.2.size≤maxLen
def Fs (X:Nat) (vd vu:Value) (n:Nat) (Fd:Nat→Nat→Prop) (g:Nat):Prop:=g=X∨vd.ownBlock=some g∨vu.ownBlock=some g∨All n Fd g
def At (w:World) (X:Nat) (N:Nt) (F:Nat→Prop):Prop:=∃vd vu E Fd,NAt w X vd vu N E Fd∧∀g,F g↔Fs X vd vu N.ds.length Fd g
theorem kind_ne{w:World}{base z n:Nat}{t s:TypeId}{v:Value}{xs:List Value}(h:w.ownsRow base t z v n xs){X:Nat}{cs:Array Value}{f:Nat × Nat}(hX:w.heap[X]? =some (.cells cs s f))(ht:t≠s):∀g,v.ownBlock=some g->g≠X:=fun g hg e=>by
 obtain⟨_,cur,hc⟩:=aL h g hg
 rw[e,hX] at hc
 injection hc with hc
 injection hc with _ hc _
 exact ht hc.symm
theorem uF{w:World}{base z n base' z' n':Nat}{t s:TypeId}{v u:Value}{xs ys:List Value}(h:w.ownsRow base t z v n xs)(h':w.ownsRow base' s z' u n' ys)(ht:t≠s):∀g,v.ownBlock=some g->u.ownBlock≠some g:=fun g hg e=>by
 obtain⟨_,cur,hc⟩:=aL h' g e
 exact kind_ne h hc ht g hg rfl
section
variable {w w' : World} {X : Nat} {vd vu : Value} {N : Nt} {E : Nat → Nat} {Fd : Nat → Nat → Prop} {F : Nat → Prop}
theorem NAt.oM(h:NAt w X vd vu N E Fd):X<w.heap.size:=(qG.1 h.blk).1
theorem NAt.lt(h:NAt w X vd vu N E Fd):∀g,Fs X vd vu N.ds.length Fd g->g<w.heap.size:=by
 rintro g (e | e | e | e)
 ·rw[e];exact h.oM
 ·exact(aL h.rd g e).1
 ·exact(aL h.ru g e).1
 ·exact h.docs.lt g e
theorem NAt.stay(h:NAt w X vd vu N E Fd)(hs:Stay (Fs X vd vu N.ds.length Fd) w w')(hz:w.heap.size<=w'.heap.size):NAt w' X vd vu N E Fd:=
 ⟨by unfold NtB;rw[hs X (qH rfl)];exact h.blk,aP h.rd fun g e=>hs g (qF (qH e)),aP h.ru fun g e=>hs g (qF (qF (qH e))),h.docs.stay (fun g e=>hs g (qF (qF (qF e)))) hz,h.off,h.ofd,h.ofu,h.few,h.sz⟩
theorem NAt.below(h:NAt w X vd vu N E Fd)(hb:zB w w'):NAt w' X vd vu N E Fd:=h.stay (fun g hg=>hb.block g (h.lt g hg)) hb.size
theorem At.lt(h:At w X N F):∀g,F g->g<w.heap.size:=by obtain⟨vd,vu,E,Fd,m,hF⟩:=h;exact fun g hg=>m.lt g ((hF g).1 hg)
theorem At.stay(h:At w X N F)(hs:Stay F w w')(hz:w.heap.size<=w'.heap.size):At w' X N F:=by
 obtain⟨b,c,E,d,m,a⟩:=h;exact⟨b,c,E,d,m.stay (fun g hg=>hs g ((a g).2 hg)) hz,a⟩
theorem At.below(h:At w X N F)(hb:zB w w'):At w' X N F:=h.stay (fun g hg=>hb.block g (h.lt g hg)) hb.size
theorem NAt.dX(h:NAt w X vd vu N E Fd):∀g,vd.ownBlock=some g->g≠X:=kind_ne h.rd h.blk (by decide)
theorem NAt.uX(h:NAt w X vd vu N E Fd):∀g,vu.ownBlock=some g->g≠X:=kind_ne h.ru h.blk (by decide)
theorem NAt.du(h:NAt w X vd vu N E Fd):∀g,vd.ownBlock=some g->vu.ownBlock≠some g:=uF h.rd h.ru (by decide)
end
def Left' (w:World) (X:Nat) (F:Nat→Prop) (N':Nt) (w':World):Prop:=∃F',At w' X N' F'∧Chg F w w'∧∀g,F' g→F g∨w.heap.size≤g
theorem bS{w w':World}{X:Nat}{F:Nat->Prop}{N:Nt}(h:At w X N F)(hb:zB w w'):Left' w X F N w':=⟨F,h.below hb,Chg.ofBelow hb F,fun g e=>qH e⟩
theorem Left'.first{w w1 w':World}{X:Nat}{F:Nat->Prop}{N:Nt}(hb:zB w w1)(h:Left' w1 X F N w'):Left' w X F N w':=by
 obtain⟨F',a,b,c⟩:=h;exact⟨F',a,(Chg.ofBelow hb F).trans b,fun g hg=>(c g hg).imp id fun e=>qO hb.size e⟩
theorem Left'.then{w w1 w':World}{X:Nat}{F:Nat->Prop}{N:Nt}(h:Left' w X F N w1)(hb:zB w1 w'):Left' w X F N w':=by
 obtain⟨F',a,b,c⟩:=h;exact⟨F',a.below hb,b.trans (Chg.ofBelow hb F),c⟩
theorem dM{w w':World}{X:Nat}{F:Nat->Prop}{vd vu vd' vu':Value}{N N':Nt}{E':Nat->Nat}{Fd Fd':Nat->Nat->Prop}(hF:∀g,F g↔Fs X vd vu N.ds.length Fd g)(h:NAt w' X vd' vu' N' E' Fd')(hc:Chg (Fs X vd vu N.ds.length Fd) w w')(hl:∀g,Fs X vd' vu' N'.ds.length Fd' g->Fs X vd vu N.ds.length Fd g\/w.heap.size<=g):Left' w X F N' w':=
 ⟨Fs X vd' vu' N'.ds.length Fd',⟨vd',vu',E',Fd',h,fun g=>Iff.rfl⟩,hc.mono fun g e=>(hF g).2 e,fun g e=>(hl g e).imp (hF g).2 id⟩
theorem fU{N:Nt}{i j:Nat}(T:Dq)(hi:i<N.ds.length):dq { N with ds:=N.ds.set i T } j=upd (dq N) i T j:=by
 unfold dq upd;show(N.ds.set i T).getD j d0=_
 rw[qA,List.getElem?_set];by_cases h:i=j
 ·subst h;rw[if_pos rfl,if_pos hi,if_pos rfl];rfl
 ·rw[if_neg h,if_neg (Ne.symm h)];exact(qA ..).symm
theorem wY{N:Nt}{j:Nat}(T:Dq)(hj:j<N.ds.length+1):dq { N with ds:=N.ds++[T] } j=upd (dq N) N.ds.length T j:=by
 unfold dq upd;show(N.ds++[T]).getD j d0=_
 rw[qA];by_cases h:j=N.ds.length
 ·subst h;rw[if_pos rfl,jG (qC _),Nat.sub_self];rfl
 ·rw[if_neg h,xS (by omega)];exact(qA ..).symm
theorem NAt.aAH{w w':World}{X:Nat}{vd vu:Value}{N:Nt}{E:Nat->Nat}{Fd:Nat->Nat->Prop}(h:NAt w X vd vu N E Fd){i:Nat}(hi:i<N.ds.length){T:Dq}{G:Nat->Prop}(hA:RefD w' (E i) T G)(hc:Chg (Fd i) w w')(hG:∀g,G g->Fd i g\/w.heap.size<=g):
  NAt w' X vd vu { N with ds:=N.ds.set i T } E (upd Fd i G)/\Chg (Fs X vd vu N.ds.length Fd) w w'/\∀g,Fs X vd vu (N.ds.set i T).length (upd Fd i G) g->Fs X vd vu N.ds.length Fd g\/w.heap.size<=g:=by
 have c:(N.ds.set i T).length=N.ds.length:=jN;have b:=Rowd.aBt (w:=w) (F:=Fd) hi hG;refine⟨⟨?_, ?_, ?_, ?_, ?_, ?_, ?_, ?_,h.sz⟩,hc.mono fun g e=>qF (qF (qF ⟨i,hi,e⟩)), ?_⟩
 ·unfold NtB;rw[hc.block X h.oM (fun e=>h.off ⟨i,hi,e⟩)];exact h.blk
 ·show RowE w' vd (N.ds.set i T).length E
  rw[c];exact aP h.rd fun g e=>hc.block g (aL h.rd g e).1 (fun e2=>h.ofd g e ⟨i,hi,e2⟩)
 ·exact aP h.ru fun g e=>hc.block g (aL h.ru g e).1 (fun e2=>h.ofu g e ⟨i,hi,e2⟩)
 ·show Rowd aFh w' (N.ds.set i T).length E _ _
  rw[c];exact(h.docs.aAH (K:=aFh) hi hA hc hG).same (fun _ _=>rfl) (fun j hj=>fU T hi)
 ·show¬All (N.ds.set i T).length _ X
  rw[c];intro e;rcases b X e with e | e
  ·exact h.off e
  ·have:=h.oM;omega
 ·intro g hg;show¬All (N.ds.set i T).length _ g
  rw[c];intro e;rcases b g e with e | e
  ·exact h.ofd g hg e
  ·have:=(aL h.rd g hg).1;omega
 ·intro g hg;show¬All (N.ds.set i T).length _ g
  rw[c];intro e;rcases b g e with e | e
  ·exact h.ofu g hg e
  ·have:=(aL h.ru g hg).1;omega
 ·show(N.ds.set i T).length<=4
  rw[c];exact h.few
 ·rw[c];rintro g (e | e | e | e)
  ·exact qH (qH e)
  ·exact qH (qF (qH e))
  ·exact qH (qF (qF (qH e)))
  ·rcases b g e with e | e
   ·exact qH (qF (qF (qF e)))
   ·exact qF e
theorem NAt.sC{w w1:World}{X:Nat}{vd vu vu':Value}{N:Nt}{E:Nat->Nat}{Fd:Nat->Nat->Prop}{us':List Pc}(h:NAt w X vd vu N E Fd)(hc:Chg (fun g=>vu.ownBlock=some g) w w1)(hr:RowP w1 vu' us')(hl:∀g,vu'.ownBlock=some g->vu.ownBlock=some g\/w.heap.size<=g)(hs:∀p ∈ us',p.2.size<=maxLen):
  NAt (w1.setCell ⟨X,1,none⟩ vu') X vd vu' { N with us:=us' } E Fd/\Chg (Fs X vd vu N.ds.length Fd) w (w1.setCell ⟨X,1,none⟩ vu')/\∀g,Fs X vd vu' N.ds.length Fd g->Fs X vd vu N.ds.length Fd g\/w.heap.size<=g:=by
 have b:NtB w1 X vd vu:=by unfold NtB;rw[hc.block X h.oM (fun e=>h.uX X e rfl)];exact h.blk
 have c:Chg (Fs X vd vu N.ds.length Fd) w (w1.setCell ⟨X,1,none⟩ vu'):=Chg.setCell (F:=Fs X vd vu N.ds.length Fd) (hc.mono fun g e=>qF (qF (qH e))) (p:=⟨X,1,none⟩) (qH rfl) _;refine⟨⟨?_, ?_, ?_, ?_,h.off,h.ofd, ?_,h.few,hs⟩,c, ?_⟩
 ·unfold NtB;rw[set_heap b];rfl
 ·exact aP h.rd fun g e=>by
   rw[set_block _ _ _ _ (h.dX g e)];exact hc.block g (aL h.rd g e).1 (h.du g e)
 ·exact aP hr fun g e=>set_block _ _ _ _ (kind_ne hr b (by decide) g e)
 ·refine h.docs.stay (fun g e=> ?_) c.size;rw[set_block _ _ _ _ (fun e9:g=X=>h.off (e9▸e))];exact hc.block g (h.docs.lt g e) (fun e2=>h.ofu g e2 e)
 ·intro g hg e;rcases hl g hg with e2 | e2
  ·exact h.ofu g e2 e
  ·have:=h.docs.lt g e;omega
 ·rintro g (e | e | e | e)
  ·exact qH (qH e)
  ·exact qH (qF (qH e))
  ·rcases hl g e with e | e
   ·exact qH (qF (qF (qH e)))
   ·exact qF e
  ·exact qH (qF (qF (qF e)))
theorem NAt.push{w w2 w3:World}{X:Nat}{vd vd' vu:Value}{N:Nt}{E:Nat->Nat}{Fd:Nat->Nat->Prop}{D:Nat}{T:Dq}{G:Nat->Prop}(h:NAt w X vd vu N E Fd)(hb:zB w w2)(hD:RefD w2 D T G)(hG:∀g,G g->w.heap.size<=g)(hc:Chg (fun g=>vd.ownBlock=some g) w2 w3)(hr:RowE w3 vd' (N.ds.length+1) (upd E N.ds.length D))(hl:∀g,vd'.ownBlock=some g->vd.ownBlock=some g\/w2.heap.size<=g)(hk:N.ds.length+1<=4):
  NAt (w3.setCell ⟨X,0,none⟩ vd') X vd' vu { N with ds:=N.ds++[T] } (upd E N.ds.length D) (upd Fd N.ds.length G):=by
 have p:=h.oM;have d:=h.below hb;have i:(N.ds++[T]).length=N.ds.length+1:=by rw[qE];rfl
 have k:NtB w3 X vd vu:=by unfold NtB;rw[hc.block X d.oM (fun e=>d.dX X e rfl)];exact d.blk
 have c:=h.docs.push (K:=aFh) hb hD hG
 have f:∀g,All (N.ds.length+1) (upd Fd N.ds.length G) g->All N.ds.length Fd g\/w.heap.size<=g:=by
  rintro g ⟨j,n,b⟩;by_cases e:j=N.ds.length
  ·subst e;rw[bU] at b;exact qF (hG g b)
  ·rw[bL _ _ e] at b;exact qH ⟨j,by omega,b⟩
 have l:∀g,vd.ownBlock=some g->¬All (N.ds.length+1) (upd Fd N.ds.length G) g:=fun g b e=>by
  rcases f g e with e | e
  ·exact h.ofd g b e
  ·have:=(aL h.rd g b).1;omega
 have m:¬All (N.ds.length+1) (upd Fd N.ds.length G) X:=fun e=>by
  rcases f X e with e | e
  ·exact h.off e
  ·omega
 refine⟨?_, ?_, ?_, ?_, ?_, ?_, ?_, ?_,h.sz⟩
 ·unfold NtB;rw[set_heap k];rfl
 ·show RowE _ vd' (N.ds++[T]).length _
  rw[i];exact aP hr fun g e=>set_block _ _ _ _ (kind_ne hr k (by decide) g e)
 ·exact aP d.ru fun g e=>by
   rw[set_block _ _ _ _ (d.uX g e)];exact hc.block g (aL d.ru g e).1 (fun e2=>d.du g e2 e)
 ·show Rowd aFh _ (N.ds++[T]).length _ _ _
  rw[i];refine Rowd.same (c.stay (fun g e=> ?_) (by rw[set_size];exact hc.size)) (fun _ _=>rfl) (fun j n=>wY T n);rw[set_block _ _ _ _ (fun e9:g=X=>m (e9▸e))];exact hc.block g (c.lt g e) (fun e2=>l g e2 e)
 ·show¬All (N.ds++[T]).length _ X
  rw[i];exact m
 ·intro g b;show¬All (N.ds++[T]).length _ g
  rw[i];rcases hl g b with e | e
  ·exact l g e
  ·intro e2;have:=c.lt g e2;omega
 ·intro g b;show¬All (N.ds++[T]).length _ g
  rw[i];intro e;rcases f g e with e | e
  ·exact h.ofu g b e
  ·have:=(aL h.ru g b).1;omega
 ·show(N.ds++[T]).length<=4
  rw[i];exact hk
theorem NAt.fC{w:World}{X:Nat}{vd vu:Value}{N:Nt}{E:Nat->Nat}{Fd:Nat->Nat->Prop}(h:NAt w X vd vu N E Fd):∃p c,vd=.slice p N.ds.length c/\N.ds.length<=c/\c<=maxLen/\(0<N.ds.length->∃g,p=some ⟨g,0,none⟩/\∀i,i<N.ds.length->w.cell? ⟨g,i,none⟩=some (ptr (E i))):=by
 rcases h.rd.2 with⟨e,e0⟩ | ⟨g,cap,cur,h1,h2,h3,h4,h5,h6,h7⟩
 ·exact⟨none,0,by rw[e,e0],by omega,jW _,fun a=>by omega⟩
 ·refine⟨_,cap,h1,h4,h5,fun _=>⟨g,rfl,fun i hi=> ?_⟩⟩;have a:=World.ownsRow.cells h.rd (g:=g) (by rw[h1];rfl) i _ (zN hi);rw[jU,qY] at a;exact a
theorem NAt.fJ{w:World}{X:Nat}{vd vu:Value}{N:Nt}{E:Nat->Nat}{Fd:Nat->Nat->Prop}(h:NAt w X vd vu N E Fd):∃p c,vu=.slice p N.us.length c/\N.us.length<=c/\c<=maxLen/\(0<N.us.length->∃g,p=some ⟨g,0,none⟩/\∀i,i<N.us.length->w.cell? ⟨g,i*2,none⟩=some (.int .i64 (N.us.getD i pz).1)/\w.cell? ⟨g,i*2+1,none⟩=some (.string (N.us.getD i pz).2)):=by
 rcases h.ru.2 with⟨e,e0⟩ | ⟨g,cap,cur,h1,h2,h3,h4,h5,h6,h7⟩
 ·exact⟨none,0,by rw[e,e0],by omega,jW _,fun a=>by omega⟩
 ·refine⟨_,cap,h1,h4,h5,fun _=>⟨g,rfl,fun i hi=>⟨?_, ?_⟩⟩⟩
  ·have a:=World.ownsRow.cells h.ru (g:=g) (by rw[h1];rfl) _ _ (fS N.us i hi 0 _ rfl);rw[jU,qY,vL] at a;exact a
  ·have a:=World.ownsRow.cells h.ru (g:=g) (by rw[h1];rfl) _ _ (fS N.us i hi 1 _ rfl);rw[jU,qY] at a;exact a
end Gp
namespace Gq
open Go.RowKit Cm Oz Ic Gp
open La (bel)
theorem tD:(Tryz.prog.info? 53).map (fun i=>(i.zero,i.size,i.bytes))=some (some (.pointer none),1,8):=by kernel_rfl
theorem aF2(w:World):Calls Tryz.prog 21 #[] w fun e w'=>∃E F,e=.returned (ptr E)/\RefD w' E d0 F/\(∀g,F g->w.heap.size<=g)/\zB w w':=by
 refine(Xq.aHr (fun _=>False) w (fun g h=>h.elim)).mono ?_;rintro e w' ⟨E,F,a,b,c,d⟩;exact⟨E,F,a,⟨_,F,b,fun g=>⟨qH,fun e=>e.elim id False.elim⟩⟩,c,d⟩
theorem aHp(w:World)(D:Nat):∀j y,[ptr D][j]? =some y->(w.alloc (.cells #[ptr D] 53)).cell? ((⟨w.heap.size,0,none⟩:Addr).add j)=some y:=by
 intro j y hu;rw[jU,qY];simp only[World.cell?,(heap_alloc_new w (.cells #[ptr D] 53))];simpa using hu
def Mk (w:World) (X k:Nat) (wr:World):Prop:=∃vd E Fd,NAt wr X vd (.slice none 0 0) (nw k) E Fd∧(∀g,Fs X vd (.slice none 0 0) k Fd g→w.heap.size≤g)∧Below w.heap.size w wr
theorem xI{w wr w2 W w9:World}{X k c D:Nat}{p:Option Addr}{E:Nat->Nat}{Fd:Nat->Nat->Prop}{G:Nat->Prop}{v9:Value}(m:NAt wr X (.slice p k c) (.slice none 0 0) (nw k) E Fd)(hfs:∀g,Fs X (.slice p k c) (.slice none 0 0) k Fd g->w.heap.size<=g)(hbw:zB w wr)(hk:k+1<=4)(hb2:zB wr w2)(hd:RefD w2 D d0 G)(hG:∀g,G g->wr.heap.size<=g)(hbW:zB w2 W)(hr:RowE w9 v9 (k+1) (upd E k D))(hg:W.grownBy w9 (Value.slice p k c).ownBlock)(hl:v9.ownBlock=(Value.slice p k c).ownBlock\/v9.ownBlock=some W.heap.size):
  w9.cell? ⟨X,0,none⟩=some (.slice p k c)/\w9.frozen? ⟨X,0,none⟩=false/\Mk w X (k+1) (w9.setCell ⟨X,0,none⟩ v9):=by
 have b:=bel hb2 hbW;have h:=m.below b;have d:=(hg.block X h.oM (fun e=>h.dX X e.symm rfl)).trans h.blk;have l:=Chg.grown hg fun g e=>e
 have n:=m.push (N:=nw k) b (hd.stay (fun g hg=>hbW.block g (hd.lt g hg)) hbW.size) hG l (by rw[Hz.nw_len];exact hr) (fun g e=>by
  rcases hl with e2 | e2
  ·left;rw[<-e2];exact e
  ·right;rw[e] at e2;injection e2 with e2;omega) (by rw[Hz.nw_len];exact hk)
 rw[Hz.aDH,Hz.nw_len] at n;have o:=hfs X (qH rfl)
 have j:∀g,v9.ownBlock=some g->w.heap.size<=g:=fun g e=>by
  rcases hl with e2 | e2
  ·exact hfs g (qF (qH (by rw[<-e2];exact e)))
  ·rw[e] at e2;injection e2 with e2;have:=(bel hbw b).size;omega
 refine⟨aB d (i:=0) rfl,aF d (i:=0),v9,_,_,n, ?_, ?_⟩
 ·rintro g (e | e | e | ⟨i,q,e⟩)
  ·rw[e];exact o
  ·exact j g e
  ·cases e
  ·by_cases f:i=k
   ·subst f;rw[bU] at e;have:=hG g e;have:=hbw.size;omega
   ·rw[bL _ _ f] at e;exact hfs g (qF (qF (qF ⟨i,by omega,e⟩)))
 ·exact(l.below (fun g e=>hfs g (qF (qH e))) (bel hbw b) (bel hbw b).size).setCell (p:=(zA X)) o _
theorem aCz(n:Nat)(w:World)(h4:n<=4):Calls Tryz.prog 6 #[.int .i64 n] w fun e w'=>∃X F,e=.returned (ptr X)/\At w' X (nw n) F/\(∀g,F g->w.heap.size<=g)/\zB w w':=by
 obtain⟨V,A,B,H,I⟩:=info_parts tD;go_in;go_wp2_with fail;go_loopw [4] (fun i wr=>∃k:Nat,k<=n/\i=zI k/\Hid (Mk w w.heap.size k wr)) (fun i _=>n-(intOf i).toNat)
 case atStart=>
  refine⟨0,by omega,rfl,zS,fun _=>0,fun _ _=>False,⟨heap_alloc_new w _,⟨rfl,qH ⟨rfl,rfl⟩⟩,⟨rfl,qH ⟨rfl,rfl⟩⟩,Rowd.none _ _ _ _ _,fun ⟨i,s,_⟩=>absurd s (Nat.not_lt_zero i),fun g hg=>by(cases hg),fun g hg=>by(cases hg),by rw[Hz.nw_len];omega,fun p hp=>by(cases hp)⟩, ?_,(qD _ w).alloc (qC _) _⟩;rintro g (e | e | e | ⟨i,s,_⟩)
  ·omega
  ·cases e
  ·cases e
  ·exact absurd s (Nat.not_lt_zero i)
 case round=>
  obtain⟨k,hk,rfl,t⟩:=hrel;by_cases aa:k<n
  ·have v:(k:Int)<n:=by omega
   obtain⟨J,E,K,m,d,f⟩:=t.out;obtain⟨p,c,rfl,_⟩:=m.fC;rw[Hz.nw_len] at m d;have y:=Hid.mk' m;have L:=Hid.mk' d;have M:=Hid.mk' f;have C:=aF2 wr;have N:k+1<=4:=by omega
   clear m d f t;go_wp2_with fail;refine C.mono ?_;rintro e w2 ⟨D,G,rfl,j,l,h⟩;have x0:=aA h (aB y.out.blk (i:=0) (u:=.slice p k c) rfl);have P:=Hid.mk' h;have o:Hid (RefD w2 D d0 G/\∀g,G g->wr.heap.size<=g):=⟨j,l⟩;have q:Hid (zB w2 (w2.alloc (.cells #[ptr D] 53))):=(qD _ w2).alloc (qC _) _
   have Q:Hid ((w2.alloc (.cells #[ptr D] 53)).ownsRow 0 53 1 (.slice p k c) k (ptrs k E)):=by
    have R:=(y.out.below (bel h q.out)).rd;rw[Hz.nw_len] at R;exact R
   have S:=Hid.mk' (aHp w2 D);clear j l h C;go_wp2_with (at_builtin;refine wpList_append_own_at _ rfl (.tmp 18) (.tmp 20) 36 rfl 0 53 V (.pointer none) 1 8 Tryz.underlying36 A B H I rfl (by decide) (.slice p k c) k (ptrs k E) rfl Q.out (zW w2) 1 1 [ptr D] rfl rfl S.out (fun u hu=>by obtain rfl:=qP.1 hu;exact rfl) (by unfold maxLen;omega) (by omega) (jW _) ?_;intro v' w1 hown' hgrow _ hat;obtain⟨p9,n9,c9,rfl,_⟩:=aG hown';obtain⟨q9,ad,r⟩:=xI y.out L.out M.out N P.out o.out.1 o.out.2 q.out (by unfold RowE;rw[pP];exact hown') hgrow hat;have T:=Hid.mk' r;clear hown' hgrow hat r);go_roundw
   case rel=>exact⟨k+1,by omega,by go_num,T⟩
   case measure=>simp[intOf];omega
  ·obtain rfl:k=n:=by omega
   have v:¬(k:Int)<k:=by omega
   go_wp2_with fail;go_ret;obtain⟨J,E,K,m,d,f⟩:=t.out;exact⟨w.heap.size,rfl,Fs w.heap.size J (zS) (nw k).ds.length K,⟨_,_,_,_,m,fun g=>Iff.rfl⟩,by rw[Hz.nw_len];exact d,f⟩
end Gq
end Go.Proofs.YtjcemlmlfoilmaaGreatDoor
