import Derived.Test.YtlmdchpbpgcfmaaGreatDoorH1
import Derived.Test.YtlmdchpbpgcfmaaGreatDoorJ13
import Derived.Deep.RegionLaw
import Derived.Deep.RegionHeld3
import Derived.Test.YtlmdchpbpgcfmaaGreatDoorJ6
import Derived.Laws.IdiomCopy
import Derived.Deep.MidRow
import Derived.Lib.SliceRun
import Derived.Deep.Upon
import Derived.Test.YtlmdchpbpgcfmaaGreatDoorA0
import Derived.Test.YtlmdchpbpgcfmaaGreatDoorJ10
set_option linter.unusedSimpArgs false
set_option linter.unusedVariables false
set_option maxRecDepth 100000
set_option maxHeartbeats 8000000
/- Package net: a net in memory: its block, its docs in a row, its parcels in a row. -/
namespace Go.Proofs.YtlmdchpbpgcfmaaGreatDoor
namespace Hl
open Go.ChangeShapes Go.WideShapes Go.ChangeAt Go.RowKit Cm Ka Kb Na Om Oa Oz Oc Og Oi Hm Ia Ic Ie Aa Hc Hd Hi
open La (bel bel_drew errV_zero errV_ne own_ge own_grow own_below Lies)
abbrev Pc:=Nat × ByteArray
def pz:Pc:=(0,⟨#[]⟩)
def cellsP (x:Pc):List Value:=[.int .i64 x.1,.string x.2]
def flatP (l:List Pc):List Value:=l.flatMap cellsP
theorem flatP_append (a b:List Pc):flatP (a++b)=flatP a++flatP b:=by unfold flatP;rw[List.flatMap_append]
theorem flatP_length:∀l:List Pc,(flatP l).length=l.length*2
 | []=>rfl
 | x::l=>by
  have e:flatP (x::l)=cellsP x++flatP l:=rfl
  rw[e,List.length_append,flatP_length l,List.length_cons]
  show 2+_=_
  omega
theorem flatP_at:∀(l:List Pc) (j:Nat),j<l.length→∀i u,(cellsP (l.getD j pz))[i]? =some u→(flatP l)[j*2+i]? =some u
 | [],j,h,_,_,_=>absurd h (Nat.not_lt_zero j)
 | x::l,0,h,i,u,hu=>by
  have e:flatP (x::l)=cellsP x++flatP l:=rfl
  have hu2:(cellsP x)[i]? =some u:=hu
  rw[e,Nat.zero_mul,Nat.zero_add,List.getElem?_append_left (List.getElem?_eq_some_iff.1 hu2).1]
  exact hu2
 | x::l,j+1,h,i,u,hu=>by
  have e:flatP (x::l)=cellsP x++flatP l:=rfl
  have hl:(cellsP x).length=2:=rfl
  rw[e,List.getElem?_append_right (by rw[hl];omega),hl,show(j+1)*2+i-2=j*2+i by omega]
  exact flatP_at l j (by simpa using h) i u hu
theorem flatP_one (l:List Pc):∀u ∈ flatP l,u.oneCell'=true:=by
 intro u hu
 unfold flatP at hu
 obtain⟨x,_,hx⟩:=List.mem_flatMap.1 hu
 unfold cellsP at hx
 simp only[List.mem_cons,List.not_mem_nil,or_false] at hx
 rcases hx with rfl | rfl<;>rfl
def RowP (w:World) (v:Value) (l:List Pc):Prop:=w.ownsRow 0 145 2 v l.length (flatP l)
def ptrs (n:Nat) (E:Nat→Nat):List Value:=(List.range n).map fun i=>ptr (E i)
theorem ptrs_push (n:Nat) (E:Nat→Nat) (D:Nat):ptrs (n+1) (upd E n D)=ptrs n E++[ptr D]:=by
 unfold ptrs
 rw[List.range_succ,List.map_append]
 congr 1
 ·apply List.map_congr_left
  intro i hi
  rw[upd_other _ _ (by have:=List.mem_range.1 hi;omega)]
 ·show[ptr (upd E n D n)]=_
  rw[upd_same]
theorem ptrs_at {n:Nat} {E:Nat→Nat} {i:Nat} (h:i<n):(ptrs n E)[i]? =some (ptr (E i)):=by
 unfold ptrs
 rw[List.getElem?_map,List.getElem?_range h]
 rfl
def RowE (w:World) (v:Value) (n:Nat) (E:Nat→Nat):Prop:=w.ownsRow 0 40 1 v n (ptrs n E)
abbrev NtB (w:World) (X:Nat) (vd vu:Value):Prop:=w.heap[X]? =some (.cells #[vd,vu] 88)
structure NAt (w:World) (X:Nat) (vd vu:Value) (N:Nt) (E:Nat→Nat) (Fd:Nat→Nat→Prop):Prop where
 blk:NtB w X vd vu
 rd:RowE w vd N.ds.length E
 ru:RowP w vu N.us
 docs:Rowd docK w N.ds.length E (dq N) Fd
 off:¬All N.ds.length Fd X
 ofd:∀g,vd.ownBlock=some g→¬All N.ds.length Fd g
 ofu:∀g,vu.ownBlock=some g→¬All N.ds.length Fd g
 few:N.ds.length≤4
 sz:∀p ∈ N.us,p.2.size≤maxLen
def Fs (X:Nat) (vd vu:Value) (n:Nat) (Fd:Nat→Nat→Prop) (g:Nat):Prop:=g=X∨vd.ownBlock=some g∨vu.ownBlock=some g∨All n Fd g
def At (w:World) (X:Nat) (N:Nt) (F:Nat→Prop):Prop:=∃vd vu E Fd,NAt w X vd vu N E Fd∧∀g,F g↔Fs X vd vu N.ds.length Fd g
/- blocks of other kinds are other blocks -/
theorem kind_ne {w:World} {base z n:Nat} {t s:TypeId} {v:Value} {xs:List Value} (h:w.ownsRow base t z v n xs) {X:Nat} {cs:Array Value} {f:Nat × Nat} (hX:w.heap[X]? =some (.cells cs s f)) (ht:t≠s):∀g,v.ownBlock=some g→g≠X:=fun g hg e=>by
 obtain⟨_,cur,hc⟩:=own_lt h g hg
 rw[e,hX] at hc
 injection hc with hc
 injection hc with _ hc _
 exact ht hc.symm
theorem kind_off {w:World} {base z n base' z' n':Nat} {t s:TypeId} {v u:Value} {xs ys:List Value} (h:w.ownsRow base t z v n xs) (h':w.ownsRow base' s z' u n' ys) (ht:t≠s):∀g,v.ownBlock=some g→u.ownBlock≠some g:=fun g hg e=>by
 obtain⟨_,cur,hc⟩:=own_lt h' g e
 exact kind_ne h hc ht g hg rfl
section
variable {w w' : World} {X : Nat} {vd vu : Value} {N : Nt} {E : Nat → Nat} {Fd : Nat → Nat → Prop} {F : Nat → Prop}
theorem NAt.ltX (h:NAt w X vd vu N E Fd):X<w.heap.size:=(Array.getElem?_eq_some_iff.1 h.blk).1
theorem NAt.lt (h:NAt w X vd vu N E Fd):∀g,Fs X vd vu N.ds.length Fd g→g<w.heap.size:=by
 rintro g (e | e | e | e)
 ·rw[e];exact h.ltX
 ·exact(own_lt h.rd g e).1
 ·exact(own_lt h.ru g e).1
 ·exact h.docs.lt g e
theorem NAt.stay (h:NAt w X vd vu N E Fd) (hs:Stay (Fs X vd vu N.ds.length Fd) w w') (hz:w.heap.size≤w'.heap.size):NAt w' X vd vu N E Fd:=
 ⟨by unfold NtB;rw[hs X (Or.inl rfl)];exact h.blk,own_stay h.rd fun g e=>hs g (Or.inr (Or.inl e)),own_stay h.ru fun g e=>hs g (Or.inr (Or.inr (Or.inl e))),h.docs.stay (fun g e=>hs g (Or.inr (Or.inr (Or.inr e)))) hz,h.off,h.ofd,h.ofu,h.few,h.sz⟩
theorem NAt.below (h:NAt w X vd vu N E Fd) (hb:Below w.heap.size w w'):NAt w' X vd vu N E Fd:=h.stay (fun g hg=>hb.block g (h.lt g hg)) hb.size
theorem At.lt (h:At w X N F):∀g,F g→g<w.heap.size:=by obtain⟨vd,vu,E,Fd,m,hF⟩:=h;exact fun g hg=>m.lt g ((hF g).1 hg)
theorem At.stay (h:At w X N F) (hs:Stay F w w') (hz:w.heap.size≤w'.heap.size):At w' X N F:=by
 obtain⟨vd,vu,E,Fd,m,hF⟩:=h
 exact⟨vd,vu,E,Fd,m.stay (fun g hg=>hs g ((hF g).2 hg)) hz,hF⟩
theorem At.below (h:At w X N F) (hb:Below w.heap.size w w'):At w' X N F:=h.stay (fun g hg=>hb.block g (h.lt g hg)) hb.size
theorem NAt.dX (h:NAt w X vd vu N E Fd):∀g,vd.ownBlock=some g→g≠X:=kind_ne h.rd h.blk (by decide)
theorem NAt.uX (h:NAt w X vd vu N E Fd):∀g,vu.ownBlock=some g→g≠X:=kind_ne h.ru h.blk (by decide)
theorem NAt.du (h:NAt w X vd vu N E Fd):∀g,vd.ownBlock=some g→vu.ownBlock≠some g:=kind_off h.rd h.ru (by decide)
end
/- what a call leaves -/
def Left' (w:World) (X:Nat) (F:Nat→Prop) (N':Nt) (w':World):Prop:=∃F',At w' X N' F'∧Chg F w w'∧∀g,F' g→F g∨w.heap.size≤g
theorem left_same {w w':World} {X:Nat} {F:Nat→Prop} {N:Nt} (h:At w X N F) (hb:Below w.heap.size w w'):Left' w X F N w':=⟨F,h.below hb,Chg.ofBelow hb F,fun g e=>Or.inl e⟩
theorem Left'.first {w w1 w':World} {X:Nat} {F:Nat→Prop} {N:Nt} (hb:Below w.heap.size w w1) (h:Left' w1 X F N w'):Left' w X F N w':=by
 obtain⟨F',h1,h2,h3⟩:=h
 exact⟨F',h1,(Chg.ofBelow hb F).trans h2,fun g hg=>(h3 g hg).imp id fun e=>Nat.le_trans hb.size e⟩
theorem Left'.then{w w1 w':World} {X:Nat} {F:Nat→Prop} {N:Nt} (h:Left' w X F N w1) (hb:Below w1.heap.size w1 w'):Left' w X F N w':=by
 obtain⟨F',h1,h2,h3⟩:=h
 exact⟨F',h1.below hb,h2.trans (Chg.ofBelow hb F),h3⟩
theorem left_mk {w w':World} {X:Nat} {F:Nat→Prop} {vd vu vd' vu':Value} {N N':Nt} {E':Nat→Nat} {Fd Fd':Nat→Nat→Prop} (hF:∀g,F g↔Fs X vd vu N.ds.length Fd g) (h:NAt w' X vd' vu' N' E' Fd') (hc:Chg (Fs X vd vu N.ds.length Fd) w w') (hl:∀g,Fs X vd' vu' N'.ds.length Fd' g→Fs X vd vu N.ds.length Fd g∨w.heap.size≤g):Left' w X F N' w':=
 ⟨Fs X vd' vu' N'.ds.length Fd',⟨vd',vu',E',Fd',h,fun g=>Iff.rfl⟩,hc.mono fun g e=>(hF g).2 e,fun g e=>(hl g e).imp (hF g).2 id⟩
theorem dq_set {N:Nt} {i j:Nat} (T:Dq) (hi:i<N.ds.length):dq { N with ds:=N.ds.set i T } j=upd (dq N) i T j:=by
 unfold dq upd
 show(N.ds.set i T).getD j d0=_
 rw[List.getD_eq_getElem?_getD,List.getElem?_set]
 by_cases h:i=j
 ·subst h;rw[if_pos rfl,if_pos hi,if_pos rfl];rfl
 ·rw[if_neg h,if_neg (Ne.symm h)];exact(List.getD_eq_getElem?_getD ..).symm
theorem dq_push {N:Nt} {j:Nat} (T:Dq) (hj:j<N.ds.length+1):dq { N with ds:=N.ds++[T] } j=upd (dq N) N.ds.length T j:=by
 unfold dq upd
 show(N.ds++[T]).getD j d0=_
 rw[List.getD_eq_getElem?_getD]
 by_cases h:j=N.ds.length
 ·subst h;rw[if_pos rfl,List.getElem?_append_right (Nat.le_refl _),Nat.sub_self];rfl
 ·rw[if_neg h,List.getElem?_append_left (by omega)];exact(List.getD_eq_getElem?_getD ..).symm
/- one doc changes -/
theorem NAt.turn {w w':World} {X:Nat} {vd vu:Value} {N:Nt} {E:Nat→Nat} {Fd:Nat→Nat→Prop} (h:NAt w X vd vu N E Fd) {i:Nat} (hi:i<N.ds.length) {T:Dq} {G:Nat→Prop} (hA:DocAt w' (E i) T G) (hc:Chg (Fd i) w w') (hG:∀g,G g→Fd i g∨w.heap.size≤g):
  NAt w' X vd vu { N with ds:=N.ds.set i T } E (upd Fd i G)∧Chg (Fs X vd vu N.ds.length Fd) w w'∧∀g,Fs X vd vu (N.ds.set i T).length (upd Fd i G) g→Fs X vd vu N.ds.length Fd g∨w.heap.size≤g:=by
 have hl:(N.ds.set i T).length=N.ds.length:=List.length_set
 have hall:=Rowd.turn_all (w:=w) (F:=Fd) hi hG
 refine⟨⟨?_, ?_, ?_, ?_, ?_, ?_, ?_, ?_,h.sz⟩,hc.mono fun g e=>Or.inr (Or.inr (Or.inr ⟨i,hi,e⟩)), ?_⟩
 ·unfold NtB;rw[hc.block X h.ltX (fun e=>h.off ⟨i,hi,e⟩)];exact h.blk
 ·show RowE w' vd (N.ds.set i T).length E
  rw[hl]
  exact own_stay h.rd fun g e=>hc.block g (own_lt h.rd g e).1 (fun e2=>h.ofd g e ⟨i,hi,e2⟩)
 ·exact own_stay h.ru fun g e=>hc.block g (own_lt h.ru g e).1 (fun e2=>h.ofu g e ⟨i,hi,e2⟩)
 ·show Rowd docK w' (N.ds.set i T).length E _ _
  rw[hl]
  exact(h.docs.turn (K:=docK) hi hA hc hG).same (fun _ _=>rfl) (fun j hj=>dq_set T hi)
 ·show¬All (N.ds.set i T).length _ X
  rw[hl]
  intro e
  rcases hall X e with e | e
  ·exact h.off e
  ·have:=h.ltX;omega
 ·intro g hg
  show¬All (N.ds.set i T).length _ g
  rw[hl]
  intro e
  rcases hall g e with e | e
  ·exact h.ofd g hg e
  ·have:=(own_lt h.rd g hg).1;omega
 ·intro g hg
  show¬All (N.ds.set i T).length _ g
  rw[hl]
  intro e
  rcases hall g e with e | e
  ·exact h.ofu g hg e
  ·have:=(own_lt h.ru g hg).1;omega
 ·show(N.ds.set i T).length≤4
  rw[hl];exact h.few
 ·rw[hl]
  rintro g (e | e | e | e)
  ·exact Or.inl (Or.inl e)
  ·exact Or.inl (Or.inr (Or.inl e))
  ·exact Or.inl (Or.inr (Or.inr (Or.inl e)))
  ·rcases hall g e with e | e
   ·exact Or.inl (Or.inr (Or.inr (Or.inr e)))
   ·exact Or.inr e
/- what is under way is another row -/
theorem NAt.set_u {w w1:World} {X:Nat} {vd vu vu':Value} {N:Nt} {E:Nat→Nat} {Fd:Nat→Nat→Prop} {us':List Pc} (h:NAt w X vd vu N E Fd) (hc:Chg (fun g=>vu.ownBlock=some g) w w1) (hr:RowP w1 vu' us') (hl:∀g,vu'.ownBlock=some g→vu.ownBlock=some g∨w.heap.size≤g) (hs:∀p ∈ us',p.2.size≤maxLen):
  NAt (w1.setCell ⟨X,1,none⟩ vu') X vd vu' { N with us:=us' } E Fd∧Chg (Fs X vd vu N.ds.length Fd) w (w1.setCell ⟨X,1,none⟩ vu')∧∀g,Fs X vd vu' N.ds.length Fd g→Fs X vd vu N.ds.length Fd g∨w.heap.size≤g:=by
 have hX:=h.ltX
 have hb1:NtB w1 X vd vu:=by unfold NtB;rw[hc.block X hX (fun e=>h.uX X e rfl)];exact h.blk
 have hC:Chg (Fs X vd vu N.ds.length Fd) w (w1.setCell ⟨X,1,none⟩ vu'):=Chg.setCell (F:=Fs X vd vu N.ds.length Fd) (hc.mono fun g e=>Or.inr (Or.inr (Or.inl e))) (p:=⟨X,1,none⟩) (Or.inl rfl) _
 refine⟨⟨?_, ?_, ?_, ?_,h.off,h.ofd, ?_,h.few,hs⟩,hC, ?_⟩
 ·unfold NtB;rw[set_heap hb1];rfl
 ·exact own_stay h.rd fun g e=>by
   rw[set_block _ _ _ _ (h.dX g e)]
   exact hc.block g (own_lt h.rd g e).1 (h.du g e)
 ·exact own_stay hr fun g e=>set_block _ _ _ _ (kind_ne hr hb1 (by decide) g e)
 ·refine h.docs.stay (fun g e=> ?_) hC.size
  rw[set_block _ _ _ _ (fun e9:g=X=>h.off (e9▸e))]
  exact hc.block g (h.docs.lt g e) (fun e2=>h.ofu g e2 e)
 ·intro g hg e
  rcases hl g hg with e2 | e2
  ·exact h.ofu g e2 e
  ·have:=h.docs.lt g e;omega
 ·rintro g (e | e | e | e)
  ·exact Or.inl (Or.inl e)
  ·exact Or.inl (Or.inr (Or.inl e))
  ·rcases hl g e with e | e
   ·exact Or.inl (Or.inr (Or.inr (Or.inl e)))
   ·exact Or.inr e
  ·exact Or.inl (Or.inr (Or.inr (Or.inr e)))
/- one more doc -/
theorem NAt.push {w w2 w3:World} {X:Nat} {vd vd' vu:Value} {N:Nt} {E:Nat→Nat} {Fd:Nat→Nat→Prop} {D:Nat} {T:Dq} {G:Nat→Prop} (h:NAt w X vd vu N E Fd) (hb:Below w.heap.size w w2) (hD:DocAt w2 D T G) (hG:∀g,G g→w.heap.size≤g) (hc:Chg (fun g=>vd.ownBlock=some g) w2 w3) (hr:RowE w3 vd' (N.ds.length+1) (upd E N.ds.length D)) (hl:∀g,vd'.ownBlock=some g→vd.ownBlock=some g∨w2.heap.size≤g) (hk:N.ds.length+1≤4):
  NAt (w3.setCell ⟨X,0,none⟩ vd') X vd' vu { N with ds:=N.ds++[T] } (upd E N.ds.length D) (upd Fd N.ds.length G):=by
 have hX:=h.ltX
 have h2:=h.below hb
 have hn:(N.ds++[T]).length=N.ds.length+1:=by rw[List.length_append];rfl
 have hb3:NtB w3 X vd vu:=by unfold NtB;rw[hc.block X h2.ltX (fun e=>h2.dX X e rfl)];exact h2.blk
 have hdocs:=h.docs.push (K:=docK) hb hD hG
 have hall:∀g,All (N.ds.length+1) (upd Fd N.ds.length G) g→All N.ds.length Fd g∨w.heap.size≤g:=by
  rintro g ⟨j,hj,hg⟩
  by_cases e:j=N.ds.length
  ·subst e;rw[upd_same] at hg;exact Or.inr (hG g hg)
  ·rw[upd_other _ _ e] at hg;exact Or.inl ⟨j,by omega,hg⟩
 have hnd:∀g,vd.ownBlock=some g→¬All (N.ds.length+1) (upd Fd N.ds.length G) g:=fun g hg e=>by
  rcases hall g e with e | e
  ·exact h.ofd g hg e
  ·have:=(own_lt h.rd g hg).1;omega
 have hnX:¬All (N.ds.length+1) (upd Fd N.ds.length G) X:=fun e=>by
  rcases hall X e with e | e
  ·exact h.off e
  ·omega
 refine⟨?_, ?_, ?_, ?_, ?_, ?_, ?_, ?_,h.sz⟩
 ·unfold NtB;rw[set_heap hb3];rfl
 ·show RowE _ vd' (N.ds++[T]).length _
  rw[hn]
  exact own_stay hr fun g e=>set_block _ _ _ _ (kind_ne hr hb3 (by decide) g e)
 ·exact own_stay h2.ru fun g e=>by
   rw[set_block _ _ _ _ (h2.uX g e)]
   exact hc.block g (own_lt h2.ru g e).1 (fun e2=>h2.du g e2 e)
 ·show Rowd docK _ (N.ds++[T]).length _ _ _
  rw[hn]
  refine Rowd.same (hdocs.stay (fun g e=> ?_) (by rw[set_size];exact hc.size)) (fun _ _=>rfl) (fun j hj=>dq_push T hj)
  rw[set_block _ _ _ _ (fun e9:g=X=>hnX (e9▸e))]
  exact hc.block g (hdocs.lt g e) (fun e2=>hnd g e2 e)
 ·show¬All (N.ds++[T]).length _ X
  rw[hn];exact hnX
 ·intro g hg
  show¬All (N.ds++[T]).length _ g
  rw[hn]
  rcases hl g hg with e | e
  ·exact hnd g e
  ·intro e2;have:=hdocs.lt g e2;omega
 ·intro g hg
  show¬All (N.ds++[T]).length _ g
  rw[hn]
  intro e
  rcases hall g e with e | e
  ·exact h.ofu g hg e
  ·have:=(own_lt h.ru g hg).1;omega
 ·show(N.ds++[T]).length≤4
  rw[hn];exact hk
/- a doc's pointer in its row -/
theorem NAt.cellD {w:World} {X:Nat} {vd vu:Value} {N:Nt} {E:Nat→Nat} {Fd:Nat→Nat→Prop} (h:NAt w X vd vu N E Fd):∃p c,vd=.slice p N.ds.length c∧N.ds.length≤c∧c≤maxLen∧(0<N.ds.length→∃g,p=some ⟨g,0,none⟩∧∀i,i<N.ds.length→w.cell? ⟨g,i,none⟩=some (ptr (E i))):=by
 rcases h.rd.2 with⟨e,e0⟩ | ⟨g,cap,cur,h1,h2,h3,h4,h5,h6,h7⟩
 ·exact⟨none,0,by rw[e,e0],by omega,Nat.zero_le _,fun h9=>by omega⟩
 ·refine⟨_,cap,h1,h4,h5,fun _=>⟨g,rfl,fun i hi=> ?_⟩⟩
  have h9:=World.ownsRow.cells h.rd (g:=g) (by rw[h1];rfl) i _ (ptrs_at hi)
  rw[Addr.add_lit,Nat.zero_add] at h9
  exact h9
theorem NAt.cellU {w:World} {X:Nat} {vd vu:Value} {N:Nt} {E:Nat→Nat} {Fd:Nat→Nat→Prop} (h:NAt w X vd vu N E Fd):∃p c,vu=.slice p N.us.length c∧N.us.length≤c∧c≤maxLen∧(0<N.us.length→∃g,p=some ⟨g,0,none⟩∧∀i,i<N.us.length→w.cell? ⟨g,i*2,none⟩=some (.int .i64 (N.us.getD i pz).1)∧w.cell? ⟨g,i*2+1,none⟩=some (.string (N.us.getD i pz).2)):=by
 rcases h.ru.2 with⟨e,e0⟩ | ⟨g,cap,cur,h1,h2,h3,h4,h5,h6,h7⟩
 ·exact⟨none,0,by rw[e,e0],by omega,Nat.zero_le _,fun h9=>by omega⟩
 ·refine⟨_,cap,h1,h4,h5,fun _=>⟨g,rfl,fun i hi=>⟨?_, ?_⟩⟩⟩
  ·have h9:=World.ownsRow.cells h.ru (g:=g) (by rw[h1];rfl) _ _ (flatP_at N.us i hi 0 _ rfl)
   rw[Addr.add_lit,Nat.zero_add,Nat.add_zero] at h9
   exact h9
  ·have h9:=World.ownsRow.cells h.ru (g:=g) (by rw[h1];rfl) _ _ (flatP_at N.us i hi 1 _ rfl)
   rw[Addr.add_lit,Nat.zero_add] at h9
   exact h9
end Hl
end Go.Proofs.YtlmdchpbpgcfmaaGreatDoor
/- Package net: Under, isNode, Doc, Text, New. -/
namespace Go.Proofs.YtlmdchpbpgcfmaaGreatDoor
namespace Hs
open Go.ChangeShapes Go.WideShapes Go.ChangeAt Go.RowKit Cm Ka Kb Na Om Oa Oz Oc Og Oi Hm Ia Ic Ie Ih Aa Hc Hd Hi Hl
open La (bel bel_drew errV_zero errV_ne own_ge own_grow own_below Lies)
theorem under_any (X:Nat) (N:Nt) (F:Nat→Prop) (w:World) (h:At w X N F) (hn:N.us.length≤100):Calls Tryz.prog 10 #[ptr X] w fun e w'=>e=.returned (.int .i64 N.us.length)∧Below w.heap.size w w':=by
 obtain⟨vd,vu,E,Fd,m,hF⟩:=h
 obtain⟨p,c,rfl,_⟩:=m.cellU
 have c1:=blk_cell m.blk (i:=1) (u:=.slice p N.us.length c) rfl
 generalize N.us.length=n at c1 hn ⊢
 clear m hF
 go_enter Tryz.func10,Tryz.ntmps10
 go_wp2_with fail
 go_ret
 exact⟨rfl,Below.refl _ _⟩
/- is it a node? -/
theorem node_yes (X n i c:Nat) (p:Option Addr) (w:World) (c0:w.cell? ⟨X,0,none⟩=some (.slice p n c)) (hn:n≤4) (hi:i<n):Calls Tryz.prog 47 #[ptr X,.int .i64 i] w fun e w'=>e=.returned (.bool true)∧w'=w:=by
 have h0:(0:Int)≤(i:Int):=by omega
 have h1:(i:Int)<(n:Int):=by omega
 clear hi
 go_enter Tryz.func47,Tryz.ntmps47
 go_wp2_with fail
 go_ret
 exact⟨rfl,rfl⟩
theorem node_no (X n c:Nat) (i:Int) (p:Option Addr) (w:World) (c0:w.cell? ⟨X,0,none⟩=some (.slice p n c)) (hn:n≤4) (hi:out n i):Calls Tryz.prog 47 #[ptr X,.int .i64 i] w fun e w'=>e=.returned (.bool false)∧w'=w:=by
 by_cases h:i<0
 ·have h0:¬(0:Int)≤i:=by omega
  clear hi h
  go_enter Tryz.func47,Tryz.ntmps47
  go_wp2_with fail
  go_ret
  exact⟨rfl,rfl⟩
 ·have h0:(0:Int)≤i:=by omega
  have h1:¬i<(n:Int):=by unfold out at hi;omega
  clear hi h
  go_enter Tryz.func47,Tryz.ntmps47
  go_wp2_with fail
  go_ret
  exact⟨rfl,rfl⟩
theorem doc_no (X n c:Nat) (i:Int) (p:Option Addr) (w:World) (c0:w.cell? ⟨X,0,none⟩=some (.slice p n c)) (hn:n≤4) (hi:out n i):Calls Tryz.prog 14 #[ptr X,.int .i64 i] w fun e w'=>e=.returned (.tuple #[.pointer none,.iface 84 (.int .i64 1)])∧w'=w:=by
 have C:=node_no X n c i p w c0 hn hi
 clear hi
 go_enter Tryz.func14,Tryz.ntmps14
 go_wp2_with fail
 refine C.mono ?_
 rintro e w' ⟨rfl,rfl⟩
 go_wp2_with fail
 go_ret2
 exact⟨rfl,rfl⟩
theorem doc_yes (X n c g i D:Nat) (w:World) (c0:w.cell? ⟨X,0,none⟩=some (.slice (some ⟨g,0,none⟩) n c)) (hn:n≤4) (hi:i<n) (c1:w.cell? ⟨g,i,none⟩=some (ptr D)):Calls Tryz.prog 14 #[ptr X,.int .i64 i] w fun e w'=>e=.returned (.tuple #[ptr D,.nilIface])∧w'=w:=by
 have C:=node_yes X n i c _ w c0 hn hi
 have h0:(0:Int)≤(i:Int):=by omega
 have h1:(i:Int)<(n:Int):=by omega
 have c2:w.cell? ⟨g,0+i,none⟩=some (ptr D):=by rw[Nat.zero_add];exact c1
 go_enter Tryz.func14,Tryz.ntmps14
 go_wp2_with fail
 refine C.mono ?_
 rintro e w' ⟨rfl,rfl⟩
 go_wp2_with fail
 go_ret2
 exact⟨rfl,rfl⟩
theorem doc_any (X:Nat) (N:Nt) (F:Nat→Prop) (i:Nat) (w:World) (h:At w X N F) (hi:i<N.ds.length):Calls Tryz.prog 14 #[ptr X,.int .i64 i] w fun e w'=>∃D Fd,e=.returned (.tuple #[ptr D,.nilIface])∧DocAt w' D (dq N i) Fd∧(∀g,Fd g→F g)∧Below w.heap.size w w':=by
 obtain⟨vd,vu,E,Fd,m,hF⟩:=h
 obtain⟨p,c,rfl,_,_,hc⟩:=m.cellD
 obtain⟨g,rfl,hg⟩:=hc (by omega)
 refine(doc_yes X _ c g i (E i) w (blk_cell m.blk (i:=0) rfl) m.few hi (hg i hi)).mono ?_
 rintro e w' ⟨rfl,rfl⟩
 exact⟨E i,Fd i,rfl,m.docs.at' i hi,fun g hg=>(hF g).2 (Or.inr (Or.inr (Or.inr ⟨i,hi,hg⟩))),Below.refl _ _⟩
theorem text_any (X:Nat) (N:Nt) (F:Nat→Prop) (i:Int) (w:World) (h:At w X N F) (hgl:Gl N):Calls Tryz.prog 12 #[ptr X,.int .i64 i] w fun e w'=>e=.returned (.tuple #[.string (if out N.ds.length i then⟨#[]⟩ else Lf.textR (dq N i.toNat).book),errV (if out N.ds.length i then 1 else 0)])∧Below w.heap.size w w':=by
 by_cases ho:out N.ds.length i
 ·rw[if_pos ho,if_pos ho,errV_ne (by decide)]
  obtain⟨vd,vu,E,Fd,m,hF⟩:=h
  obtain⟨p,c,rfl,_⟩:=m.cellD
  have C:=doc_no X _ c i p w (blk_cell m.blk (i:=0) rfl) m.few ho
  clear m hF ho hgl
  go_enter Tryz.func12,Tryz.ntmps12
  go_wp2_with fail
  refine C.mono ?_
  rintro e w' ⟨rfl,rfl⟩
  go_wp2_with fail
  go_ret2
  exact⟨rfl,Below.refl _ _⟩
 ·rw[if_neg ho,if_neg ho,errV_zero]
  obtain⟨k,rfl⟩:∃k:Nat,i=k:=⟨i.toNat,by unfold out at ho;omega⟩
  have hk:k<N.ds.length:=by unfold out at ho;omega
  rw[Int.toNat_natCast]
  have C:=doc_any X N F k w h hk
  generalize dq N k=S at C ⊢
  clear h hgl ho hk
  go_enter Tryz.func12,Tryz.ntmps12
  go_wp2_with fail
  refine C.mono ?_
  rintro e w1 ⟨D,Fd,rfl,hd,_,hb⟩
  have HB:=Hid.mk' hb
  have C2:=Il.text_get D S Fd w1 hd
  obtain⟨T,hT⟩:∃T,T=Lf.textR S.book:=⟨_,rfl⟩
  rw[←hT] at C2
  have HT:=Hid.mk' hT
  clear hd hb C hT
  go_wp2_with fail
  refine C2.mono ?_
  rintro e w2 ⟨rfl,hb2⟩
  have HB2:=Hid.mk' (bel HB.out hb2)
  clear hb2 C2
  go_wp2_with fail
  go_ret2
  exact⟨by rw[←HT.out];rfl,HB2.out⟩
end Hs
end Go.Proofs.YtlmdchpbpgcfmaaGreatDoor
/- Package net: slices.Delete of parcels; add. -/
namespace Go.Proofs.YtlmdchpbpgcfmaaGreatDoor
namespace Hp
open Go.ChangeShapes Go.WideShapes Go.ChangeAt Go.RowKit Cm Ka Kb Na Om Oa Oz Oc Og Oi Hm Ia Ic Ie Aa Hc Hd Hi Hl Hs
open La (bel bel_drew errV_zero errV_ne own_ge own_grow own_below Lies)
theorem infoP:(Tryz.prog.info? 145).map (fun i=>(i.zero,i.size,i.bytes))=some (some (.agg #[.int .i64 0,.string ⟨#[]⟩]),2,24):=by kernel_rfl
theorem zeroP:∀w,(zeroValue 145).run Tryz.prog w=.ok (.agg #[.int .i64 0,.string ⟨#[]⟩]) w:=fun _=>by kernel_rfl
abbrev zP:Value:=.agg #[.int .i64 0,.string ⟨#[]⟩]
theorem zP_size:zP.cells.size=2:=by kernel_rfl
theorem zP_one:∀u ∈ zP.cells.toList,u.oneCell'=true:=by
 intro u hu
 have e:zP.cells.toList=[.int .i64 0,.string ⟨#[]⟩]:=by kernel_rfl
 rw[e] at hu
 simp only[List.mem_cons,List.not_mem_nil,or_false] at hu
 rcases hu with rfl | rfl<;>rfl
theorem heap_setCells:∀(vs:List Value) (g o:Nat) (w:World) (cur:Array Value) (t:TypeId) (f:Nat × Nat),w.heap[g]? =some (.cells cur t f)→∃cur':Array Value,(w.setCells g o vs).heap[g]? =some (.cells cur' t f)∧cur'.size=cur.size
 | [],g,o,w,cur,t,f,h=>⟨cur,h,rfl⟩
 | v::r,g,o,w,cur,t,f,h=>by
  obtain⟨c2,h1,h2⟩:=heap_setCells r g (o+1) (w.setCell ⟨g,o,none⟩ v) _ t f (set_heap h)
  exact⟨c2,h1,by rw[h2];simp⟩
theorem tape_setCells:∀(vs:List Value) (b o:Nat) (w:World),(w.setCells b o vs).tape=w.tape∧(w.setCells b o vs).heap.size=w.heap.size
 | [],_,_,_=>⟨rfl,rfl⟩
 | v::r,b,o,w=>by
  obtain⟨h1,h2⟩:=tape_setCells r b (o+1) (w.setCell ⟨b,o,none⟩ v)
  exact⟨h1.trans rfl,h2.trans (set_size _ _ _)⟩
theorem chg_setCells {F:Nat→Prop} {w0 w:World} {g:Nat} (h:Chg F w0 w) (hg:F g) (o:Nat) (vs:List Value):Chg F w0 (w.setCells g o vs):=by
 obtain⟨ht,hz⟩:=tape_setCells vs g o w
 exact⟨(World.os_setCells _ _ _ _).trans h.os,ht.trans h.tape,(World.output_setCells _ _ _ _).trans h.output,by rw[hz];exact h.size,fun k hk hf=>by rw[World.heap_setCells_other w g o vs (Nat.lt_of_lt_of_le hk h.size) (fun e=>hf (e▸hg))];exact h.block k hk hf⟩
theorem del_run (blk off cap i j n:Nat) (l:List Pc) (w:World) (hn:l.length=n) (hH:∀t,t<n*2→w.cell? ⟨blk,off+t,none⟩=(flatP l)[t]?) (hF:∀t,w.frozen? ⟨blk,t,none⟩=false) (hcap:n≤cap) (hm:cap≤9223372036854775807) (hij:i<j) (hj:j≤n):
  Calls Tryz.prog 83 #[.slice (some ⟨blk,off,none⟩) n cap,.int .i64 i,.int .i64 j] w fun e w'=>e=.returned (.slice (some ⟨blk,off,none⟩) (i+(n-j)) cap)∧w'=(w.drew.setCells blk (off+i*2) (flatP (l.drop j))).setCells blk (off+(i+(n-j))*2) (Builtin.zeroCells zP.cells (n-(i+(n-j)))).toList:=by
 obtain⟨i0,hi0,hz0,hz1,hz2⟩:=info_parts infoP
 have t22:=Tryz.underlying86
 obtain⟨news,hnews⟩:∃news,news=flatP (l.drop j):=⟨_,rfl⟩
 rw[←hnews]
 have hlen:news.length=(n-j)*2:=by rw[hnews,flatP_length,List.length_drop,hn]
 have hfl:(flatP l).length=n*2:=by rw[flatP_length,hn]
 have hsplit:flatP l=flatP (l.take j)++news:=by rw[hnews,←flatP_append,List.take_append_drop]
 have htk:(flatP (l.take j)).length=j*2:=by rw[flatP_length,List.length_take];omega
 have hget:∀t,t<(n-j)*2→news[t]? =(flatP l)[j*2+t]? :=by
  intro t ht
  rw[hsplit,List.getElem?_append_right (by omega),htk,Nat.add_sub_cancel_left]
 have hsome:∀t,t<n*2→(w.cell? ⟨blk,off+t,none⟩).isSome=true:=by
  intro t ht
  rw[hH t ht,List.getElem?_eq_getElem (by omega)];rfl
 obtain⟨A,hA,hsrc⟩:∃A:Addr,(if cap=j then some (⟨blk,off,none⟩:Addr) else some ⟨blk,off+j*2,none⟩)=some A∧Hid (∀t u,news[t]? =some u→w.drew.cell? (A.add t)=some u):=by
  by_cases h:cap=j
  ·refine⟨⟨blk,off,none⟩,by simp[h],fun t u hu=> ?_⟩
   have h0:news.length=0:=by rw[hlen];omega
   rw[List.length_eq_zero_iff.1 h0] at hu
   simp at hu
  ·refine⟨⟨blk,off+j*2,none⟩,by simp[h],fun t u hu=> ?_⟩
   have ht:t<(n-j)*2:=by
    have:=(List.getElem?_eq_some_iff.1 hu).1
    rwa [hlen] at this
   rw[hget t ht] at hu
   rw[Addr.add_lit,show off+j*2+t=off+(j*2+t) by omega]
   exact(hH (j*2+t) (by omega)).trans hu
 have s1:=z9 hlen
 have s2:Hid (∀u ∈ news,u.oneCell'=true):=by rw[hnews];exact flatP_one _
 have s3:Hid (∀t,t<news.length→(w.drew.cell? ⟨blk,off+i*2+t,none⟩).isSome=true∧w.drew.frozen? ⟨blk,off+i*2+t,none⟩=false):=by
  intro t ht
  rw[hlen] at ht
  rw[Nat.add_assoc]
  exact⟨hsome (i*2+t) (by omega),hF _⟩
 obtain⟨W1,hW1⟩:∃W1,W1=w.drew.setCells blk (off+i*2) news:=⟨_,rfl⟩
 rw[←hW1]
 have hH1:∀t,t<n*2→(W1.cell? ⟨blk,off+t,none⟩).isSome=true:=by
  intro t ht
  rw[hW1]
  exact World.isSome_setCells blk news _ w.drew _ (hsome t ht)
 have hF1:∀t,W1.frozen? ⟨blk,t,none⟩=false:=by
  intro t
  rw[hW1,World.frozen?_setCells];exact hF t
 have hcl:∀ty,(Builtin.clear_ #[86] ty #[.slice (some ⟨blk,off+(i+(n-j))*2,none⟩) (n-(i+(n-j))) (cap-(i+(n-j)))]).run Tryz.prog W1=.ok (.tuple #[]) (W1.setCells blk (off+(i+(n-j))*2) (Builtin.zeroCells zP.cells (n-(i+(n-j)))).toList):=
  fun ty=>Nl.run_clear W1 _ _ ty _ t22 zeroP (by rw[zP_size];omega) zP_one blk (off+(i+(n-j))*2) _ _ (by omega) (fun t ht=>by rw[zP_size] at ht;rw[show off+(i+(n-j))*2+t=off+((i+(n-j))*2+t) by omega];exact hH1 _ (by omega)) hF1
 have hW:=z9 hW1
 have hic:i≤cap:=by omega
 have hjc:j≤cap:=by omega
 have hij2:¬i=j:=by omega
 generalize (Builtin.zeroCells zP.cells (n-(i+(n-j)))).toList=zs at hcl ⊢
 clear hW1 hH1 hF1 hF hH hget hnews hlen hn hfl hsplit htk hsome
 go_enter Tryz.func83,Tryz.ntmps83
 go_wp2_with fail
 go_region_law (refine step_append_room rfl (.tmp 22) (.tmp 25) 86 rfl 145 i0 2 t22 hi0 hz1 blk off i cap (by simp[Act.eval,Act.put]) A (n-j) (cap-j) news (by simp[Act.eval,Act.put]) s1.out hsrc.out s2.out (by omega) s3.out ?_;rw[←hW.out])
 go_wp2
 go_ret
 exact⟨rfl,rfl⟩
theorem erase_eq (l:List Pc) (i:Nat):l.eraseIdx i=l.take i++l.drop (i+1):=List.eraseIdx_eq_take_drop_succ l i
theorem del_one (g cap n i:Nat) (l:List Pc) (w:World) (h:RowP w (.slice (some ⟨g,0,none⟩) n cap) l) (hl:l.length=n) (hi:i<n):
  Calls Tryz.prog 83 #[.slice (some ⟨g,0,none⟩) n cap,.int .i64 i,.int .i64 ((i+1:Nat):Int)] w fun e w'=>e=.returned (.slice (some ⟨g,0,none⟩) (n-1) cap)∧RowP w' (.slice (some ⟨g,0,none⟩) (n-1) cap) (l.eraseIdx i)∧Chg (fun x=>(Value.slice (some ⟨g,0,none⟩) n cap).ownBlock=some x) w w':=by
 rcases h.2 with⟨e,_⟩ | ⟨g',cap',cur,e,hg,hc,h1,h2,h3,h4⟩
 ·cases e
 ·injection e with e1 e2 e3
  injection e1 with e1
  injection e1 with e1 _
  subst e1 e3
  have hfl:(flatP l).length=n*2:=by rw[flatP_length,hl]
  have hcell:∀t,t<n*2→w.cell? ⟨g,0+t,none⟩=(flatP l)[t]? :=by
   intro t ht
   have h9:=World.ownsRow.cells h (g:=g) rfl t _ (List.getElem?_eq_getElem (by omega))
   rw[Addr.add_lit] at h9
   rw[h9,List.getElem?_eq_getElem (by omega)]
  refine(del_run g 0 cap i (i+1) n l w hl hcell (fun t=>by simp[World.frozen?,hc]) (by omega) (by unfold maxLen at h2;omega) (Nat.lt_succ_self _) hi).mono ?_
  rintro e w' ⟨rfl,rfl⟩
  have e9:i+(n-(i+1))=n-1:=by omega
  rw[e9]
  have hel:(l.eraseIdx i).length=n-1:=by rw[List.length_eraseIdx_of_lt (by omega),hl]
  have hdl:(flatP (l.drop (i+1))).length=(n-(i+1))*2:=by rw[flatP_length,List.length_drop,hl]
  have htl:(flatP (l.take i)).length=i*2:=by rw[flatP_length,List.length_take];omega
  refine⟨rfl, ?_, ?_⟩
  ·obtain⟨c1,a1,a2⟩:=heap_setCells (flatP (l.drop (i+1))) g (0+i*2) w.drew cur _ _ hc
   obtain⟨c2,b1,b2⟩:=heap_setCells (Builtin.zeroCells zP.cells (n-(n-1))).toList g (0+(n-1)*2) _ c1 _ _ a1
   refine⟨by rw[flatP_length],Or.inr ⟨g,cap,c2,by rw[hel],Nat.zero_le _,b1,by rw[hel];omega,h2,by rw[b2,a2];exact h3, ?_⟩⟩
   rw[hel]
   apply List.ext_getElem?
   intro t
   by_cases ht:t<(n-1)*2
   ·rw[List.getElem?_take_of_lt ht,Array.getElem?_toList]
    have q1:((w.drew.setCells g (0+i*2) (flatP (l.drop (i+1)))).setCells g (0+(n-1)*2) (Builtin.zeroCells zP.cells (n-(n-1))).toList).cell? ⟨g,0+t,none⟩=(flatP (l.eraseIdx i))[t]? :=by
     rw[World.cell?_setCells_out g _ _ _ _ (fun _ _=>Or.inl (by show 0+t<0+(n-1)*2;omega)),erase_eq,flatP_append]
     by_cases hti:t<i*2
     ·rw[World.cell?_setCells_out g _ _ _ _ (fun _ _=>Or.inl (by show 0+t<0+i*2;omega)),List.getElem?_append_left (by omega)]
      show w.cell? _=_
      rw[hcell t (by omega)]
      have hs:flatP l=flatP (l.take i)++flatP (l.drop i):=by rw[←flatP_append,List.take_append_drop]
      rw[hs,List.getElem?_append_left (by omega)]
     ·obtain⟨s,rfl⟩:∃s,t=i*2+s:=⟨t-i*2,by omega⟩
      have hlt:s<(flatP (l.drop (i+1))).length:=by rw[hdl];omega
      rw[List.getElem?_append_right (by omega),htl,Nat.add_sub_cancel_left,show 0+(i*2+s)=0+i*2+s by omega,World.cell?_setCells_in g _ _ _ (fun j hj=> ?_) s hlt,List.getElem?_eq_getElem hlt]
      rw[hdl] at hj
      show(w.cell? _).isSome=true
      rw[show 0+i*2+j=0+(i*2+j) by omega,hcell _ (by omega),List.getElem?_eq_getElem (by omega)];rfl
    rw[←q1]
    simp only[World.cell?,b1]
    simp
   ·rw[List.getElem?_eq_none (by rw[List.length_take];omega),List.getElem?_eq_none (by rw[flatP_length,hel];omega)]
  ·exact chg_setCells (F:=fun x=>some g=some x) (chg_setCells (F:=fun x=>some g=some x) (Chg.ofBelow (Below.refl _ w).drew _) rfl _ _) rfl _ _
/- a parcel is put behind all: append in a region that draws -/
theorem step_putP {ops:Array Oper} {o:Oper} {a:Act} {W:World} {K:Act→World→Prop} {Q:Exit→Act→World→Prop} {E:Prop} (hgd:o.guard=none) (sO xO:Operand)
  (ho:o.op=.call { callee:=.builtin .append,args:=#[sO,xO],argTypes:=#[86,86] })
  (v:Value) (n:Nat) (l:List Pc) (x:Pc) (hs:a.eval sO=v) (h0:Nat) (hx:a.eval xO=.slice (some ⟨h0,0,none⟩) 1 1) (hn:l.length=n)
  (hlen:n+1≤1048576) (hown:RowP W v l) (hc0:W.heap[h0]? =some (.cells #[.int .i64 x.1,.string x.2] 145))
  (h:∀v' w',RowP w' v' (l++[x])→W.grownBy w' v.ownBlock→(v'.ownBlock=v.ownBlock∨v'.ownBlock=some W.heap.size)→K (a.put o.dst v') w'):
  if Region.wanted o (yielded ops a.tmps)=true then Oper.wp Tryz.prog o a W K Q else E:=by
 have hw:Region.wanted o (yielded ops a.tmps)=true:=by simp[Region.wanted,hgd]
 rw[if_pos hw]
 obtain⟨i0,hi,hz0,hz1,hz2⟩:=info_parts infoP
 have e6:flatP [x]=[.int .i64 x.1,.string x.2]:=rfl
 obtain⟨v',w',hr,h2,h3,_,h5⟩:=run_append_own_at (P:=Tryz.prog) W 0 86 o.type 145 i0 (.agg #[.int .i64 0,.string ⟨#[]⟩]) 2 24 Tryz.underlying86 hi hz0 hz1 hz2 rfl (by decide) v l.length (flatP l) hown ⟨h0,0,none⟩ 1 1 (flatP [x]) rfl (by
  intro j u hu
  rw[Addr.add_lit,Nat.zero_add]
  rw[e6] at hu
  exact blk_cell hc0 (by simpa using hu)) (by
  intro u hu
  rw[e6] at hu
  simp only[List.mem_cons,List.not_mem_nil,or_false] at hu
  rcases hu with rfl | rfl<;>rfl) (by unfold maxLen;omega) (by omega) (Nat.zero_le _)
 unfold Oper.wp execOp
 simp only[ho,resolve,invoke,builtin,Sem.run_bind,Sem.run_pure,Result.andThen_ok,List.map_toArray,List.map_cons,List.map_nil,hs,hx,hr]
 refine h v' w' ?_ h3 h5
 unfold RowP
 rw[List.length_append,flatP_append]
 exact h2
end Hp
end Go.Proofs.YtlmdchpbpgcfmaaGreatDoor
/- Events that came in: they lie in memory. -/
namespace Go.Proofs.YtlmdchpbpgcfmaaGreatDoor
namespace Hv
open Go.ChangeShapes Go.WideShapes Go.ChangeAt Go.RowKit Cm Ka Kb Na Om Oa Oz Oo Ic Hc Hd
theorem cellsE:Tryz.prog.cellsOf 30=4:=by kernel_rfl
theorem trod_struct4 {H:Type} {enc:TypeId × Value→H} {W:World} {base:Nat} {spare:Nat→Bool} {held:Bool} {t:TypeId} {f0 f1 f2 f3:Field} {fuel:Nat} {cs:List Value} {x:DataW H × List MemPlace} (ht:Tryz.prog.underlying t=some (.struct #[f0,f1,f2,f3])) (h:DataW.trod enc Tryz.prog W base spare held fuel t cs=some x):
  ∃y0 y1 y2 y3 n,cs.length=Tryz.prog.cellsOf t∧DataW.trod enc Tryz.prog W base spare held n f0.type ((cs.drop f0.offset).take (Tryz.prog.cellsOf f0.type))=some y0∧
   DataW.trod enc Tryz.prog W base spare held n f1.type ((cs.drop f1.offset).take (Tryz.prog.cellsOf f1.type))=some y1∧DataW.trod enc Tryz.prog W base spare held n f2.type ((cs.drop f2.offset).take (Tryz.prog.cellsOf f2.type))=some y2∧
   DataW.trod enc Tryz.prog W base spare held n f3.type ((cs.drop f3.offset).take (Tryz.prog.cellsOf f3.type))=some y3:=by
 obtain⟨xs,n,_,rfl,hl,hlen,hf⟩:=DataW.trod_struct ht h
 match xs,hlen with
 | [y0,y1,y2,y3],_=>exact⟨y0,y1,y2,y3,n,hl,by simpa using hf 0 f0 rfl,by simpa using hf 1 f1 rfl,by simpa using hf 2 f2 rfl,by simpa using hf 3 f3 rfl⟩
theorem open_event {H:Type} {enc:TypeId × Value→H} {W:World} {base fuel:Nat} {spare:Nat→Bool} {held:Bool} {cs:List Value} {x:DataW H × List MemPlace} (h:DataW.trod enc Tryz.prog W base spare held fuel 30 cs=some x):
  ∃y:Ev,cs=[.int .i64 y.1,.int .i64 y.2.1,.int .i64 y.2.2.1,.int .i64 y.2.2.2]:=by
 obtain⟨y0,y1,y2,y3,n,hl,h0,h1,h2,h3⟩:=trod_struct4 Tryz.underlying30 h
 rw[cellsE] at hl
 match cs,hl with
 | [c0,c1,c2,c3],_=>
  simp only[cellsI,List.drop_zero,List.drop_succ_cons,List.take_succ_cons,List.take_zero] at h0 h1 h2 h3
  obtain⟨a,e0,_,_⟩:=DataW.trod_int Tryz.underlying3 h0
  obtain⟨b,e1,_,_⟩:=DataW.trod_int Tryz.underlying3 h1
  obtain⟨c,e2,_,_⟩:=DataW.trod_int Tryz.underlying3 h2
  obtain⟨d,e3,_,_⟩:=DataW.trod_int Tryz.underlying3 h3
  simp only[List.cons.injEq,and_true] at e0 e1 e2 e3
  subst e0 e1 e2 e3
  exact⟨(a,b,c,d),rfl⟩
theorem open_evm {H:Type} {enc:TypeId × Value→H} {W:World} {base:Nat} {v:Value} {d:DataW H} {ps:List MemPlace}
  (hv:Value.okWide Tryz.prog W .any base 22 v) (h:DataW.Trod enc Tryz.prog W 0 (fun _=>true) true 22 v d ps):∃p c l,v=.slice p l.length c∧EvsIn W p l∧l.length≤maxLen:=by
 obtain⟨a0,len0,cap0,rfl⟩:=okWide_slice Tryz.underlying22 hv
 obtain⟨fuel,hf⟩:=h
 rcases Deep.open_slice Tryz.underlying22 hf with⟨hcs,_⟩ | ⟨a,len,cap,m,n,D,Pl,hcs,_,hl,hm,hmm,hx,hel⟩
 ·simp[Value.cells] at hcs
  obtain⟨rfl,rfl,rfl⟩:=hcs
  exact⟨none,0,[],rfl,Or.inl rfl,Nat.zero_le _⟩
 ·simp[Value.cells] at hcs
  obtain⟨rfl,rfl,rfl⟩:=hcs
  simp at hmm
  have each:∀i,i<len0→∃y:Ev,W.cell? (a.add (i*4))=some (.int .i64 y.1)∧W.cell? (a.add (i*4+1))=some (.int .i64 y.2.1)∧W.cell? (a.add (i*4+2))=some (.int .i64 y.2.2.1)∧W.cell? (a.add (i*4+3))=some (.int .i64 y.2.2.2):=by
   intro i hi
   obtain⟨cs',h1,h2⟩:=hel i (by omega)
   rw[cellsE] at h1
   obtain⟨y,rfl⟩:=open_event h2
   obtain⟨_,_,hc⟩:=World.cells?_some h1
   refine⟨y, ?_, ?_, ?_, ?_⟩
   ·have:=hc 0 (by omega);rw[Deep.add_add,Nat.add_zero] at this;exact this
   ·have:=hc 1 (by omega);rw[Deep.add_add] at this;exact this
   ·have:=hc 2 (by omega);rw[Deep.add_add] at this;exact this
   ·have:=hc 3 (by omega);rw[Deep.add_add] at this;exact this
  obtain⟨X,hX⟩:=Deep.choose_lt (α :=Ev) each
  have hlen:((List.range len0).map X).length=len0:=by simp
  refine⟨some a,cap0,(List.range len0).map X,by rw[hlen], ?_,by rw[hlen];omega⟩
  by_cases h0:len0=0
  ·left;rw[h0];rfl
  ·right
   obtain⟨b,off,spot⟩:=a
   have hc0:=(hX 0 (by omega)).1
   have hspot:spot=none:=by simpa[Addr.add] using World.cell?_spot hc0
   subst hspot
   refine⟨b,off,rfl,fun j hj=> ?_⟩
   rw[hlen] at hj
   have e:((List.range len0).map X).getD j (0,0,0,0)=X j:=by
    rw[List.getD_eq_getElem?_getD,List.getElem?_map,List.getElem?_range hj];rfl
   rw[e]
   obtain⟨h1,h2,h3,h4⟩:=hX j hj
   rw[Addr.add_lit] at h1 h2 h3 h4
   exact⟨h1,h2,h3,h4⟩
theorem open_evs {H:Type} {enc:TypeId × Value→H} {W:World} {base:Nat} {v:Value} {d:DataW H} {ps:List MemPlace}
  (hv:Value.okWide Tryz.prog W .any base 22 v) (h:DataW.Trod enc Tryz.prog W 0 (fun _=>true) true 22 v d ps):∃p c l,v=.slice p l.length c∧EvsIn W p l:=by
 obtain⟨p,c,l,h1,h2,_⟩:=open_evm hv h
 exact⟨p,c,l,h1,h2⟩
/- texts -/
theorem open_txd {H:Type} {enc:TypeId × Value→H} {W:World} {base:Nat} {v:Value} {d:DataW H} {ps:List MemPlace}
  (hv:Value.okWide Tryz.prog W .any base 35 v) (h:DataW.Trod enc Tryz.prog W 0 (fun _=>true) true 35 v d ps):∃p c l,v=.slice p l.length c∧TxtsIn W p l∧∀s ∈ l,s.size≤maxLen:=by
 obtain⟨a0,len0,cap0,rfl⟩:=okWide_slice Tryz.underlying35 hv
 obtain⟨fuel,hf⟩:=h
 rcases Deep.open_strs Tryz.underlying35 Tryz.underlying9 cellsS hf with⟨hcs,_⟩ | ⟨a,len,cap,m,X,hcs,_,hl,hm,hmm,hx,hX⟩
 ·simp[Value.cells] at hcs
  obtain⟨rfl,rfl,rfl⟩:=hcs
  exact⟨none,0,[],rfl,Or.inl rfl,by intro d hd;cases hd⟩
 ·simp[Value.cells] at hcs
  obtain⟨rfl,rfl,rfl⟩:=hcs
  simp at hmm
  have hlen:((List.range len0).map X).length=len0:=by simp
  refine⟨some a,cap0,(List.range len0).map X,by rw[hlen], ?_, ?_⟩
  ·by_cases h0:len0=0
   ·left;rw[h0];rfl
   ·right
    obtain⟨b,off,spot⟩:=a
    have hc0:=(hX 0 (by omega)).1
    have hspot:spot=none:=by simpa[Addr.add] using World.cell?_spot hc0
    subst hspot
    refine⟨b,off,rfl,fun j hj=> ?_⟩
    rw[hlen] at hj
    have e:((List.range len0).map X).getD j eT=X j:=by
     rw[List.getD_eq_getElem?_getD,List.getElem?_map,List.getElem?_range hj];rfl
    rw[e]
    have h1:=(hX j (by omega)).1
    rw[Addr.add_lit] at h1
    exact h1
  ·intro x hx
   obtain⟨j,hj,rfl⟩:=List.mem_map.1 hx
   exact(hX j (by have:=List.mem_range.1 hj;omega)).2
end Hv
end Go.Proofs.YtlmdchpbpgcfmaaGreatDoor
