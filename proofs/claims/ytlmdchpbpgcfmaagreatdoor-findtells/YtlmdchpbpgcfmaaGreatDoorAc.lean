/- Ops in memory: in which blocks their row lies, and in which blocks the dots that they saw lie. -/
import Derived.Test.YtlmdchpbpgcfmaaGreatDoorA0
set_option linter.unusedVariables false
set_option maxRecDepth 100000
set_option maxHeartbeats 8000000
namespace Go.Proofs.YtlmdchpbpgcfmaaGreatDoor
namespace Ac
open Go.ChangeShapes Go.WideShapes Go.ChangeAt Go.RowKit Cm Ka Kb Na Om Oa Oz Oc Og Oi Hm Ia Ib Ic Idc Ie If Ig Ih Ii Ij Ik Il Im Iq Aa
open La (bel bel_drew errV_zero errV_ne own_ge own_grow own_below Lies)
/- op j of a row at b, o; its dots lie in blocks of Q -/
def OJt (Q:Nat→Prop) (w:World) (b o j:Nat) (x:Ox):Prop:=∃v,(w.cell? ⟨b,o+j*6,none⟩=some (.int .i64 x.1.1)∧w.cell? ⟨b,o+j*6+1,none⟩=some (.int .i64 x.1.2)∧w.cell? ⟨b,o+j*6+2,none⟩=some (.int .i64 x.2.1)∧w.cell? ⟨b,o+j*6+3,none⟩=some (.string x.2.2.1)∧w.cell? ⟨b,o+j*6+4,none⟩=some (.int .i64 x.2.2.2.1)∧w.cell? ⟨b,o+j*6+5,none⟩=some v)∧DtsAt w v x.2.2.2.2∧In Q v
def OpsK (R Q:Nat→Prop) (w:World) (p:Option Addr) (l:List Ox):Prop:=l=[]∨∃b o,p=some ⟨b,o,none⟩∧R b∧∀j,j<l.length→OJt Q w b o j (l.getD j oz)
def OpsJ (R Q:Nat→Prop) (w:World) (v:Value) (l:List Ox):Prop:=∃p c,v=.slice p l.length c∧OpsK R Q w p l∧l.length≤c∧c≤maxLen∧(p=none→c=0)
theorem OpsK.stay {R Q:Nat→Prop} {w w':World} {p:Option Addr} {l:List Ox} (h:OpsK R Q w p l) (hr:Stay R w w') (hs:Stay Q w w'):OpsK R Q w' p l:=by
 rcases h with e | ⟨b,o,hp,hG,hc⟩
 ·exact Or.inl e
 ·refine Or.inr ⟨b,o,hp,hG,fun j hj=> ?_⟩
  obtain⟨v,⟨h0,h1,h2,h3,h4,h5⟩,hd,hi⟩:=hc j hj
  have hg:=hr b hG
  exact⟨v,⟨(cell_stay hg).trans h0,(cell_stay hg).trans h1,(cell_stay hg).trans h2,(cell_stay hg).trans h3,(cell_stay hg).trans h4,(cell_stay hg).trans h5⟩,dots_stay hd hi hs,hi⟩
theorem OpsJ.stay {R Q:Nat→Prop} {w w':World} {v:Value} {l:List Ox} (h:OpsJ R Q w v l) (hr:Stay R w w') (hs:Stay Q w w'):OpsJ R Q w' v l:=by
 obtain⟨p,c,h1,h2,h3⟩:=h
 exact⟨p,c,h1,h2.stay hr hs,h3⟩
theorem cell_lt {w:World} {a:Addr} {v:Value} (h:w.cell? a=some v):a.block<w.heap.size:=by
 unfold World.cell? at h
 split at h
 ·rename_i h2;exact(Array.getElem?_eq_some_iff.1 h2).1
 ·cases h
theorem OpsK.below {R Q:Nat→Prop} {w w':World} {p:Option Addr} {l:List Ox} (h:OpsK R Q w p l) (hb:Below w.heap.size w w'):OpsK R Q w' p l:=by
 rcases h with e | ⟨b,o,hp,hG,hc⟩
 ·exact Or.inl e
 ·refine Or.inr ⟨b,o,hp,hG,fun j hj=> ?_⟩
  obtain⟨v,⟨h0,h1,h2,h3,h4,h5⟩,hd,hi⟩:=hc j hj
  exact⟨v,⟨keep_cell hb h0,keep_cell hb h1,keep_cell hb h2,keep_cell hb h3,keep_cell hb h4,keep_cell hb h5⟩,hd.below hb,hi⟩
theorem OpsJ.below {R Q:Nat→Prop} {w w':World} {v:Value} {l:List Ox} (h:OpsJ R Q w v l) (hb:Below w.heap.size w w'):OpsJ R Q w' v l:=by
 obtain⟨p,c,h1,h2,h3⟩:=h
 exact⟨p,c,h1,h2.below hb,h3⟩
theorem OpsK.some {R Q:Nat→Prop} {w:World} {p:Option Addr} {l:List Ox} (h:OpsK R Q w p l) (hl:l≠[]):∃b o,p=some ⟨b,o,none⟩∧R b∧∀j,j<l.length→OJt Q w b o j (l.getD j oz):=by
 rcases h with h | h
 ·exact absurd h hl
 ·exact h
theorem OpsJ.at{R Q:Nat→Prop} {w:World} {v:Value} {l:List Ox} (h:OpsJ R Q w v l):OpsAt w v l:=by
 obtain⟨p,c,h1,h2,h3⟩:=h
 refine⟨p,c,h1, ?_,h3⟩
 rcases h2 with e | ⟨b,o,hp,_,hc⟩
 ·exact Or.inl e
 ·refine Or.inr ⟨b,o,hp,fun j hj=> ?_⟩
  obtain⟨v,h6,hd,_⟩:=hc j hj
  exact⟨v,h6,hd⟩
theorem OpsJ.nil (R Q:Nat→Prop) (w:World):OpsJ R Q w (.slice none 0 0) []:=⟨none,0,rfl,Or.inl rfl,Nat.le_refl _,by unfold maxLen;omega,fun _=>rfl⟩
theorem OpsJ.mono {R Q R' Q':Nat→Prop} {w:World} {v:Value} {l:List Ox} (h:OpsJ R Q w v l) (hr:∀g,R g→R' g) (hs:∀g,Q g→Q' g):OpsJ R' Q' w v l:=by
 obtain⟨p,c,h1,h2,h3⟩:=h
 refine⟨p,c,h1, ?_,h3⟩
 rcases h2 with e | ⟨b,o,hp,hG,hc⟩
 ·exact Or.inl e
 ·refine Or.inr ⟨b,o,hp,hr b hG,fun j hj=> ?_⟩
  obtain⟨v,h6,hd,hi⟩:=hc j hj
  exact⟨v,h6,hd,hi.mono hs⟩
theorem dts_in {w:World} {v:Value} {l:List Dt} (h:DtsAt w v l):In (fun g=>g<w.heap.size) v:=fun a n c e hn=>by
 obtain⟨q,c2,hv,hin,_⟩:=h
 rw[e] at hv
 injection hv with e1 e2 e3
 rcases hin with e0 | ⟨bb,oo,hp9,hcs⟩
 ·rw[e0] at e2;simp at e2;omega
 ·rw[hp9] at e1
  injection e1 with e1
  rw[e1]
  exact(hcs 0 (by omega)).lt
/- ops that came in -/
theorem OpsJ.old {w:World} {v:Value} {l:List Ox} (h:OpsAt w v l):OpsJ (fun g=>g<w.heap.size) (fun g=>g<w.heap.size) w v l:=by
 obtain⟨p,c,h1,h2,h3⟩:=h
 refine⟨p,c,h1, ?_,h3⟩
 rcases h2 with e | ⟨b,o,hp,hc⟩
 ·exact Or.inl e
 ·by_cases e0:l=[]
  ·exact Or.inl e0
  ·refine Or.inr ⟨b,o,hp,(hc 0 (List.length_pos_iff.2 e0)).lt,fun j hj=> ?_⟩
   obtain⟨v,h6,hd⟩:=hc j hj
   exact⟨v,h6,hd,dts_in hd⟩
/- blocks that are new between two worlds -/
def New (B:Nat) (w:World) (g:Nat):Prop:=B≤g∧g<w.heap.size
/- a row of the call's own -/
theorem OpsJ.own {B:Nat} {Q:Nat→Prop} {w:World} {v:Value} {L:List (Ox × Value)} (h:RowL B w v L) (hd:∀y ∈ L,DtsAt w y.2 y.1.2.2.2.2∧In Q y.2):OpsJ (New B w) Q w v (L.map (·.1)):=by
 have hat:=own_ops h (fun y hy=>(hd y hy).1)
 obtain⟨p,c,h1,h2,h3⟩:=hat
 rcases h.shape with⟨e,e0⟩ | ⟨g,c9,e,hg,_,_⟩
 ·subst e0 e
  exact OpsJ.nil _ _ _
 ·rw[h1] at e
  injection e with e1 e2 e3
  subst e1 e3
  refine⟨some ⟨g,0,none⟩,c,h1, ?_,h3⟩
  by_cases e0:L.map (·.1)=[]
  ·exact Or.inl e0
  ·have hgl:g<w.heap.size:=(own_lt h g (by rw[h1];rfl)).1
   refine Or.inr ⟨g,0,rfl,⟨hg,hgl⟩,fun j hj=> ?_⟩
   have hj2:j<L.length:=by rwa [List.length_map] at hj
   have hy:=List.getElem?_eq_getElem hj2
   have e9:(L.map (·.1)).getD j oz=L[j].1:=by rw[List.getD_eq_getElem?_getD,List.getElem?_map,hy];rfl
   rw[e9]
   have hr:RowL B w (.slice (some ⟨g,0,none⟩) (L.map (·.1)).length c) L:=by rw[←h1];exact h
   have key:=hr.six hy
   refine⟨L[j].2,⟨?_, ?_, ?_, ?_, ?_, ?_⟩,hd _ (List.getElem_mem hj2)⟩
   ·have:=key 0 _ rfl;rwa [show j*6+0=0+j*6 by omega] at this
   ·have:=key 1 _ rfl;rwa [show j*6+1=0+j*6+1 by omega] at this
   ·have:=key 2 _ rfl;rwa [show j*6+2=0+j*6+2 by omega] at this
   ·have:=key 3 _ rfl;rwa [show j*6+3=0+j*6+3 by omega] at this
   ·have:=key 4 _ rfl;rwa [show j*6+4=0+j*6+4 by omega] at this
   ·have:=key 5 _ rfl;rwa [show j*6+5=0+j*6+5 by omega] at this
/- ops that stand whatever lies elsewhere lie there -/
def bare (B:Nat) (w:World):World:={ w with heap:=w.heap.mapIdx fun i o=>if i<B then .cells #[] 0 (0,0) else o }
theorem bare_new {B:Nat} {w:World} {k:Nat} (h:B≤k):(bare B w).heap[k]? =w.heap[k]? :=by
 unfold bare
 rw[Array.getElem?_mapIdx]
 cases h2:w.heap[k]? with
 | none=>rfl
 | some o=>simp only[Option.map_some];rw[if_neg (by omega)]
theorem bare_cell {B:Nat} {w:World} {a:Addr} {v:Value} (h:(bare B w).cell? a=some v):New B w a.block:=by
 by_cases hB:B≤a.block
 ·have h2:=cell_lt h
  exact⟨hB,by unfold bare at h2;simpa using h2⟩
 ·exfalso
  have hlt:=cell_lt h
  have hlt2:a.block<w.heap.size:=by unfold bare at hlt;simpa using hlt
  have e:(bare B w).heap[a.block]? =some (.cells #[] 0 (0,0)):=by
   unfold bare
   rw[Array.getElem?_mapIdx,Array.getElem?_eq_getElem hlt2]
   simp only[Option.map_some];rw[if_pos (by omega)]
  unfold World.cell? at h
  rw[e] at h
  simp at h
theorem OpsJ.kept {B:Nat} {w:World} {v:Value} {l:List Ox} (h:∀W:World,(∀k,B≤k→k<w.heap.size→W.heap[k]? =w.heap[k]?)→OpsAt W v l):OpsJ (New B w) (New B w) w v l:=by
 have h0:=h (bare B w) (fun k hk _=>bare_new hk)
 have hst:Stay (New B w) (bare B w) w:=fun g hg=>(bare_new hg.1).symm
 refine OpsJ.stay (w:=bare B w) ?_ hst hst
 obtain⟨p,c,h1,h2,h3⟩:=h0
 refine⟨p,c,h1, ?_,h3⟩
 rcases h2 with e | ⟨b,o,hp,hc⟩
 ·exact Or.inl e
 ·by_cases e0:l=[]
  ·exact Or.inl e0
  ·obtain⟨u,⟨g0,_⟩,_⟩:=hc 0 (List.length_pos_iff.2 e0)
   refine Or.inr ⟨b,o,hp,bare_cell g0,fun j hj=> ?_⟩
   obtain⟨u,h6,hd⟩:=hc j hj
   refine⟨u,h6,hd,fun a n c e hn=> ?_⟩
   obtain⟨q,c2,hv,hin,_⟩:=hd
   rw[e] at hv
   injection hv with e1 e2 e3
   rcases hin with e0 | ⟨bb,oo,hp9,hcs⟩
   ·rw[e0] at e2;simp at e2;omega
   ·rw[hp9] at e1
    injection e1 with e1
    rw[e1]
    exact bare_cell (hcs 0 (by omega)).1
/- ops that were made with room for all -/
end Ac
end Go.Proofs.YtlmdchpbpgcfmaaGreatDoor
