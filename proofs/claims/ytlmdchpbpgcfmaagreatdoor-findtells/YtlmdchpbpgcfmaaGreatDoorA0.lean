import Derived.Test.YtlmdchpbpgcfmaaGreatDoorJ13
import Derived.Test.YtlmdchpbpgcfmaaGreatDoorJ6
import Derived.Test.YtlmdchpbpgcfmaaGreatDoorJ7
import Derived.Deep.Strs
import Derived.ChangeSame
import Derived.ChangeOld
import Derived.Carry
import Derived.Test.YtlmdchpbpgcfmaaGreatDoorJ9
import Derived.Test.YtlmdchpbpgcfmaaGreatDoorU0
set_option linter.unusedVariables false
set_option maxRecDepth 100000
set_option maxHeartbeats 8000000
/- What DocMeets stands on: ops that are taken in whichever order, rows of them. -/
namespace Go.Proofs.YtlmdchpbpgcfmaaGreatDoor
namespace Iq
open Go.ChangeShapes Go.WideShapes Go.ChangeAt Go.RowKit Cm Ka Kb Na Om Oa Oz Oc Og Oi Hm Ia Ib Ic Idc Ie If Ig Ih Ii Ij Ik Il Im
open La (bel bel_drew errV_zero errV_ne own_ge own_grow own_below Lies)
open Lj (BookAt BookNew)
def nb:ByteArray:=⟨#[110,98]⟩
def o2:Ox:=((2,1),1,nb,104,[])
def d2:Dq:=apS d0 o2
/- ops that are applied one behind the other -/
def run (l:List Ox) (k:Nat):Dq:=(l.take k).foldl apS d0
theorem run_next {l:List Ox} {k:Nat} (hk:k<l.length):run l (k+1)=apS (run l k) (l.getD k oz):=by
 unfold run;rw[Im.take_next hk,List.foldl_append];rfl
theorem run_inv (l:List Ox) (k:Nat):Inv (run l k):=by
 unfold run
 generalize l.take k=m
 suffices h:∀(m:List Ox) (S:Dq),Inv S→Inv (m.foldl apS S) from h m d0 inv_zero
 intro m
 induction m with
 | nil=>intro S h;exact h
 | cons o m ih=>intro S h;exact ih _ (inv_ap h)
theorem ops_new {S:Dq} {o:Ox} (h:isNew S o=true):(apS S o).ops=S.ops++[o]:=by unfold apS;rw[h,if_pos rfl];rfl
/- what was taken of S's ops is T's; L is left, in the order of each author -/
structure MT (S T:Dq) (L:List Ox):Prop where
 inv:Inv T
 perm:(T.ops++L).Perm S.ops
 seq:Seq (fun w=>kn T w) L
 right:∀o ∈ L,opE o=0
 few:S.ops.length≤400
theorem MT.start {S:Dq} (I:Inv S) (O:Ord S):MT S d0 S.ops:=
 ⟨inv_zero,List.Perm.refl _,seq_congr (fun o ho=>by
  obtain⟨d1,d2,_,_⟩:=dotE_iff.1 (opE_zero.1 (I.right o ho)).1
  exact(ord_zero.kn _ d1 d2).symm) O.seq,I.right,I.few⟩
theorem MT.len {S T:Dq} {L:List Ox} (h:MT S T L):T.ops.length+L.length≤400:=by
 have:=h.perm.length_eq
 rw[List.length_append] at this
 have:=h.few
 omega
theorem MT.next {S T:Dq} {a b:List Ox} {x:Ox} (h:MT S T (a++x::b)) (hn:∀o ∈ a,o.1.1≠x.1.1):opE x=0∧kn T x.1.1+1=x.1.2∧T.ops.length<400:=by
 have h1:=(seq_take h.seq hn).1
 have h2:=h.len
 rw[List.length_append,List.length_cons] at h2
 exact⟨h.right x (by simp),h1,by omega⟩
theorem MT.step {S T:Dq} {a b:List Ox} {x:Ox} (h:MT S T (a++x::b)) (hn:∀o ∈ a,o.1.1≠x.1.1) (hw:isNew T x=true):MT S (apS T x) (a++b):=by
 have hx:=h.right x (by simp)
 obtain⟨d1,d2,_,_⟩:=dotE_iff.1 (opE_zero.1 hx).1
 refine⟨inv_ap h.inv, ?_, ?_,fun o ho=>h.right o ?_,h.few⟩
 ·rw[ops_new hw,List.append_assoc]
  refine List.Perm.trans ?_ h.perm
  have hp:(x::(a++b)).Perm (a++x::b):=List.perm_middle.symm
  exact List.Perm.append_left _ hp
 ·refine seq_congr (fun o ho=> ?_) (seq_take h.seq hn).2
  have ho2:=h.right o (by rcases List.mem_append.1 ho with e | e;exact List.mem_append_left _ e;exact List.mem_append_right _ (List.mem_cons_of_mem _ e))
  obtain⟨e1,e2,_,_⟩:=dotE_iff.1 (opE_zero.1 ho2).1
  unfold apS
  rw[hw,if_pos rfl,kn_next T x _ h.inv.klen e1 e2 d1 d2]
  rfl
 ·rcases List.mem_append.1 ho with e | e
  ·exact List.mem_append_left _ e
  ·exact List.mem_append_right _ (List.mem_cons_of_mem _ e)
theorem MT.all {S T:Dq} (I:Inv S) (h:MT S T []):S.book=T.book∧S.marks=T.marks∧S.known=T.known:=by
 have:=h.perm
 rw[List.append_nil] at this
 exact meet I h.inv this.symm
/- a row of ops of the law's own -/
def RowL (B:Nat) (w:World) (v:Value) (L:List (Ox × Value)):Prop:=w.ownsRow B 75 6 v L.length (flatO L)
theorem RowL.six {B:Nat} {w:World} {g n c:Nat} {L:List (Ox × Value)} (h:RowL B w (.slice (some ⟨g,0,none⟩) n c) L) {j:Nat} {y:Ox × Value} (hj:L[j]? =some y):∀i u,(six y.1 y.2)[i]? =some u→w.cell? ⟨g,j*6+i,none⟩=some u:=by
 intro i u hu
 have hl:L.length=n:=by
  rcases h.2 with⟨e,_⟩ | ⟨g2,cap,cur,e,_⟩
  ·cases e
  ·injection e with _ e _;exact e.symm
 have h2:w.ownsRow B 75 6 (.slice (some ⟨g,0,none⟩) n c) n (flatO L):=by unfold RowL at h;rw[hl] at h;exact h
 have:=h2.cells (g:=g) rfl (j*6+i) u (flatO_at hj i u hu)
 rw[Addr.add_lit,Nat.zero_add] at this
 exact this
theorem RowL.cells {B:Nat} {w:World} {g n c:Nat} {L:List (Ox × Value)} (h:RowL B w (.slice (some ⟨g,0,none⟩) n c) L):∀j u,(flatO L)[j]? =some u→w.cell? ⟨g,j,none⟩=some u:=by
 intro j u hu
 have hl:L.length=n:=by
  rcases h.2 with⟨e,_⟩ | ⟨g2,cap,cur,e,_⟩
  ·cases e
  ·injection e with _ e _;exact e.symm
 have h2:w.ownsRow B 75 6 (.slice (some ⟨g,0,none⟩) n c) n (flatO L):=by unfold RowL at h;rw[hl] at h;exact h
 have:=h2.cells (g:=g) rfl j u hu
 rw[Addr.add_lit,Nat.zero_add] at this
 exact this
theorem RowL.shape {B:Nat} {w:World} {v:Value} {L:List (Ox × Value)} (h:RowL B w v L):(v=.slice none 0 0∧L=[])∨∃g c,v=.slice (some ⟨g,0,none⟩) L.length c∧B≤g∧L.length≤c∧c≤maxLen:=by
 rcases h.2 with⟨e,e0⟩ | ⟨g,cap,cur,e,h1,_,h3,h4,_⟩
 ·exact Or.inl ⟨e,List.eq_nil_of_length_eq_zero e0⟩
 ·exact Or.inr ⟨g,cap,e,h1,h3,h4⟩
theorem flatO_one (L:List (Ox × Value)) (h:∀y ∈ L,∃p n c,y.2=.slice p n c):∀u ∈ flatO L,u.oneCell'=true:=by
 intro u hu
 unfold flatO at hu
 obtain⟨y,hy,hu⟩:=List.mem_flatMap.1 hu
 obtain⟨p,n,c,e⟩:=h y hy
 simp only[six,List.mem_cons,List.not_mem_nil,or_false] at hu
 rcases hu with rfl | rfl | rfl | rfl | rfl | rfl
 ·rfl
 ·rfl
 ·rfl
 ·rfl
 ·rfl
 ·rw[e];rfl
/- what an op that came in is good for: its dots lie below, its place is no longer than any text -/
def OkL (w:World) (L:List (Ox × Value)):Prop:=∀y ∈ L,DtsAt w y.2 y.1.2.2.2.2∧y.1.2.2.1.size≤maxLen
theorem OkL.shape {w:World} {L:List (Ox × Value)} (h:OkL w L):∀y ∈ L,∃p n c,y.2=.slice p n c:=fun y hy=>by
 obtain⟨p,c,e,_⟩:=(h y hy).1
 exact⟨p,_,c,e⟩
/- the places of a list of numbers -/
/- dots that came in lie off a doc that lies above -/
theorem off_old {w:World} {v:Value} {l:List Dt} {F:Nat→Prop} (h:DtsAt w v l) (hF:∀g,F g→w.heap.size≤g):In (fun g=>¬F g) v:=fun a n c e hn hf=>by
 obtain⟨q,c2,hv,hin,_⟩:=h
 rw[e] at hv
 injection hv with e1 e2 e3
 rcases hin with e0 | ⟨bb,oo,hp9,hcs⟩
 ·rw[e0] at e2;simp at e2;omega
 ·rw[hp9] at e1
  injection e1 with e1
  rw[e1] at hf
  have:=hF _ hf
  have:=(hcs 0 (by omega)).lt
  simp only at *
  omega
end Iq
end Go.Proofs.YtlmdchpbpgcfmaaGreatDoor
/- Ops that came in: they lie in memory. -/
namespace Go.Proofs.YtlmdchpbpgcfmaaGreatDoor
namespace Oo
open Go.ChangeShapes Go.WideShapes Go.ChangeAt Go.RowKit Cm Ka Kb Na Om Oa Oz
theorem laidOut:laidOutB Tryz.prog=true:=by kernel_rfl
theorem cellsO:Tryz.prog.cellsOf 75=6:=by kernel_rfl
theorem cellsD:Tryz.prog.cellsOf 72=2:=by kernel_rfl
theorem cellsL:Tryz.prog.cellsOf 73=1:=by kernel_rfl
theorem cellsS:Tryz.prog.cellsOf 9=1:=by kernel_rfl
theorem cellsI:Tryz.prog.cellsOf 3=1:=by kernel_rfl
theorem trod_struct5 {H:Type} {enc:TypeId × Value→H} {W:World} {base:Nat} {spare:Nat→Bool} {held:Bool} {t:TypeId} {f0 f1 f2 f3 f4:Field} {fuel:Nat} {cs:List Value} {x:DataW H × List MemPlace} (ht:Tryz.prog.underlying t=some (.struct #[f0,f1,f2,f3,f4])) (h:DataW.trod enc Tryz.prog W base spare held fuel t cs=some x):
  ∃y0 y1 y2 y3 y4 n,cs.length=Tryz.prog.cellsOf t∧DataW.trod enc Tryz.prog W base spare held n f0.type ((cs.drop f0.offset).take (Tryz.prog.cellsOf f0.type))=some y0∧
   DataW.trod enc Tryz.prog W base spare held n f1.type ((cs.drop f1.offset).take (Tryz.prog.cellsOf f1.type))=some y1∧DataW.trod enc Tryz.prog W base spare held n f2.type ((cs.drop f2.offset).take (Tryz.prog.cellsOf f2.type))=some y2∧
   DataW.trod enc Tryz.prog W base spare held n f3.type ((cs.drop f3.offset).take (Tryz.prog.cellsOf f3.type))=some y3∧DataW.trod enc Tryz.prog W base spare held n f4.type ((cs.drop f4.offset).take (Tryz.prog.cellsOf f4.type))=some y4:=by
 obtain⟨xs,n,_,rfl,hl,hlen,hf⟩:=DataW.trod_struct ht h
 match xs,hlen with
 | [y0,y1,y2,y3,y4],_=>exact⟨y0,y1,y2,y3,y4,n,hl,by simpa using hf 0 f0 rfl,by simpa using hf 1 f1 rfl,by simpa using hf 2 f2 rfl,by simpa using hf 3 f3 rfl,by simpa using hf 4 f4 rfl⟩
theorem open_dot {H:Type} {enc:TypeId × Value→H} {W:World} {base fuel:Nat} {spare:Nat→Bool} {held:Bool} {cs:List Value} {x:DataW H × List MemPlace} (h:DataW.trod enc Tryz.prog W base spare held fuel 72 cs=some x):
  ∃y:Dt,cs=[.int .i64 y.1,.int .i64 y.2]:=by
 obtain⟨y0,y1,n,_,hl,h0,h1⟩:=ChangeShapes.trod_struct2 Tryz.underlying72 h
 rw[cellsD] at hl
 match cs,hl with
 | [c0,c1],_=>
  simp only[cellsI,List.drop_zero,List.drop_succ_cons,List.take_succ_cons,List.take_zero] at h0 h1
  obtain⟨m,e0,_,_⟩:=DataW.trod_int Tryz.underlying3 h0
  obtain⟨k,e1,_,_⟩:=DataW.trod_int Tryz.underlying3 h1
  simp only[List.cons.injEq,and_true] at e0 e1
  subst e0 e1
  exact⟨(m,k),rfl⟩
theorem open_seen {H:Type} {enc:TypeId × Value→H} {W:World} {base fuel:Nat} {held:Bool} {v:Value} {x:DataW H × List MemPlace} (h:DataW.trod enc Tryz.prog W base (fun _=>true) held fuel 73 [v]=some x):
  ∃l,DtsAt W v l:=by
 rcases Deep.open_slice Tryz.underlying73 h with⟨hcs,_⟩ | ⟨a,len,cap,m,n,D,Pl,hcs,_,hl,hm,hmm,hx,hel⟩
 ·simp only[List.cons.injEq,and_true] at hcs
  subst hcs
  exact⟨[],DtsAt.nil W⟩
 ·simp only[List.cons.injEq,and_true] at hcs
  subst hcs
  simp at hmm
  have each:∀i,i<len→∃y:Dt,W.cell? (a.add (i*2))=some (.int .i64 y.1)∧W.cell? (a.add (i*2+1))=some (.int .i64 y.2):=by
   intro i hi
   obtain⟨cs',h1,h2⟩:=hel i (by omega)
   rw[cellsD] at h1
   obtain⟨y,rfl⟩:=open_dot h2
   obtain⟨_,_,hc⟩:=World.cells?_some h1
   refine⟨y, ?_, ?_⟩
   ·have:=hc 0 (by omega);rw[Deep.add_add,Nat.add_zero] at this;exact this
   ·have:=hc 1 (by omega);rw[Deep.add_add] at this;exact this
  obtain⟨X,hX⟩:=Deep.choose_lt (α :=Dt) each
  have hlen:((List.range len).map X).length=len:=by simp
  refine⟨(List.range len).map X,⟨some a,cap,by rw[hlen], ?_,by rw[hlen];exact hl,hm,fun h=>by cases h⟩⟩
  ·by_cases h0:len=0
   ·left;rw[h0];rfl
   ·right
    obtain⟨b,off,spot⟩:=a
    have hc0:=(hX 0 (by omega)).1
    have hspot:spot=none:=by simpa[Addr.add] using World.cell?_spot hc0
    subst hspot
    refine⟨b,off,rfl,fun j hj=> ?_⟩
    rw[hlen] at hj
    have e:((List.range len).map X).getD j noneD=X j:=by
     rw[List.getD_eq_getElem?_getD,List.getElem?_map,List.getElem?_range hj];rfl
    rw[e]
    obtain⟨h1,h2⟩:=hX j hj
    rw[Addr.add_lit] at h1 h2
    exact⟨h1,h2⟩
theorem open_opc {H:Type} {enc:TypeId × Value→H} {W:World} {base fuel:Nat} {held:Bool} {cs:List Value} {x:DataW H × List MemPlace} (h:DataW.trod enc Tryz.prog W base (fun _=>true) held fuel 75 cs=some x):
  ∃(y:Ox) (v:Value),cs=six y v∧DtsAt W v y.2.2.2.2∧y.2.2.1.size≤maxLen:=by
 obtain⟨y0,y1,y2,y3,y4,n,hl,h0,h1,h2,h3,h4⟩:=trod_struct5 Tryz.underlying75 h
 rw[cellsO] at hl
 match cs,hl with
 | [c0,c1,c2,c3,c4,c5],_=>
  simp only[cellsS,cellsD,cellsI,cellsL,List.drop_zero,List.drop_succ_cons,List.take_succ_cons,List.take_zero] at h0 h1 h2 h3 h4
  obtain⟨d,e0⟩:=open_dot h0
  obtain⟨t,e1,_,_⟩:=DataW.trod_int Tryz.underlying3 h1
  obtain⟨s,e2,_,hs⟩:=DataW.trod_string Tryz.underlying9 h2
  obtain⟨c,e3,_,_⟩:=DataW.trod_int Tryz.underlying3 h3
  obtain⟨l,hd⟩:=open_seen h4
  simp only[List.cons.injEq,and_true] at e0 e1 e2 e3
  obtain⟨e0,e0'⟩:=e0
  subst e0 e0' e1 e2 e3
  exact⟨(d,t,s,c,l),c5,rfl,hd,hs⟩
/- an op by value -/
theorem open_ops {H:Type} {enc:TypeId × Value→H} {W:World} {base:Nat} {v:Value} {d:DataW H} {ps:List MemPlace}
  (hv:Value.okWide Tryz.prog W .any base 55 v) (h:DataW.Trod enc Tryz.prog W 0 (fun _=>true) true 55 v d ps):
  ∃l,OpsAt W v l∧∀x ∈ l,x.2.2.1.size≤maxLen:=by
 obtain⟨a0,len0,cap0,rfl⟩:=okWide_slice Tryz.underlying55 hv
 obtain⟨fuel,hf⟩:=h
 rcases Deep.open_slice Tryz.underlying55 hf with⟨hcs,_⟩ | ⟨a,len,cap,m,n,D,Pl,hcs,_,hl,hm,hmm,hx,hel⟩
 ·simp[Value.cells] at hcs
  obtain⟨rfl,rfl,rfl⟩:=hcs
  exact⟨[],OpsAt.nil W,by intro x hx;simp at hx⟩
 ·simp[Value.cells] at hcs
  obtain⟨rfl,rfl,rfl⟩:=hcs
  simp at hmm
  have each:∀i,i<len0→∃y:Ox × Value,(W.cell? (a.add (i*6))=some (.int .i64 y.1.1.1)∧W.cell? (a.add (i*6+1))=some (.int .i64 y.1.1.2)∧W.cell? (a.add (i*6+2))=some (.int .i64 y.1.2.1)∧W.cell? (a.add (i*6+3))=some (.string y.1.2.2.1)∧W.cell? (a.add (i*6+4))=some (.int .i64 y.1.2.2.2.1)∧W.cell? (a.add (i*6+5))=some y.2)∧DtsAt W y.2 y.1.2.2.2.2∧y.1.2.2.1.size≤maxLen:=by
   intro i hi
   obtain⟨cs',h1,h2⟩:=hel i (by omega)
   rw[cellsO] at h1
   obtain⟨y,u,rfl,hd,hs⟩:=open_opc h2
   obtain⟨_,_,hc⟩:=World.cells?_some h1
   refine⟨(y,u),⟨?_, ?_, ?_, ?_, ?_, ?_⟩,hd,hs⟩
   ·have:=hc 0 (by omega);rw[Deep.add_add,Nat.add_zero] at this;exact this
   ·have:=hc 1 (by omega);rw[Deep.add_add] at this;exact this
   ·have:=hc 2 (by omega);rw[Deep.add_add] at this;exact this
   ·have:=hc 3 (by omega);rw[Deep.add_add] at this;exact this
   ·have:=hc 4 (by omega);rw[Deep.add_add] at this;exact this
   ·have:=hc 5 (by omega);rw[Deep.add_add] at this;exact this
  obtain⟨X,hX⟩:=Deep.choose_lt (α :=Ox × Value) each
  have hlen:((List.range len0).map fun i=>(X i).1).length=len0:=by simp
  refine⟨(List.range len0).map fun i=>(X i).1,⟨some a,cap0,by rw[hlen], ?_,by rw[hlen];exact hl,hm,fun h=>by cases h⟩, ?_⟩
  ·by_cases h0:len0=0
   ·left;rw[h0];rfl
   ·right
    obtain⟨b,off,spot⟩:=a
    have hc0:=(hX 0 (by omega)).1.1
    have hspot:spot=none:=by simpa[Addr.add] using World.cell?_spot hc0
    subst hspot
    refine⟨b,off,rfl,fun j hj=> ?_⟩
    rw[hlen] at hj
    have e:((List.range len0).map fun i=>(X i).1).getD j oz=(X j).1:=by
     rw[List.getD_eq_getElem?_getD,List.getElem?_map,List.getElem?_range hj];rfl
    rw[e]
    obtain⟨⟨h1,h2,h3,h4,h5,h6⟩,hd,_⟩:=hX j hj
    rw[Addr.add_lit] at h1 h2 h3 h4 h5 h6
    exact⟨(X j).2,⟨h1,h2,h3,h4,h5,h6⟩,hd⟩
  ·intro x hx
   obtain⟨j,hj,rfl⟩:=List.mem_map.1 hx
   exact(hX j (List.mem_range.1 hj)).2.2
end Oo
end Go.Proofs.YtlmdchpbpgcfmaaGreatDoor
/- Ops that wait, and those that are next: what a buffer does, plainly; ops that can all be done are all done, in whichever order they come. No program is named here. -/
namespace Go.Proofs.YtlmdchpbpgcfmaaGreatDoor
namespace Ja
open Cm Om Hm
/- the op that waits at a dot; the others -/
def dotIn (L:List Ox) (d:Dt):Option Ox:=L.find? fun o=>decide (o.1=d)
def rid (d:Dt):List Ox→List Ox
 | []=>[]
 | o::L=>if d=o.1 then L else o::rid d L
/- of n authors behind k, the first one that has an op which is next -/
def nextAt (S:Dq) (L:List Ox):Nat→Nat→Option Ox
 | 0,_=>none
 | n+1,k=>match dotIn L ((k:Int)+1,kn S ((k:Int)+1)+1) with | some o=>some o | none=>nextAt S L n (k+1)
def nextO (S:Dq) (L:List Ox):Option Ox:=nextAt S L 8 0
def hasW (S:Dq) (L:List Ox) (o:Ox):Bool:=(dotIn L o.1).isSome||decide (o.1.2≤kn S o.1.1)
theorem dotIn_some {L:List Ox} {d:Dt} {o:Ox} (h:dotIn L d=some o):o ∈ L∧o.1=d:=by
 unfold dotIn at h
 exact⟨List.mem_of_find?_eq_some h,by simpa using List.find?_some h⟩
theorem dotIn_none {L:List Ox} {d:Dt} (h:dotIn L d=none):∀o ∈ L,o.1≠d:=by
 unfold dotIn at h
 intro o ho e
 have:=List.find?_eq_none.1 h o ho
 simp[e] at this
theorem rid_perm {d:Dt}:∀{L:List Ox} {o:Ox},dotIn L d=some o→(o::rid d L).Perm L
 | [],o,h=>by simp[dotIn] at h
 | x::L,o,h=>by
  unfold rid
  by_cases e:d=x.1
  ·rw[if_pos e]
   have:dotIn (x::L) d=some x:=by unfold dotIn;rw[List.find?_cons_of_pos (by simp[e])]
   rw[this] at h
   injection h with h
   rw[h]
  ·rw[if_neg e]
   have h2:dotIn L d=some o:=by
    unfold dotIn at h ⊢
    rwa [List.find?_cons_of_neg (by simp;exact fun e9=>e e9.symm)] at h
   exact(List.Perm.swap x o _).trans ((rid_perm h2).cons x)
theorem rid_sub (d:Dt):∀L:List Ox,(rid d L).Sublist L
 | []=>List.Sublist.refl _
 | x::L=>by
  unfold rid
  by_cases e:d=x.1
  ·rw[if_pos e];exact List.sublist_cons_self x L
  ·rw[if_neg e];exact(rid_sub d L).cons_cons x
theorem nextAt_some {S:Dq} {L:List Ox}:∀{n k:Nat} {o:Ox},nextAt S L n k=some o→∃j,k≤j∧j<k+n∧dotIn L ((j:Int)+1,kn S ((j:Int)+1)+1)=some o
 | 0,k,o,h=>by simp[nextAt] at h
 | n+1,k,o,h=>by
  unfold nextAt at h
  cases hq:dotIn L ((k:Int)+1,kn S ((k:Int)+1)+1) with
  | some x=>rw[hq] at h;injection h with h;exact⟨k,Nat.le_refl _,by omega,by rw[hq,h]⟩
  | none=>
   rw[hq] at h
   obtain⟨j,h1,h2,h3⟩:=nextAt_some h
   exact⟨j,by omega,by omega,h3⟩
theorem nextAt_none {S:Dq} {L:List Ox}:∀{n k:Nat},nextAt S L n k=none→∀j,k≤j→j<k+n→dotIn L ((j:Int)+1,kn S ((j:Int)+1)+1)=none
 | 0,k,h,j,h1,h2=>by omega
 | n+1,k,h,j,h1,h2=>by
  unfold nextAt at h
  cases hq:dotIn L ((k:Int)+1,kn S ((k:Int)+1)+1) with
  | some x=>rw[hq] at h;cases h
  | none=>
   rw[hq] at h
   by_cases e:j=k
   ·rw[e];exact hq
   ·exact nextAt_none h j (by omega) (by omega)
theorem nextO_some {S:Dq} {L:List Ox} {o:Ox} (h:nextO S L=some o):dotIn L o.1=some o∧o ∈ L∧1≤o.1.1∧o.1.1≤8∧kn S o.1.1+1=o.1.2:=by
 obtain⟨j,_,h2,h3⟩:=nextAt_some h
 obtain⟨h4,h5⟩:=dotIn_some h3
 rw[h5]
 exact⟨h3,h4,by simp;omega,by simp;omega,rfl⟩
theorem nextO_none {S:Dq} {L:List Ox} (h:nextO S L=none):∀o ∈ L,1≤o.1.1→o.1.1≤8→kn S o.1.1+1≠o.1.2:=by
 intro o ho h1 h2 e
 have h3:=nextAt_none h (o.1.1-1).toNat (by omega) (by omega)
 rw[show(((o.1.1-1).toNat:Nat):Int)+1=o.1.1 by omega,e] at h3
 exact dotIn_none h3 o ho rfl
/- what stays right of those that wait -/
structure Wt (L:List Ox):Prop where
 right:∀o ∈ L,opE o=0
 apart:(L.map (·.1)).Nodup
 few:L.length≤400
theorem Wt.nil:Wt []:=⟨fun o ho=>by simp at ho,by simp,by simp⟩
theorem Wt.rid {L:List Ox} (h:Wt L) (d:Dt):Wt (rid d L):=
 ⟨fun o ho=>h.right o ((rid_sub d L).subset ho),h.apart.sublist ((rid_sub d L).map _),Nat.le_trans (rid_sub d L).length_le h.few⟩
theorem Wt.push {S:Dq} {L:List Ox} {o:Ox} (h:Wt L) (h0:opE o=0) (hh:hasW S L o=false) (hf:¬400≤L.length):Wt (L++[o]):=by
 unfold hasW at hh
 simp only[Bool.or_eq_false_iff] at hh
 refine⟨fun x hx=> ?_, ?_,by simp;omega⟩
 ·rcases List.mem_append.1 hx with e | e
  ·exact h.right x e
  ·rw[List.mem_singleton.1 e];exact h0
 ·rw[List.map_append,List.nodup_append]
  refine⟨h.apart,by simp,fun a ha b hb=> ?_⟩
  obtain⟨x,hx,rfl⟩:=List.mem_map.1 ha
  have hb2:b=o.1:=by simpa using hb
  rw[hb2]
  have hn:dotIn L o.1=none:=by
   cases hq:dotIn L o.1 with
   | none=>rfl
   | some y=>rw[hq] at hh;simp at hh
  exact dotIn_none hn x hx
/- and how many wait, at most, behind one more -/
/- the order of dots; those that wait, in it -/
/- every dot of a doc that was reached has its op -/
theorem seq_all:∀{l:List Ox} {k:Int→Int},Seq k l→∀(w n:Int),k w<n→n≤l.foldl up k w→∃o ∈ l,o.1=(w,n)
 | [],k,_,w,n,h1,h2=>by simp at h2;omega
 | x::l,k,hs,w,n,h1,h2=>by
  by_cases e:up k x w<n
  ·obtain⟨o,ho,h3⟩:=seq_all hs.2 w n e h2
   exact⟨o,List.mem_cons_of_mem _ ho,h3⟩
  ·refine⟨x,List.mem_cons_self .., ?_⟩
   unfold up at e
   by_cases e2:w=x.1.1
   ·rw[if_pos e2] at e
    have:=hs.1
    rw[e2] at h1
    have:n=x.1.2:=by omega
    rw[e2,this]
   ·rw[if_neg e2] at e;omega
theorem ord_all {S:Dq} (O:Ord S) {w n:Int} (hw:1≤w∧w≤8) (h1:1≤n) (h2:n≤kn S w):∃o ∈ S.ops,o.1=(w,n):=
 seq_all O.seq w n (by omega) (by rw[←O.kn w hw.1 hw.2];exact h2)
theorem seq_nodup:∀{l:List Ox} {k:Int→Int},Seq k l→(l.map (·.1)).Nodup
 | [],_,_=>by simp
 | x::l,k,hs=>by
  rw[List.map_cons,List.nodup_cons]
  refine⟨fun hm=> ?_,seq_nodup hs.2⟩
  obtain⟨y,hy,e⟩:=List.mem_map.1 hm
  have h1:=seq_mono hs.2 y hy
  unfold up at h1
  rw[e] at h1
  simp at h1
/- a doc S took all; of its ops T has taken some, L wait, R are still to come -/
structure Pre (S T:Dq) (L R:List Ox):Prop where
 invS:Inv S
 ordS:Ord S
 inv:Inv T
 ord:Ord T
 perm:(T.ops++(L++R)).Perm S.ops
 few:S.ops.length≤60
theorem Pre.nodup {S T:Dq} {L R:List Ox} (h:Pre S T L R):((T.ops++(L++R)).map (·.1)).Nodup:=
 (h.perm.map _).nodup_iff.2 (seq_nodup h.ordS.seq)
theorem Pre.mem {S T:Dq} {L R:List Ox} (h:Pre S T L R) {o:Ox} (ho:o ∈ L∨o ∈ R):o ∈ S.ops∧opE o=0∧(1≤o.1.1∧o.1.1≤8)∧1≤o.1.2:=by
 have hm:o ∈ S.ops:=h.perm.mem_iff.1 (List.mem_append_right _ (List.mem_append.2 ho))
 have h0:=h.invS.right o hm
 obtain⟨d1,d2,d3,d4⟩:=dotE_iff.1 (opE_zero.1 h0).1
 exact⟨hm,h0,⟨d1,d2⟩,d3⟩
theorem Pre.len {S T:Dq} {L R:List Ox} (h:Pre S T L R):T.ops.length+(L.length+R.length)=S.ops.length:=by
 have:=h.perm.length_eq
 simpa using this
/- what waits or is still to come is not known -/
theorem Pre.fresh {S T:Dq} {L R:List Ox} (h:Pre S T L R) {o:Ox} (ho:o ∈ L∨o ∈ R):¬o.1.2≤kn T o.1.1:=by
 intro hk
 obtain⟨_,_,hw,hn⟩:=h.mem ho
 obtain⟨x,hx,hxe⟩:=ord_all h.ord hw hn hk
 have hnd:=h.nodup
 rw[List.map_append,List.nodup_append] at hnd
 refine hnd.2.2 x.1 (List.mem_map.2 ⟨x,hx,rfl⟩) o.1 (List.mem_map.2 ⟨o,List.mem_append.2 ho,rfl⟩) hxe
theorem Pre.clash {S T:Dq} {L R:List Ox} (h:Pre S T L R) {o:Ox} (ho:o ∈ L):doE T o≠7:=by
 obtain⟨hm,h0,_,_⟩:=h.mem (Or.inl ho)
 intro h7
 obtain⟨e1,e2,e3,e4⟩:=opE_zero.1 h0
 have hw:Bm.withE T.book o.2.2.1=0:=Bm.withE_zero.2 ⟨h.inv.book,e3⟩
 have hp:Bm.putE T.book o.2.2.1≠7:=by unfold Bm.putE;split<;>simp
 unfold doE at h7
 by_cases t1:o.2.1=1
 ·rw[if_pos t1] at h7
  unfold Bm.writeE Bm.wrE at h7
  have hl:=(lawOf_zero.1 e4).1 t1
  have hL:Bm.isL o.2.2.2.1=true:=by unfold Bm.isL;simp;omega
  rw[if_neg (by simpa using hw),if_neg (by rw[hL];decide)] at h7
  by_cases hc:Bm.clash (Bm.leafAt T.book o.2.2.1) o.2.2.2.1=true
  ·unfold Bm.clash at hc
   simp only[Bool.and_eq_true,bne_iff_ne,ne_eq] at hc
   obtain⟨x,hx,x1,x2⟩:=h.inv.wr' _ hc.1
   have q1:=h.inv.wr x hx x1
   have q2:=h.invS.wr x (h.perm.mem_iff.1 (List.mem_append_left _ hx)) x1
   have q3:=h.invS.wr o hm t1
   rw[x2] at q1 q2
   exact hc.2 (by rw[q1,←q2,q3])
  ·rw[if_neg hc] at h7;exact hp h7
 ·rw[if_neg t1] at h7
  by_cases t2:o.2.1=2
  ·rw[if_pos t2] at h7
   unfold Bm.strikeE at h7
   rw[if_neg (by simpa using hw)] at h7
   exact hp h7
  ·rw[if_neg t2] at h7
   split at h7
   ·split at h7
    ·cases h7
    ·unfold withM at h7
     split at h7
     ·cases h7
     ·split at h7
      ·cases h7
      ·cases h7
   ·cases h7
theorem Pre.start {S:Dq} (I:Inv S) (O:Ord S) (hf:S.ops.length≤60):Pre S d0 [] S.ops:=
 ⟨I,O,inv_zero,ord_zero,List.Perm.refl _,hf⟩
theorem Pre.step {S T:Dq} {L R:List Ox} {o:Ox} (h:Pre S T L R) (hn:nextO T L=some o) (hw:isNew T o=true):Pre S (apS T o) (rid o.1 L) R:=by
 refine⟨h.invS,h.ordS,inv_ap h.inv,ord_ap h.inv h.ord, ?_,h.few⟩
 have hops:(apS T o).ops=T.ops++[o]:=by unfold apS;rw[hw,if_pos rfl];rfl
 rw[hops,List.append_assoc]
 refine List.Perm.trans (List.Perm.append_left _ ?_) h.perm
 show(o::(rid o.1 L++R)).Perm (L++R)
 exact(rid_perm (nextO_some hn).1).append_right R
/- one more is put: it is taken, or nothing more is asked -/
/- in the end none waits -/
theorem min_mem:∀(L:List Ox),L≠[]→∃o ∈ L,∀x ∈ L,o.1.2≤x.1.2
 | [],h=>absurd rfl h
 | [x],_=>⟨x,by simp,fun y hy=>by rw[List.mem_singleton.1 hy];exact Int.le_refl _⟩
 | x::y::L,_=>by
  obtain⟨o,ho,hm⟩:=min_mem (y::L) (by simp)
  by_cases e:o.1.2≤x.1.2
  ·exact⟨o,List.mem_cons_of_mem _ ho,fun z hz=>by
    rcases List.mem_cons.1 hz with rfl | hz
    ·exact e
    ·exact hm z hz⟩
  ·exact⟨x,List.mem_cons_self ..,fun z hz=>by
    rcases List.mem_cons.1 hz with rfl | hz
    ·exact Int.le_refl _
    ·have:=hm z hz;omega⟩
theorem Pre.none {S T:Dq} {L:List Ox} (h:Pre S T L []) (hn:nextO T L=none):L=[]:=by
 cases hL:L with
 | nil=>rfl
 | cons y ys=>
  exfalso
  obtain⟨o,ho,hmin⟩:=min_mem L (by rw[hL];simp)
  obtain⟨hm,h0,hw,h1⟩:=h.mem (Or.inl ho)
  have hf:=h.fresh (Or.inl ho)
  refine nextO_none hn o ho hw.1 hw.2 ?_
  by_cases e1:o.1.2=1
  ·have hk0:0≤kn T o.1.1:=by rw[h.inv.kno _ hw.1 hw.2];omega
   omega
  ·have hkS:=known_mem h.invS h.ordS o hm
   obtain⟨x,hx,hxe⟩:=ord_all h.ordS hw (n:=o.1.2-1) (by omega) (by omega)
   have hx2:=h.perm.mem_iff.2 hx
   have x2:x.1.2=o.1.2-1:=by rw[hxe]
   have x1:x.1.1=o.1.1:=by rw[hxe]
   rcases List.mem_append.1 hx2 with hx2 | hx2
   ·have:=known_mem h.inv h.ord x hx2
    rw[x1] at this
    omega
   ·rw[List.append_nil] at hx2
    have:=hmin x hx2
    omega
theorem Pre.all {S T:Dq} (h:Pre S T [] []):S.book=T.book∧S.marks=T.marks∧S.known=T.known∧T.ops.length=S.ops.length:=by
 have hp:=h.perm
 rw[List.append_nil,List.append_nil] at hp
 obtain⟨h1,h2,h3⟩:=meet h.invS h.inv hp.symm
 exact⟨h1,h2,h3,hp.length_eq⟩
end Ja
end Go.Proofs.YtlmdchpbpgcfmaaGreatDoor
/- What one lacks of ops: plain mathematics. No program is named here. -/
namespace Go.Proofs.YtlmdchpbpgcfmaaGreatDoor
namespace Aa
open Cm Om Hm Um
def lacks (v:List Int) (o:Ox):Bool:= !decide (o.1.2≤v.getD (o.1.1-1).toNat 0)
/- how many are new, up to the first error -/
/- two that have what the other one has -/
/- what a parcel has is applied -/
end Aa
end Go.Proofs.YtlmdchpbpgcfmaaGreatDoor
/- Two that have what the other one has know the same, and lack nothing more: plain mathematics. -/
namespace Go.Proofs.YtlmdchpbpgcfmaaGreatDoor
namespace Ab
open Cm Om Hm Um Aa
/- an op that is taken without a fault is known behind it -/
theorem ops_ap {S:Dq} {o x:Ox} (h:x ∈ S.ops):x ∈ (apS S o).ops:=by
 unfold apS
 cases hn:isNew S o with
 | false=>exact h
 | true=>rw[if_pos rfl];exact List.mem_append_left _ h
/- what one had, the other one knows -/
/- then none lacks anything -/
end Ab
end Go.Proofs.YtlmdchpbpgcfmaaGreatDoor
