import Derived.Test.YtlmdchpbpgcfmaaGreatDoorJ7
import Derived.Test.YtlmdchpbpgcfmaaGreatDoorJ1
import Derived.Lib.Split
import Derived.Lib.Join
import Derived.Lib.ItoaNum
import Derived.Lib.Atoi
import Derived.Test.YtlmdchpbpgcfmaaGreatDoorRows
import Derived.WalkKit
import Derived.WalkLawsBesides
import Derived.WalkSpells
import Derived.ProofKit
import Derived.OpenShut
import Derived.OwnWalk
import Derived.Maps.AppendAt
import Derived.RegionTactic
import Derived.Deep.QuietTactic
import Derived.BigQuiet
set_option linter.unusedVariables false
set_option maxRecDepth 100000
set_option maxHeartbeats 8000000
/- The plain mathematics of docs: ops that are applied one behind the other; in whichever order, they come to the same. No program is named here. -/
namespace Go.Proofs.YtlmdchpbpgcfmaaGreatDoor
namespace Hm
open Cm Om
/- a doc: its book, its marks, what is known, the ops as they came -/
structure Dq where
 book:List Bm.Leaf
 marks:List Mk
 known:List Int
 ops:List Ox
def d0:Dq:=⟨[],[],List.replicate 8 0,[]⟩
def kn (S:Dq) (who:Int):Int:=S.known.getD (who-1).toNat 0
def saw (l:List Ox) (p:ByteArray) (d:Dt):Bool:=l.any fun o=>decide (o.2.1=4)&&(decide (o.2.2.1=p)&&decide (d ∈ o.2.2.2.2))
def doE (S:Dq) (o:Ox):Int:=
 if o.2.1=1 then Bm.writeE S.book o.2.2.1 o.2.2.2.1
 else if o.2.1=2 then Bm.strikeE S.book o.2.2.1
 else if o.2.1=3 then(if saw S.ops o.2.2.1 o.1 then 0 else withM S.marks (o.2.2.1,o.1))
 else 0
def doB (S:Dq) (o:Ox):List Bm.Leaf:=
 if o.2.1=1 then Bm.writeL S.book o.2.2.1 o.2.2.2.1 else if o.2.1=2 then Bm.strikeL S.book o.2.2.1 else S.book
def doM (S:Dq) (o:Ox):List Mk:=
 if o.2.1=3 then(if saw S.ops o.2.2.1 o.1 then S.marks else ins mlt S.marks (o.2.2.1,o.1)) else if o.2.1=4 then without S.marks o.2.2.1 o.2.2.2.2 else S.marks
def next (S:Dq) (o:Ox):Dq:=⟨doB S o,doM S o,S.known.set (o.1.1-1).toNat o.1.2,S.ops++[o]⟩
def apE (S:Dq) (o:Ox):Int:=
 if opE o≠0 then opE o else if o.1.2≤kn S o.1.1 then 0 else if kn S o.1.1<o.1.2-1 then 6 else if 400≤S.ops.length then 4 else doE S o
def isNew (S:Dq) (o:Ox):Bool:=decide (opE o=0)&&(decide (kn S o.1.1+1=o.1.2)&&(decide (S.ops.length<400)&&decide (doE S o=0)))
def apS (S:Dq) (o:Ox):Dq:=if isNew S o then next S o else S
theorem isNew_iff {S:Dq} {o:Ox}:isNew S o=true↔opE o=0∧kn S o.1.1+1=o.1.2∧S.ops.length<400∧doE S o=0:=by
 unfold isNew;simp
theorem saw_iff {l:List Ox} {p:ByteArray} {d:Dt}:saw l p d=true↔∃o ∈ l,o.2.1=4∧o.2.2.1=p∧d ∈ o.2.2.2.2:=by
 unfold saw;simp
theorem saw_snoc {l:List Ox} {o:Ox} {p:ByteArray} {d:Dt}:saw (l++[o]) p d=(saw l p d||(decide (o.2.1=4)&&(decide (o.2.2.1=p)&&decide (d ∈ o.2.2.2.2)))):=by
 unfold saw;rw[List.any_append];simp
theorem saw_other {l:List Ox} {o:Ox} {p:ByteArray} {d:Dt} (h:o.2.1≠4):saw (l++[o]) p d=saw l p d:=by
 rw[saw_snoc,decide_eq_false h];simp
/- what stays right -/
structure Inv (S:Dq):Prop where
 book:Bm.bookE S.book=0
 marks:marksE S.marks=0
 klen:S.known.length=8
 few:S.ops.length≤400
 right:∀o ∈ S.ops,opE o=0
 wr:∀o ∈ S.ops,o.2.1=1→(Bm.leafAt S.book o.2.2.1).2.1=o.2.2.2.1
 st:∀o ∈ S.ops,o.2.1=2→(Bm.leafAt S.book o.2.2.1).2.2=true
 wr':∀p,(Bm.leafAt S.book p).2.1≠0→∃o ∈ S.ops,o.2.1=1∧o.2.2.1=p
 st':∀p,(Bm.leafAt S.book p).2.2=true→∃o ∈ S.ops,o.2.1=2∧o.2.2.1=p
 cutm:∀m,m ∈ S.marks↔(∃o ∈ S.ops,o.2.1=3∧(o.2.2.1,o.1)=m)∧saw S.ops m.1 m.2=false
 kno:∀w:Int,1≤w→w≤8→kn S w=((S.ops.filter fun o=>decide (o.1.1=w)).length:Int)
theorem leafAt_nil (p:ByteArray):Bm.leafAt [] p=(p,0,false):=by unfold Bm.leafAt Bm.has;simp
theorem inv_zero:Inv d0:=by
 refine⟨rfl,rfl,rfl,by simp[d0],by simp[d0],by simp[d0],by simp[d0], ?_, ?_,by simp[d0], ?_⟩
 ·intro p h;rw[show d0.book=[] from rfl,leafAt_nil] at h;exact absurd rfl h
 ·intro p h;rw[show d0.book=[] from rfl,leafAt_nil] at h;cases h
 ·intro w h1 h2
  have:kn d0 w=0:=by
   unfold kn d0
   simp only[List.getD_eq_getElem?_getD,List.getElem?_replicate]
   split<;>rfl
  rw[this];rfl
theorem kn_next (S:Dq) (o:Ox) (w:Int) (hl:S.known.length=8) (h1:1≤w) (h2:w≤8) (h3:1≤o.1.1) (h4:o.1.1≤8):kn (next S o) w=if w=o.1.1 then o.1.2 else kn S w:=by
 unfold kn next
 simp only[List.getD_eq_getElem?_getD]
 by_cases h:w=o.1.1
 ·rw[if_pos h,h,List.getElem?_set_self (by omega)];rfl
 ·rw[if_neg h,List.getElem?_set_ne (by omega)]
theorem cnt_next (l:List Ox) (o:Ox) (w:Int):((l++[o]).filter fun x=>decide (x.1.1=w)).length=(l.filter fun x=>decide (x.1.1=w)).length+(if o.1.1=w then 1 else 0):=by
 rw[List.filter_append,List.length_append]
 congr 1
 by_cases h:o.1.1=w
 ·rw[if_pos h];simp[h]
 ·rw[if_neg h];simp[h]
theorem inv_next {S:Dq} {o:Ox} (I:Inv S) (h:isNew S o=true):Inv (next S o):=by
 obtain⟨h0,hk,hfew,hdo⟩:=isNew_iff.1 h
 obtain⟨e1,e2,e3,e4⟩:=opE_zero.1 h0
 obtain⟨d1,d2,d3,d4⟩:=dotE_iff.1 e1
 have hR:=(Bm.bookE_zero.1 I.book).2.2
 have kno:∀w:Int,1≤w→w≤8→kn (next S o) w=(((next S o).ops.filter fun x=>decide (x.1.1=w)).length:Int):=by
  intro w hw1 hw2
  rw[kn_next S o w I.klen hw1 hw2 d1 d2]
  show _=(((S.ops++[o]).filter fun x=>decide (x.1.1=w)).length:Int)
  rw[cnt_next]
  by_cases hw:w=o.1.1
  ·rw[if_pos hw,if_pos hw.symm]
   have:=I.kno w hw1 hw2
   rw[hw] at this ⊢
   omega
  ·rw[if_neg hw,if_neg (fun e=>hw e.symm)]
   have:=I.kno w hw1 hw2
   omega
 have klen:(next S o).known.length=8:=by unfold next;simp[I.klen]
 have few:(next S o).ops.length≤400:=by unfold next;simp;omega
 have right:∀x ∈ (next S o).ops,opE x=0:=by
  intro x hx
  rcases List.mem_append.1 (show x ∈ S.ops++[o] from hx) with hx | hx
  ·exact I.right x hx
  ·rw[List.mem_singleton.1 hx];exact h0
 have in_old:∀{P:Ox→Prop},¬P o→((∃x ∈ S.ops++[o],P x)↔∃x ∈ S.ops,P x):=by
  intro P hP
  constructor
  ·rintro⟨x,hx,hp⟩
   rcases List.mem_append.1 hx with hx | hx
   ·exact⟨x,hx,hp⟩
   ·rw[List.mem_singleton.1 hx] at hp;exact absurd hp hP
  ·rintro⟨x,hx,hp⟩;exact⟨x,List.mem_append_left _ hx,hp⟩
 have ht:o.2.1=1∨o.2.1=2∨o.2.1=3∨o.2.1=4:=by omega
 rcases ht with t | t | t | t
 ·
  have hE:Bm.writeE S.book o.2.2.1 o.2.2.2.1=0:=by unfold doE at hdo;rw[if_pos t] at hdo;exact hdo
  have hB:(next S o).book=Bm.putL S.book o.2.2.1 (Bm.wrX S.book o.2.2.1 o.2.2.2.1):=by
   show doB S o=_;unfold doB;rw[if_pos t,(Bm.write_book hE).2]
  have hM:(next S o).marks=S.marks:=by
   show doM S o=_;unfold doM;rw[if_neg (by omega),if_neg (by omega)]
  have hL:∀q,Bm.leafAt (next S o).book q=if q=o.2.2.1 then Bm.wrX S.book o.2.2.1 o.2.2.2.1 else Bm.leafAt S.book q:=fun q=>by
   rw[hB];exact Bm.leafAt_put hR (p:=o.2.2.1) (x:=Bm.wrX S.book o.2.2.1 o.2.2.2.1) rfl q
  obtain⟨_,hw⟩:=Bm.writeE_zero.1 hE
  obtain⟨hc,hcl,_⟩:=Bm.wrE_zero.1 hw
  have hc0:=(Bm.isL_ne hc).1
  refine⟨by rw[hB,←(Bm.write_book hE).2];exact(Bm.write_book hE).1,by rw[hM];exact I.marks,klen,few,right, ?_, ?_, ?_, ?_, ?_,kno⟩
  ·intro x hx hx1
   rw[hL]
   rcases List.mem_append.1 (show x ∈ S.ops++[o] from hx) with hx | hx
   ·by_cases hp:x.2.2.1=o.2.2.1
    ·rw[if_pos hp]
     have h9:=I.wr x hx hx1
     rw[hp] at h9
     have hx0:=(lawOf_zero.1 (opE_zero.1 (I.right x hx)).2.2.2).1 hx1
     unfold Bm.clash at hcl
     rw[h9] at hcl
     simp only[Bool.and_eq_false_iff,bne_eq_false_iff_eq] at hcl
     show o.2.2.2.1=x.2.2.2.1
     rcases hcl with e | e
     ·omega
     ·exact e.symm
    ·rw[if_neg hp];exact I.wr x hx hx1
   ·rw[List.mem_singleton.1 hx,if_pos rfl];rfl
  ·intro x hx hx2
   rw[hL]
   rcases List.mem_append.1 (show x ∈ S.ops++[o] from hx) with hx | hx
   ·by_cases hp:x.2.2.1=o.2.2.1
    ·rw[if_pos hp]
     have h9:=I.st x hx hx2
     rw[hp] at h9;exact h9
    ·rw[if_neg hp];exact I.st x hx hx2
   ·rw[List.mem_singleton.1 hx] at hx2;omega
  ·intro p hp
   rw[hL] at hp
   by_cases e:p=o.2.2.1
   ·exact⟨o,List.mem_append_right _ (List.mem_singleton.2 rfl),t,e.symm⟩
   ·rw[if_neg e] at hp
    obtain⟨x,hx,h1,h2⟩:=I.wr' p hp
    exact⟨x,List.mem_append_left _ hx,h1,h2⟩
  ·intro p hp
   rw[hL] at hp
   have hp2:(Bm.leafAt S.book p).2.2=true:=by
    by_cases e:p=o.2.2.1
    ·rw[if_pos e] at hp;rw[e];exact hp
    ·rw[if_neg e] at hp;exact hp
   obtain⟨x,hx,h1,h2⟩:=I.st' p hp2
   exact⟨x,List.mem_append_left _ hx,h1,h2⟩
  ·intro m
   rw[hM,I.cutm m]
   show _↔(∃x ∈ S.ops++[o],x.2.1=3∧(x.2.2.1,x.1)=m)∧saw (S.ops++[o]) m.1 m.2=false
   rw[in_old (P:=fun x=>x.2.1=3∧(x.2.2.1,x.1)=m) (fun e=>by omega),saw_other (by omega)]
 ·
  have hE:Bm.strikeE S.book o.2.2.1=0:=by unfold doE at hdo;rw[if_neg (by omega),if_pos t] at hdo;exact hdo
  have hB:(next S o).book=Bm.putL S.book o.2.2.1 (Bm.stX S.book o.2.2.1):=by
   show doB S o=_;unfold doB;rw[if_neg (by omega),if_pos t,(Bm.strike_book hE).2]
  have hM:(next S o).marks=S.marks:=by
   show doM S o=_;unfold doM;rw[if_neg (by omega),if_neg (by omega)]
  have hL:∀q,Bm.leafAt (next S o).book q=if q=o.2.2.1 then Bm.stX S.book o.2.2.1 else Bm.leafAt S.book q:=fun q=>by
   rw[hB];exact Bm.leafAt_put hR (p:=o.2.2.1) (x:=Bm.stX S.book o.2.2.1) rfl q
  refine⟨by rw[hB,←(Bm.strike_book hE).2];exact(Bm.strike_book hE).1,by rw[hM];exact I.marks,klen,few,right, ?_, ?_, ?_, ?_, ?_,kno⟩
  ·intro x hx hx1
   rw[hL]
   rcases List.mem_append.1 (show x ∈ S.ops++[o] from hx) with hx | hx
   ·by_cases hp:x.2.2.1=o.2.2.1
    ·rw[if_pos hp]
     have h9:=I.wr x hx hx1
     rw[hp] at h9;exact h9
    ·rw[if_neg hp];exact I.wr x hx hx1
   ·rw[List.mem_singleton.1 hx] at hx1;omega
  ·intro x hx hx2
   rw[hL]
   by_cases hp:x.2.2.1=o.2.2.1
   ·rw[if_pos hp];rfl
   ·rw[if_neg hp]
    rcases List.mem_append.1 (show x ∈ S.ops++[o] from hx) with hx | hx
    ·exact I.st x hx hx2
    ·rw[List.mem_singleton.1 hx] at hp;exact absurd rfl hp
  ·intro p hp
   rw[hL] at hp
   have hp2:(Bm.leafAt S.book p).2.1≠0:=by
    by_cases e:p=o.2.2.1
    ·rw[if_pos e] at hp;rw[e];exact hp
    ·rw[if_neg e] at hp;exact hp
   obtain⟨x,hx,h1,h2⟩:=I.wr' p hp2
   exact⟨x,List.mem_append_left _ hx,h1,h2⟩
  ·intro p hp
   rw[hL] at hp
   by_cases e:p=o.2.2.1
   ·exact⟨o,List.mem_append_right _ (List.mem_singleton.2 rfl),t,e.symm⟩
   ·rw[if_neg e] at hp
    obtain⟨x,hx,h1,h2⟩:=I.st' p hp
    exact⟨x,List.mem_append_left _ hx,h1,h2⟩
  ·intro m
   rw[hM,I.cutm m]
   show _↔(∃x ∈ S.ops++[o],x.2.1=3∧(x.2.2.1,x.1)=m)∧saw (S.ops++[o]) m.1 m.2=false
   rw[in_old (P:=fun x=>x.2.1=3∧(x.2.2.1,x.1)=m) (fun e=>by omega),saw_other (by omega)]
 ·
  have hB:(next S o).book=S.book:=by
   show doB S o=_;unfold doB;rw[if_neg (by omega),if_neg (by omega)]
  have hW:∀x ∈ S.ops++[o],x.2.1=1∨x.2.1=2→x ∈ S.ops:=by
   intro x hx hx2
   rcases List.mem_append.1 hx with hx | hx
   ·exact hx
   ·rw[List.mem_singleton.1 hx] at hx2;omega
  have hMM:marksE (next S o).marks=0∧∀m,m ∈ (next S o).marks↔(∃x ∈ S.ops++[o],x.2.1=3∧(x.2.2.1,x.1)=m)∧saw S.ops m.1 m.2=false:=by
   cases hs:saw S.ops o.2.2.1 o.1 with
   | true=>
    have hM:(next S o).marks=S.marks:=by show doM S o=_;unfold doM;rw[if_pos t,hs,if_pos rfl]
    rw[hM]
    refine⟨I.marks,fun m=> ?_⟩
    rw[I.cutm m]
    constructor
    ·rintro⟨⟨x,hx,hp⟩,hn⟩;exact⟨⟨x,List.mem_append_left _ hx,hp⟩,hn⟩
    ·rintro⟨⟨x,hx,hp⟩,hn⟩
     rcases List.mem_append.1 hx with hx | hx
     ·exact⟨⟨x,hx,hp⟩,hn⟩
     ·rw[List.mem_singleton.1 hx] at hp
      rw[←hp.2] at hn
      simp only at hn
      rw[hs] at hn;cases hn
   | false=>
    have hM:(next S o).marks=ins mlt S.marks (o.2.2.1,o.1):=by show doM S o=_;unfold doM;rw[if_pos t,hs,if_neg (by decide)]
    have hwm:withM S.marks (o.2.2.1,o.1)=0:=by unfold doE at hdo;rw[if_neg (by omega),if_neg (by omega),if_pos t,hs,if_neg (by decide)] at hdo;exact hdo
    have hmk:markE (o.2.2.1,o.1)=0:=by unfold markE;rw[if_neg (by simpa using e3)];exact e1
    have hcE:cutE S.marks (o.2.2.1,o.1)=0:=by unfold cutE;rw[if_neg (by simpa using I.marks),if_neg (by simpa using hmk)];exact hwm
    refine⟨by rw[hM,←(cut_marks hcE).1];exact(cut_marks hcE).2,fun m=> ?_⟩
    rw[hM,mem_ins,I.cutm m]
    constructor
    ·rintro(rfl | ⟨⟨x,hx,hp⟩,hn⟩)
     ·exact⟨⟨o,List.mem_append_right _ (List.mem_singleton.2 rfl),t,rfl⟩,hs⟩
     ·exact⟨⟨x,List.mem_append_left _ hx,hp⟩,hn⟩
    ·rintro⟨⟨x,hx,hp⟩,hn⟩
     rcases List.mem_append.1 hx with hx | hx
     ·exact Or.inr ⟨⟨x,hx,hp⟩,hn⟩
     ·rw[List.mem_singleton.1 hx] at hp;exact Or.inl hp.2.symm
  refine⟨by rw[hB];exact I.book,hMM.1,klen,few,right, ?_, ?_, ?_, ?_, ?_,kno⟩
  ·intro x hx hx1;rw[hB];exact I.wr x (hW x hx (Or.inl hx1)) hx1
  ·intro x hx hx2;rw[hB];exact I.st x (hW x hx (Or.inr hx2)) hx2
  ·intro p hp;rw[hB] at hp;obtain⟨x,hx,h1⟩:=I.wr' p hp;exact⟨x,List.mem_append_left _ hx,h1⟩
  ·intro p hp;rw[hB] at hp;obtain⟨x,hx,h1⟩:=I.st' p hp;exact⟨x,List.mem_append_left _ hx,h1⟩
  ·intro m
   rw[hMM.2 m]
   show _↔(∃x ∈ S.ops++[o],x.2.1=3∧(x.2.2.1,x.1)=m)∧saw (S.ops++[o]) m.1 m.2=false
   rw[saw_other (by omega)]
 ·
  have hB:(next S o).book=S.book:=by
   show doB S o=_;unfold doB;rw[if_neg (by omega),if_neg (by omega)]
  have hM:(next S o).marks=without S.marks o.2.2.1 o.2.2.2.2:=by
   show doM S o=_;unfold doM;rw[if_neg (by omega),if_pos t]
  have hW:∀x ∈ S.ops++[o],x.2.1=1∨x.2.1=2→x ∈ S.ops:=by
   intro x hx hx2
   rcases List.mem_append.1 hx with hx | hx
   ·exact hx
   ·rw[List.mem_singleton.1 hx] at hx2;omega
  obtain⟨m1,m2,m3⟩:=marksE_zero.1 I.marks
  refine⟨by rw[hB];exact I.book, ?_,klen,few,right, ?_, ?_, ?_, ?_, ?_,kno⟩
  ·rw[hM]
   refine marksE_zero.2 ⟨?_,fun m hm=> ?_, ?_⟩
   ·exact Nat.le_trans (List.length_filter_le _ _) m1
   ·exact m2 m (List.mem_filter.1 hm).1
   ·exact filter_rise m3 _
  ·intro x hx hx1;rw[hB];exact I.wr x (hW x hx (Or.inl hx1)) hx1
  ·intro x hx hx2;rw[hB];exact I.st x (hW x hx (Or.inr hx2)) hx2
  ·intro p hp;rw[hB] at hp;obtain⟨x,hx,h1⟩:=I.wr' p hp;exact⟨x,List.mem_append_left _ hx,h1⟩
  ·intro p hp;rw[hB] at hp;obtain⟨x,hx,h1⟩:=I.st' p hp;exact⟨x,List.mem_append_left _ hx,h1⟩
  ·intro m
   rw[hM]
   unfold without
   rw[List.mem_filter,I.cutm m]
   show _↔(∃x ∈ S.ops++[o],x.2.1=3∧(x.2.2.1,x.1)=m)∧saw (S.ops++[o]) m.1 m.2=false
   rw[in_old (P:=fun x=>x.2.1=3∧(x.2.2.1,x.1)=m) (fun e=>by omega),saw_snoc,decide_eq_true t]
   simp only[Bool.true_and,Bool.or_eq_false_iff,Bool.not_eq_true',and_assoc]
   have hsw:(decide (m.1=o.2.2.1)&&decide (m.2 ∈ o.2.2.2.2))=(decide (o.2.2.1=m.1)&&decide (m.2 ∈ o.2.2.2.2)):=by
    rw[decide_eq_decide.2 (eq_comm (a:=m.1) (b:=o.2.2.1))]
   rw[hsw]
theorem same3:∀(x y:Bm.Leaf),x.1=y.1→x.2.1=y.2.1→x.2.2=y.2.2→x=y:=by
 rintro⟨a,b,c⟩ ⟨a',b',c'⟩ h1 h2 h3
 simp only at h1 h2 h3
 rw[h1,h2,h3]
/- two docs that have the same ops have the same book, the same marks, and know the same -/
theorem meet {S R:Dq} (I:Inv S) (J:Inv R) (hp:S.ops.Perm R.ops):S.book=R.book∧S.marks=R.marks∧S.known=R.known:=by
 have hm:∀o,o ∈ S.ops↔o ∈ R.ops:=fun o=>hp.mem_iff
 have hs:∀p d,saw S.ops p d=saw R.ops p d:=by
  intro p d
  rw[Bool.eq_iff_iff,saw_iff,saw_iff]
  exact⟨fun ⟨o,h1,h2⟩=>⟨o,(hm o).1 h1,h2⟩,fun ⟨o,h1,h2⟩=>⟨o,(hm o).2 h1,h2⟩⟩
 have hRS:=(Bm.bookE_zero.1 I.book).2.2
 have hRR:=(Bm.bookE_zero.1 J.book).2.2
 have leaf:∀{A B:Dq},Inv A→Inv B→(∀o,o ∈ A.ops↔o ∈ B.ops)→∀p,Bm.leafAt A.book p=Bm.leafAt B.book p:=by
  intro A B IA IB hAB p
  have kA:=Bm.leafAt_key (Bm.bookE_zero.1 IA.book).2.2 p
  have kB:=Bm.leafAt_key (Bm.bookE_zero.1 IB.book).2.2 p
  have l1:(Bm.leafAt A.book p).2.1=(Bm.leafAt B.book p).2.1:=by
   by_cases h:(Bm.leafAt A.book p).2.1=0
   ·by_cases h':(Bm.leafAt B.book p).2.1=0
    ·rw[h,h']
    ·obtain⟨x,hx,h1,h2⟩:=IB.wr' p h'
     have:=IA.wr x ((hAB x).2 hx) h1
     have h3:=IB.wr x hx h1
     rw[h2] at this h3
     rw[this,h3]
   ·obtain⟨x,hx,h1,h2⟩:=IA.wr' p h
    have:=IB.wr x ((hAB x).1 hx) h1
    have h3:=IA.wr x hx h1
    rw[h2] at this h3
    rw[this,h3]
  have l2:(Bm.leafAt A.book p).2.2=(Bm.leafAt B.book p).2.2:=by
   rw[Bool.eq_iff_iff]
   constructor
   ·intro h
    obtain⟨x,hx,h1,h2⟩:=IA.st' p h
    have:=IB.st x ((hAB x).1 hx) h1
    rw[h2] at this;exact this
   ·intro h
    obtain⟨x,hx,h1,h2⟩:=IB.st' p h
    have:=IA.st x ((hAB x).2 hx) h1
    rw[h2] at this;exact this
  exact same3 _ _ (kA.trans kB.symm) l1 l2
 have side:∀{A B:Dq},Inv A→Inv B→(∀o,o ∈ A.ops↔o ∈ B.ops)→∀x,x ∈ A.book→x ∈ B.book:=by
  intro A B IA IB hAB x hx
  have h1:=Bm.leafAt_mem (Bm.bookE_zero.1 IA.book).2.2 hx
  have h2:=leaf IA IB hAB x.1
  rw[h1] at h2
  have hz:=Bm.leafE_zero.1 ((Bm.bookE_zero.1 IA.book).2.1 x hx)
  by_cases hh:Bm.has B.book x.1.toList=true
  ·have:=(Bm.leafAt_has (Bm.bookE_zero.1 IB.book).2.2 hh).1
   rw[←h2] at this;exact this
  ·have hn:Bm.leafAt B.book x.1=(x.1,0,false):=by unfold Bm.leafAt;rw[if_neg hh]
   rw[hn] at h2
   rw[h2] at hz
   rcases hz.2.2 with e | e
   ·exact absurd rfl e
   ·cases e
 refine⟨?_, ?_, ?_⟩
 ·exact Bm.rise_ext hRS hRR (fun x=>⟨side I J hm x,side J I (fun o=>(hm o).symm) x⟩)
 ·refine rise_ext mlt_strict (marksE_zero.1 I.marks).2.2 (marksE_zero.1 J.marks).2.2 (fun m=> ?_)
  rw[I.cutm m,J.cutm m,hs]
  constructor
  ·rintro⟨⟨o,h1,h2⟩,h3⟩;exact⟨⟨o,(hm o).1 h1,h2⟩,h3⟩
  ·rintro⟨⟨o,h1,h2⟩,h3⟩;exact⟨⟨o,(hm o).2 h1,h2⟩,h3⟩
 ·apply List.ext_getElem?
  intro i
  by_cases hi:i<8
  ·have h1:=I.kno ((i:Int)+1) (by omega) (by omega)
   have h2:=J.kno ((i:Int)+1) (by omega) (by omega)
   have hc:(S.ops.filter fun o=>decide (o.1.1=(i:Int)+1)).length=(R.ops.filter fun o=>decide (o.1.1=(i:Int)+1)).length:=(hp.filter _).length_eq
   rw[hc,←h2] at h1
   unfold kn at h1
   rw[show((i:Int)+1-1).toNat=i by omega,List.getD_eq_getElem?_getD,List.getD_eq_getElem?_getD,List.getElem?_eq_getElem (by rw[I.klen];exact hi),List.getElem?_eq_getElem (by rw[J.klen];exact hi)] at h1
   rw[List.getElem?_eq_getElem (by rw[I.klen];exact hi),List.getElem?_eq_getElem (by rw[J.klen];exact hi)]
   simpa using h1
  ·rw[List.getElem?_eq_none (by rw[I.klen];omega),List.getElem?_eq_none (by rw[J.klen];omega)]
end Hm
end Go.Proofs.YtlmdchpbpgcfmaaGreatDoor
/- Docs: which faults there are, ops in the order of each author, what is known changes nothing. No program is named here. -/
namespace Go.Proofs.YtlmdchpbpgcfmaaGreatDoor
namespace Hm
open Cm Om
theorem inv_ap {S:Dq} {o:Ox} (I:Inv S):Inv (apS S o):=by
 unfold apS
 cases h:isNew S o with
 | true=>exact inv_next I h
 | false=>exact I
/- what an op that is right, and the next one of its author, may be refused for -/
/- the next op of its author: taken, or refused for one of two faults -/
/- what is known changes nothing -/
theorem ap_known {S:Dq} {o:Ox} (h:opE o=0) (hk:o.1.2≤kn S o.1.1):apE S o=0∧isNew S o=false∧apS S o=S:=by
 have hn:isNew S o=false:=by
  cases h9:isNew S o with
  | false=>rfl
  | true=>have:=(isNew_iff.1 h9).2.1;omega
 refine⟨?_,hn,by unfold apS;rw[hn];rfl⟩
 unfold apE;rw[if_neg (by simpa using h),if_pos hk]
/- ops in the order of each author, from what is known on -/
def up (k:Int→Int) (o:Ox):Int→Int:=fun w=>if w=o.1.1 then o.1.2 else k w
def Seq:(Int→Int)→List Ox→Prop
 | _,[]=>True
 | k,o::l=>k o.1.1+1=o.1.2∧Seq (up k o) l
theorem seq_congr:∀{l:List Ox} {k k':Int→Int},(∀o ∈ l,k o.1.1=k' o.1.1)→Seq k l→Seq k' l
 | [],_,_,_,_=>trivial
 | o::l,k,k',h,hs=>by
  refine⟨by rw[←h o (List.mem_cons_self ..)];exact hs.1,seq_congr (fun x hx=> ?_) hs.2⟩
  unfold up
  split
  ·rfl
  ·exact h x (List.mem_cons_of_mem _ hx)
theorem seq_mono:∀{l:List Ox} {k:Int→Int},Seq k l→∀o ∈ l,k o.1.1<o.1.2
 | o::l,k,hs,x,hx=>by
  rcases List.mem_cons.1 hx with rfl | hx
  ·have:=hs.1;omega
  ·have h1:=seq_mono hs.2 x hx
   unfold up at h1
   by_cases e:x.1.1=o.1.1
   ·rw[if_pos e] at h1
    have:=hs.1
    rw[e];omega
   ·rw[if_neg e] at h1;exact h1
/- the first one of its author may come at once -/
theorem seq_take:∀{a:List Ox} {x:Ox} {b:List Ox} {k:Int→Int},Seq k (a++x::b)→(∀o ∈ a,o.1.1≠x.1.1)→k x.1.1+1=x.1.2∧Seq (up k x) (a++b)
 | [],x,b,k,hs,_=>hs
 | o::a,x,b,k,hs,hn=>by
  have hne:=hn o (List.mem_cons_self ..)
  obtain⟨h1,h2⟩:=seq_take (a:=a) hs.2 (fun y hy=>hn y (List.mem_cons_of_mem _ hy))
  unfold up at h1
  rw[if_neg (fun e=>hne e.symm)] at h1
  refine⟨h1, ?_, ?_⟩
  ·show up k x o.1.1+1=o.1.2
   unfold up;rw[if_neg hne];exact hs.1
  ·refine seq_congr (fun y _=> ?_) h2
   unfold up
   by_cases e1:y.1.1=x.1.1
   ·rw[if_pos e1]
    by_cases e2:y.1.1=o.1.1
    ·exact absurd (e2.symm.trans e1) hne
    ·rw[if_neg e2,if_pos e1]
   ·rw[if_neg e1]
    by_cases e2:y.1.1=o.1.1
    ·rw[if_pos e2,if_pos e2]
    ·rw[if_neg e2,if_neg e2,if_neg e1]
theorem seq_snoc:∀{l:List Ox} {k:Int→Int} {o:Ox},Seq k l→(∀(k':Int→Int),k'=l.foldl up k→k' o.1.1+1=o.1.2)→Seq k (l++[o])
 | [],k,o,_,h=>⟨h k rfl,trivial⟩
 | x::l,k,o,hs,h=>⟨hs.1,seq_snoc hs.2 (fun k' hk=>h k' hk)⟩
/- of a doc that was reached: what is known is what its ops come to, and they stand in the order of each author -/
structure Ord (S:Dq):Prop where
 seq:Seq (fun _=>0) S.ops
 kn:∀w,1≤w→w≤8→kn S w=S.ops.foldl up (fun _=>0) w
theorem ord_zero:Ord d0:=by
 refine⟨trivial,fun w h1 h2=> ?_⟩
 show kn d0 w=0
 have:=inv_zero.kno w h1 h2
 rw[this];rfl
theorem ord_next {S:Dq} {o:Ox} (I:Inv S) (O:Ord S) (h:isNew S o=true):Ord (next S o):=by
 obtain⟨h0,hk,_,_⟩:=isNew_iff.1 h
 obtain⟨d1,d2,_,_⟩:=dotE_iff.1 (opE_zero.1 h0).1
 refine⟨?_,fun w h1 h2=> ?_⟩
 ·show Seq _ (S.ops++[o])
  refine seq_snoc O.seq (fun k' hk'=> ?_)
  rw[hk',←O.kn _ d1 d2];exact hk
 ·rw[kn_next S o w I.klen h1 h2 d1 d2]
  show _=(S.ops++[o]).foldl up (fun _=>0) w
  rw[List.foldl_append]
  show _=up (S.ops.foldl up (fun _=>0)) o w
  unfold up
  split
  ·rfl
  ·exact O.kn w h1 h2
theorem ord_ap {S:Dq} {o:Ox} (I:Inv S) (O:Ord S):Ord (apS S o):=by
 unfold apS
 cases h:isNew S o with
 | true=>exact ord_next I O h
 | false=>exact O
/- every op of a doc is known -/
theorem known_mem {S:Dq} (I:Inv S) (O:Ord S):∀o ∈ S.ops,o.1.2≤kn S o.1.1:=by
 intro o ho
 obtain⟨d1,d2,_,_⟩:=dotE_iff.1 (opE_zero.1 (I.right o ho)).1
 rw[O.kn _ d1 d2]
 have key:∀(l:List Ox) (k:Int→Int),Seq k l→(∀w,k w≤l.foldl up k w)∧∀x ∈ l,x.1.2≤l.foldl up k x.1.1:=by
  intro l
  induction l with
  | nil=>intro k _;exact⟨fun w=>Int.le_refl _,fun x hx=>by simp at hx⟩
  | cons y l ih=>
   intro k hs
   obtain⟨i1,i2⟩:=ih (up k y) hs.2
   have hy:∀w,k w≤up k y w:=by
    intro w;unfold up
    by_cases e:w=y.1.1
    ·rw[if_pos e,e];have:=hs.1;omega
    ·rw[if_neg e];exact Int.le_refl _
   refine⟨fun w=>Int.le_trans (hy w) (i1 w),fun x hx=> ?_⟩
   rcases List.mem_cons.1 hx with rfl | hx
   ·have h1:=i1 x.1.1
    have h2:up k x x.1.1=x.1.2:=by unfold up;rw[if_pos rfl]
    rw[h2] at h1;exact h1
   ·exact i2 x hx
 exact(key S.ops _ O.seq).2 o ho
end Hm
end Go.Proofs.YtlmdchpbpgcfmaaGreatDoor
/- The plain mathematics of dots and vectors: cutting a text at its dots and joining it again, decimal numerals. No program is named here. -/
namespace Go.Proofs.YtlmdchpbpgcfmaaGreatDoor
namespace Dm
open Go.Lib
/- a text cut at each dot -/
/- no needless 0 ahead -/
/- a numeral without a needless 0 is the one that is written -/
/- a number as package dot reads it, and as the reference does -/
end Dm
end Go.Proofs.YtlmdchpbpgcfmaaGreatDoor
/- The plain mathematics of vectors: what is wrong with one, what it has, adding, merging, comparing, writing and reading. No program is named here. -/
namespace Go.Proofs.YtlmdchpbpgcfmaaGreatDoor
namespace Dm
open Go.Lib
def bad (n:Int):Bool:=decide (n<0)||decide (9999<n)
def vecE (v:List Int):Int:=if v.length=8 then(if v.any bad then 1 else 0) else 3
def dotE (who n:Int):Int:=if who<1∨8<who∨n<1∨9999<n then 1 else 0
def withE (v:List Int) (who n:Int):Int:=if vecE v=0 then dotE who n else vecE v
def known (v:List Int) (who:Int):Int:=v.getD (who-1).toNat 0
def hasB (v:List Int) (who n:Int):Bool:=decide (withE v who n=0)&&decide (n≤known v who)
def addE (v:List Int) (who n:Int):Int:=
 if withE v who n≠0 then withE v who n else if n≤known v who then 7 else if known v who+1<n then 6 else 0
theorem vecE_zero {v:List Int}:vecE v=0↔v.length=8∧∀n ∈ v,0≤n∧n≤9999:=by
 unfold vecE
 by_cases h:v.length=8
 ·rw[if_pos h]
  by_cases h2:v.any bad=true
  ·rw[if_pos h2]
   refine⟨fun e=>absurd e (by decide),fun e=> ?_⟩
   obtain⟨n,hn,hb⟩:=List.any_eq_true.1 h2
   have:=e.2 n hn
   simp[bad] at hb;omega
  ·rw[if_neg h2]
   refine⟨fun _=>⟨h,fun n hn=> ?_⟩,fun _=>rfl⟩
   have h3:bad n=false:=by
    cases hb:bad n
    ·rfl
    ·exact absurd (List.any_eq_true.2 ⟨n,hn,hb⟩) h2
   simp[bad] at h3;omega
 ·rw[if_neg h]
  exact⟨fun e=>absurd e (by decide),fun e=>absurd e.1 h⟩
/- what is read is written as it was -/
/- what is written is read as it was -/
/- a vector of which one author alone is known -/
end Dm
end Go.Proofs.YtlmdchpbpgcfmaaGreatDoor
/- Small words for package dot's walks: an error of package api as a value, a list of ints that lies in memory. -/
namespace Go.Proofs.YtlmdchpbpgcfmaaGreatDoor
namespace Za
open Go.ChangeShapes Go.WideShapes Go.ChangeAt Go.RowKit
theorem ret_bool {a b:Bool} (h:a=b):Ending.returned (.bool a)=.returned (.bool b):=by rw[h]
/- an error of package api: nil for 0 -/
def errV (n:Int):Value:=if n=0 then .nilIface else .iface 84 (.int .i64 n)
theorem errV_zero:errV 0=.nilIface:=rfl
theorem errV_ne {n:Int} (h:n≠0):errV n=.iface 84 (.int .i64 n):=by unfold errV;rw[if_neg h]
theorem bel {w w1 w2:World} (h1:Below w.heap.size w w1) (h2:Below w1.heap.size w1 w2):Below w.heap.size w w2:=
 h1.trans (h2.mono h1.size)
theorem bel_drew {B:Nat} {a w:World} (h:Below B a w) (q:Nat):Below B a (w.drewN q):=⟨h.os,h.tape,h.output,h.size,h.block⟩
/- a list of ints that lies in memory -/
def IntsIn (w:World) (p:Option Addr) (l:List Int):Prop:=
 l=[]∨∃b o,p=some ⟨b,o,none⟩∧∀j,j<l.length→w.cell? ⟨b,o+j,none⟩=some (.int .i64 (l.getD j 0))
theorem IntsIn.below {w w':World} {p:Option Addr} {l:List Int} (h:IntsIn w p l) (hb:Below w.heap.size w w'):IntsIn w' p l:=by
 rcases h with h | ⟨b,o,hp,hc⟩
 ·exact Or.inl h
 ·refine Or.inr ⟨b,o,hp,fun j hj=> ?_⟩
  have h1:=hc j hj
  rw[hb.cell (p:=⟨b,o+j,none⟩) (World.block_lt_of_cell? _ _ h1)]
  exact h1
/- one of them is written -/
theorem set_cells {w:World} {g o i:Nat} {l:List Int} {x:Int} (hi:i<l.length) (hc:∀j,j<l.length→w.cell? ⟨g,o+j,none⟩=some (.int .i64 (l.getD j 0))):
  ∀j,j<(l.set i x).length→(w.setCell ⟨g,o+i,none⟩ (.int .i64 x)).cell? ⟨g,o+j,none⟩=some (.int .i64 ((l.set i x).getD j 0)):=by
 intro j hj
 rw[List.length_set] at hj
 by_cases h:j=i
 ·subst h
  rw[World.cell?_setCell_same _ _ _ (hc j hj),List.getD_eq_getElem?_getD,List.getElem?_set_self hj];rfl
 ·rw[World.cell?_setCell_other _ _ _ _ (by intro e;injection e;omega),hc j hj,List.getD_eq_getElem?_getD,List.getD_eq_getElem?_getD,List.getElem?_set_ne (by omega)]
theorem IntsIn.nil (w:World) (p:Option Addr):IntsIn w p []:=Or.inl rfl
theorem IntsIn.some {w:World} {p:Option Addr} {l:List Int} (h:IntsIn w p l) (hl:l≠[]):∃b o,p=some ⟨b,o,none⟩∧∀j,j<l.length→w.cell? ⟨b,o+j,none⟩=some (.int .i64 (l.getD j 0)):=by
 rcases h with h | h
 ·exact absurd h hl
 ·exact h
theorem infoInt:(Tryz.prog.info? 3).map (fun i=>(i.zero,i.size,i.bytes))=some (some (.int .i64 0),1,8):=by kernel_rfl
end Za
end Go.Proofs.YtlmdchpbpgcfmaaGreatDoor
/- What dot.Check and dot.Vector answer. -/
namespace Go.Proofs.YtlmdchpbpgcfmaaGreatDoor
namespace Db
open Go.ChangeShapes Go.WideShapes Go.ChangeAt Go.RowKit Za
theorem bad_any (n:Int) (w:World):Calls Tryz.prog 188 #[.int .i64 n] w fun e w'=>e=.returned (.bool (Dm.bad n))∧w'=w:=by
 go_enter Tryz.func188,Tryz.ntmps188
 go_wp2
 all_goals
  go_ret
  exact⟨ret_bool (by simp[Dm.bad, *]),rfl⟩
theorem index_any (b o n c:Nat) (l:List Int) (w:World) (hl:l.length=n) (hn:n≤9223372036854775807) (hc:∀j,j<l.length→w.cell? ⟨b,o+j,none⟩=some (.int .i64 (l.getD j 0))):
  Calls Tryz.prog 207 #[.slice (some ⟨b,o,none⟩) n c,.func (.func 188) #[] #[]] w fun e w'=>(∃r,e=.returned (.int .i64 r)∧decide (0≤r)=l.any Dm.bad)∧w'=w:=by
 have HC:Hid (∀j,j<n→w.cell? ⟨b,o+j,none⟩=some (.int .i64 (l.getD j 0))):=fun j hj=>hc j (by omega)
 have HL:=z9 hl
 clear hc hl
 go_enter Tryz.func207,Tryz.ntmps207
 go_wp2
 go_loop [5,8] (fun _ v=>∃k:Nat,k≤n∧v=.int .i64 k∧Hid (∀j,j<k→Dm.bad (l.getD j 0)=false)) (fun _ v=>n-(intOf v).toNat)
 case atStart=>exact⟨0,by omega,rfl,fun j hj=>absurd hj (by omega)⟩
 case round=>
  obtain⟨k,hk,rfl,HA⟩:=hrel
  by_cases hlt:k<n
  ·have hltz:(k:Int)<n:=by omega
   have hcell:=HC.out k hlt
   obtain⟨x,hx⟩:∃x,x=l.getD k 0:=⟨_,rfl⟩
   have HX:=z9 hx
   rw[←hx] at hcell
   clear hx
   cases hbad:Dm.bad x
   ·go_wp2_with (go_at_call 188;refine(bad_any _ _).mono ?_;rintro e w' ⟨rfl,hw⟩;have hw2:=hw.symm;subst hw2;clear hw)
    go_round
    case rel=>exact⟨k+1,by omega,by simp,fun j hj=>by
     rcases Nat.lt_succ_iff_lt_or_eq.1 hj with h | rfl
     ·exact HA.out j h
     ·rw[←HX.out];exact hbad⟩
    case measure=>simp[intOf];omega
   ·go_wp2_with (go_at_call 188;refine(bad_any _ _).mono ?_;rintro e w' ⟨rfl,hw⟩;have hw2:=hw.symm;subst hw2;clear hw)
    go_ret
    refine⟨⟨_,rfl, ?_⟩,rfl⟩
    rw[decide_eq_true (by omega)]
    refine(List.any_eq_true.2 ⟨x, ?_,hbad⟩).symm
    rw[HX.out,List.getD_eq_getElem?_getD,List.getElem?_eq_getElem (by rw[HL.out];exact hlt)]
    exact List.getElem_mem _
  ·obtain rfl:k=n:=by omega
   go_wp2
   go_ret
   refine⟨⟨_,rfl, ?_⟩,rfl⟩
   cases ha:l.any Dm.bad with
   | false=>rfl
   | true=>
    obtain⟨x,hx,hb⟩:=List.any_eq_true.1 ha
    obtain⟨i,hi,e⟩:=List.getElem_of_mem hx
    have:=HA.out i (by rw[←HL.out];exact hi)
    rw[List.getD_eq_getElem?_getD,List.getElem?_eq_getElem hi] at this
    simp only[Option.getD_some] at this
    rw[e,hb] at this
    exact absurd this (by decide)
theorem contains_any (b o n c:Nat) (l:List Int) (w:World) (hl:l.length=n) (hn:n≤9223372036854775807) (hc:∀j,j<l.length→w.cell? ⟨b,o+j,none⟩=some (.int .i64 (l.getD j 0))):
  Calls Tryz.prog 187 #[.slice (some ⟨b,o,none⟩) n c,.func (.func 188) #[] #[]] w fun e w'=>e=.returned (.bool (l.any Dm.bad))∧w'=w:=by
 have C:=index_any b o n c l w hl hn hc
 clear hc hl
 go_enter Tryz.func187,Tryz.ntmps187
 go_wp2_with (go_at_call 207;refine C.mono ?_;rintro e w' ⟨⟨r,rfl,hr⟩,hw⟩;have hw2:=hw.symm;subst hw2;clear hw;have HR:=z9 hr;clear hr)
 all_goals
  go_ret
  exact⟨ret_bool HR.out,rfl⟩
theorem vector_any (p:Option Addr) (n c:Nat) (l:List Int) (w:World) (hl:l.length=n) (h:IntsIn w p l):
  Calls Tryz.prog 161 #[.slice p n c] w fun e w'=>e=.returned (errV (Dm.vecE l))∧w'=w:=by
 by_cases h8:n=8
 ·subst h8
  obtain⟨b,o,rfl,hc⟩:=h.some (by rintro rfl;simp at hl)
  have C:=contains_any b o 8 c l w hl (by omega) hc
  have HL:=z9 hl
  clear hc h hl
  cases ha:l.any Dm.bad
  ·rw[ha] at C
   have HA:=z9 ha
   clear ha
   go_enter Tryz.func161,Tryz.ntmps161
   go_wp2_with (go_at_call 187;refine C.mono ?_;rintro e w' ⟨rfl,hw⟩;have hw2:=hw.symm;subst hw2;clear hw)
   go_ret
   exact⟨by unfold Dm.vecE;rw[if_pos HL.out,HA.out];rfl,rfl⟩
  ·rw[ha] at C
   have HA:=z9 ha
   clear ha
   go_enter Tryz.func161,Tryz.ntmps161
   go_wp2_with (go_at_call 187;refine C.mono ?_;rintro e w' ⟨rfl,hw⟩;have hw2:=hw.symm;subst hw2;clear hw)
   go_ret
   exact⟨by unfold Dm.vecE;rw[if_pos HL.out,HA.out];rfl,rfl⟩
 ·have HE:Hid (errV (Dm.vecE l)=.iface 84 (.int .i64 3)):=by
   unfold Hid Dm.vecE;rw[if_neg (by omega)];rfl
  have h8':((n:Int)==8)=false:=by simp;omega
  clear h hl h8
  go_enter Tryz.func161,Tryz.ntmps161
  go_wp2_with fail
  go_ret
  exact⟨by rw[HE.out];rfl,rfl⟩
end Db
end Go.Proofs.YtlmdchpbpgcfmaaGreatDoor
/- What dot.checkWith, dot.Has and slices.Clone answer. -/
namespace Go.Proofs.YtlmdchpbpgcfmaaGreatDoor
namespace Dc
open Go.ChangeShapes Go.WideShapes Go.ChangeAt Go.RowKit Za Db
theorem check_any (who m:Int) (w:World):
  Calls Tryz.prog 146 #[.agg #[.int .i64 who,.int .i64 m]] w fun e w'=>e=.returned (errV (Dm.dotE who m))∧Below w.heap.size w w':=by
 go_enter Tryz.func146,Tryz.ntmps146
 go_wp2
 all_goals
  go_ret
  refine⟨?_,(Below.refl _ w).alloc (Nat.le_refl _) _⟩
  unfold Dm.dotE
  first
   | (rw[if_pos (by omega)];rfl)
   | (rw[if_neg (by omega)];rfl)
theorem with_any (p:Option Addr) (n c:Nat) (l:List Int) (who m:Int) (w:World) (hl:l.length=n) (h:IntsIn w p l):
  Calls Tryz.prog 150 #[.slice p n c,.agg #[.int .i64 who,.int .i64 m]] w fun e w'=>e=.returned (errV (Dm.withE l who m))∧Below w.heap.size w w':=by
 have hb:Below w.heap.size w (w.alloc (.cells #[.int .i64 who,.int .i64 m] 72)):=(Below.refl _ w).alloc (Nat.le_refl _) _
 have C:=vector_any p n c l _ hl (h.below hb)
 clear hl h
 by_cases h0:Dm.vecE l=0
 ·rw[h0,errV_zero] at C
  have HE:Hid (Dm.withE l who m=Dm.dotE who m):=by unfold Hid Dm.withE;rw[if_pos h0]
  clear h0
  go_enter Tryz.func150,Tryz.ntmps150
  go_wp2_with (go_at_call 161;refine C.mono ?_;rintro e w' ⟨rfl,hw⟩;have hw2:=hw.symm;subst hw2;clear hw)
  refine(check_any who m _).mono ?_
  rintro e w' ⟨rfl,hb2⟩
  go_wp2_with fail
  go_ret
  exact⟨by rw[HE.out];rfl,bel hb hb2⟩
 ·rw[errV_ne h0] at C
  have HE:Hid (errV (Dm.withE l who m)=.iface 84 (.int .i64 (Dm.vecE l))):=by unfold Hid Dm.withE;rw[if_neg h0,errV_ne h0]
  obtain⟨k,hk⟩:∃k,k=Dm.vecE l:=⟨_,rfl⟩
  rw[←hk] at C HE
  clear h0 hk
  go_enter Tryz.func150,Tryz.ntmps150
  go_wp2_with (go_at_call 161;refine C.mono ?_;rintro e w' ⟨rfl,hw⟩;have hw2:=hw.symm;subst hw2;clear hw)
  go_ret
  exact⟨by rw[HE.out];rfl,hb⟩
/- slices.Clone of a list that is not empty: the same ints, in a row of the call's own -/
theorem clone_any (b o n c:Nat) (l:List Int) (w:World) (hl:l.length=n) (hn:0<n) (hn2:n≤1048576) (hc:∀j,j<l.length→w.cell? ⟨b,o+j,none⟩=some (.int .i64 (l.getD j 0))):
  Calls Tryz.prog 127 #[.slice (some ⟨b,o,none⟩) n c] w fun e w'=>∃g cap cur,e=.returned (.slice (some ⟨g,0,none⟩) n cap)∧w.heap.size≤g∧w'.heap[g]? =some (.cells cur 3 (0,0))∧n≤cur.size∧cur.toList.take n=l.map (fun x=>Value.int .i64 x)∧Below w.heap.size w w':=by
 obtain⟨i0,hi,hz0,hz1,hz2⟩:=info_parts infoInt
 have HN:Hid (∀j u,(l.map (fun x=>Value.int .i64 x))[j]? =some u→(w.alloc (.cells #[] 3)).cell? ((⟨b,o,none⟩:Addr).add j)=some u):=by
  intro j u hu
  rw[List.getElem?_map] at hu
  cases hx:l[j]? with
  | none=>rw[hx] at hu;cases hu
  | some x=>
   rw[hx] at hu
   simp only[Option.map_some,Option.some.injEq] at hu
   subst hu
   have hj:j<l.length:=(List.getElem?_eq_some_iff.1 hx).1
   have h1:=hc j hj
   rw[List.getD_eq_getElem?_getD,hx] at h1
   rw[Addr.add_lit,World.cell?_alloc_old _ _ _ (Nat.ne_of_lt (World.block_lt_of_cell? _ _ h1))]
   exact h1
 have HL:=z9 hl
 have HO:Hid ((w.alloc (.cells #[] 3)).ownsRow w.heap.size 3 1 (.slice (some ⟨w.heap.size,0,none⟩) 0 0) 0 []):=
  ⟨rfl,Or.inr ⟨w.heap.size,0,#[],rfl,Nat.le_refl _,heap_alloc_new w _,Nat.le_refl _,by unfold maxLen;omega,rfl,rfl⟩⟩
 have heq:∀(a:Addr) (n c:Nat) (w:World),Sem.run Tryz.prog (binOp .eql 39 (.slice (some a) n c) (.slice none 0 0)) w=.ok (.bool false) w:=fun _ _ _ _=>by kernel_rfl
 clear hc hl
 go_enter Tryz.func127,Tryz.ntmps127
 go_wp2_with (at_builtin;refine wpList_append_own_at _ rfl (.tmp 5) (.tmp 6) 39 rfl w.heap.size 3 i0 (.int .i64 0) 1 8 Tryz.underlying39 hi hz0 hz1 hz2 rfl (by decide) (.slice (some ⟨w.heap.size,0,none⟩) 0 0) 0 [] rfl HO.out ⟨b,o,none⟩ n c (l.map (fun x=>Value.int .i64 x)) rfl (by rw[List.length_map,HL.out,Nat.mul_one]) HN.out (by intro u hu;obtain⟨x,_,rfl⟩:=List.mem_map.1 hu;rfl) (by unfold maxLen;omega) (by omega) (by simp) ?_;intro v' w1 hown' hgrow _ hat;obtain⟨e1,hown2⟩:=hown';have HOW:=z9 hown2;have HGR:Hid (Below w.heap.size w w1):=((Below.refl _ w).alloc (Nat.le_refl _) (.cells #[] 3)).grown hgrow (by simp) (by intro j hj;simp[Value.ownBlock] at hj;omega);clear hown2 hgrow hat e1)
 go_ret
 rcases HOW.out with⟨_,h⟩ | ⟨g,cap,cur,rfl,h1,h2,h3,h4,h5,h6⟩
 ·omega
 ·refine⟨g,cap,cur,by simp,h1,h2,by omega,by simpa using h6,HGR.out⟩
theorem row_cells {w:World} {g:Nat} {cur:Array Value} {t:TypeId} {l:List Int} (h:w.heap[g]? =some (.cells cur t (0,0))) (h2:cur.toList.take l.length=l.map (fun x=>Value.int .i64 x)):
  (∀j,j<l.length→w.cell? ⟨g,0+j,none⟩=some (.int .i64 (l.getD j 0)))∧∀j,w.frozen? ⟨g,j,none⟩=false:=by
 refine⟨fun j hj=> ?_,fun j=>by simp[World.frozen?,h]⟩
 have e:(cur.toList.take l.length)[j]? =some (.int .i64 (l.getD j 0)):=by
  rw[h2,List.getElem?_map,List.getD_eq_getElem?_getD,List.getElem?_eq_getElem hj];rfl
 rw[List.getElem?_take_of_lt hj] at e
 rw[Nat.zero_add]
 simp only[World.cell?,h]
 simpa using e
/- the same, by the cells -/
theorem clone_cells (b o n c:Nat) (l:List Int) (w:World) (hl:l.length=n) (hn:0<n) (hn2:n≤1048576) (hc:∀j,j<l.length→w.cell? ⟨b,o+j,none⟩=some (.int .i64 (l.getD j 0))):
  Calls Tryz.prog 127 #[.slice (some ⟨b,o,none⟩) n c] w fun e w'=>∃g cap,e=.returned (.slice (some ⟨g,0,none⟩) n cap)∧w.heap.size≤g∧(∀j,j<l.length→w'.cell? ⟨g,0+j,none⟩=some (.int .i64 (l.getD j 0)))∧(∀j,w'.frozen? ⟨g,j,none⟩=false)∧Below w.heap.size w w':=by
 refine(clone_any b o n c l w hl hn hn2 hc).mono ?_
 rintro e w' ⟨g,cap,cur,rfl,h1,h2,h3,h4,h5⟩
 rw[←hl] at h4
 exact⟨g,cap,rfl,h1,(row_cells h2 h4).1,(row_cells h2 h4).2,h5⟩
end Dc
end Go.Proofs.YtlmdchpbpgcfmaaGreatDoor
/- What dot.Has and dot.Add answer. -/
namespace Go.Proofs.YtlmdchpbpgcfmaaGreatDoor
namespace Dd
open Go.ChangeShapes Go.WideShapes Go.ChangeAt Go.RowKit Za Db Dc
theorem wrap_in {x:Int} (h1: -1000000≤x) (h2:x≤1000000):IntKind.i64.wrap x=x:=by
 rw[IntKind.wrap_i64];omega
theorem with_zero {l:List Int} {who m:Int} (h:Dm.withE l who m=0):Dm.vecE l=0∧1≤who∧who≤8∧1≤m∧m≤9999:=by
 unfold Dm.withE at h
 split at h
 ·next h1=>
  unfold Dm.dotE at h
  split at h
  ·exact absurd h (by decide)
  ·exact⟨h1,by omega,by omega,by omega,by omega⟩
 ·next h1=>exact absurd h h1
theorem box_cells (w:World) (who m:Int) {w2:World} (hb:Below (w.alloc (.cells #[.int .i64 who,.int .i64 m] 72)).heap.size (w.alloc (.cells #[.int .i64 who,.int .i64 m] 72)) w2):
  w2.cell? ⟨w.heap.size,0,none⟩=some (.int .i64 who)∧w2.cell? ⟨w.heap.size,1,none⟩=some (.int .i64 m):=by
 have h1:(w.alloc (.cells #[.int .i64 who,.int .i64 m] 72)).heap.size=w.heap.size+1:=by simp
 refine⟨?_, ?_⟩
 ·rw[hb.cell (p:=⟨w.heap.size,0,none⟩) (by rw[h1];exact Nat.lt_succ_self _)]
  go_simp
 ·rw[hb.cell (p:=⟨w.heap.size,1,none⟩) (by rw[h1];exact Nat.lt_succ_self _)]
  go_simp
theorem has_any (p:Option Addr) (n c:Nat) (l:List Int) (who m:Int) (w:World) (hl:l.length=n) (h:IntsIn w p l):
  Calls Tryz.prog 149 #[.slice p n c,.agg #[.int .i64 who,.int .i64 m]] w fun e w'=>e=.returned (.tuple #[.bool (Dm.hasB l who m),errV (Dm.withE l who m)])∧Below w.heap.size w w':=by
 have hb:Below w.heap.size w (w.alloc (.cells #[.int .i64 who,.int .i64 m] 72)):=(Below.refl _ w).alloc (Nat.le_refl _) _
 have C:=with_any p n c l who m _ hl (h.below hb)
 by_cases h0:Dm.withE l who m=0
 ·obtain⟨hv,h1,h8,g1,g9⟩:=with_zero h0
  have hl8:=(Dm.vecE_zero.1 hv).1
  obtain rfl:n=8:=by omega
  obtain⟨b,o,rfl,hc⟩:=h.some (by rintro rfl;simp at hl8)
  have hwn:(who-1).toNat=who.toNat-1:=by omega
  have hcell:=hc (who.toNat-1) (by omega)
  obtain⟨x,hx⟩:∃x,x=l.getD (who.toNat-1) 0:=⟨_,rfl⟩
  rw[←hx] at hcell
  have HH:Hid (Dm.hasB l who m=decide (m≤x)):=by unfold Hid Dm.hasB Dm.known;rw[h0,hwn,←hx];simp
  have HE:Hid (errV (Dm.withE l who m)=.nilIface):=by unfold Hid;rw[h0];rfl
  have HCW:Hid (∀w2,Below (w.alloc (.cells #[.int .i64 who,.int .i64 m] 72)).heap.size (w.alloc (.cells #[.int .i64 who,.int .i64 m] 72)) w2→w2.cell? ⟨b,o+(who.toNat-1),none⟩=some (.int .i64 x)):=by
   intro w2 hb2
   rw[(bel hb hb2).cell (p:=⟨b,o+(who.toNat-1),none⟩) (World.block_lt_of_cell? _ _ hcell)]
   exact hcell
  rw[h0,errV_zero] at C
  clear hc h hl hl8 hv h0 hcell hx hwn
  go_enter Tryz.func149,Tryz.ntmps149
  go_wp2_with (go_at_call 150;refine C.mono ?_;rintro e w2 ⟨rfl,hb2⟩;have hcell:=HCW.out w2 hb2;obtain⟨hbx0,hbx1⟩:=box_cells w who m hb2;have HB:=z9 (bel hb hb2);clear hb2 hb HCW C)
  have hi0:0≤who-1:=by omega
  have hi1:who-1<8:=by omega
  have hwr:IntKind.i64.wrap (who-1)=who-1:=wrap_in (by omega) (by omega)
  go_quiet (fail)
  go_wp2
  all_goals
   go_ret2
   refine⟨?_, ?_⟩
   ·rw[HH.out,HE.out]
    simp[*]
   ·exact bel_drew HB.out _
 ·rw[errV_ne h0] at C
  obtain⟨k,hk⟩:∃k,k=Dm.withE l who m:=⟨_,rfl⟩
  have HE:Hid (errV (Dm.withE l who m)=.iface 84 (.int .i64 k)):=by unfold Hid;rw[errV_ne h0,hk]
  have HH:Hid (Dm.hasB l who m=false):=by unfold Hid Dm.hasB;simp[h0]
  rw[←hk] at C
  clear h0 hk
  go_enter Tryz.func149,Tryz.ntmps149
  go_wp2_with (go_at_call 150;refine C.mono ?_;rintro e w2 ⟨rfl,hb2⟩)
  go_ret2
  exact⟨by rw[HE.out,HH.out];rfl,bel hb hb2⟩
theorem add_no (p:Option Addr) (n c:Nat) (l:List Int) (who m:Int) (w:World) (hl:l.length=n) (h:IntsIn w p l) (hne:Dm.addE l who m≠0) (k:Int) (hk:Dm.addE l who m=k):
  Calls Tryz.prog 112 #[.slice p n c,.agg #[.int .i64 who,.int .i64 m]] w fun e w'=>e=.returned (.tuple #[.slice none 0 0,.iface 84 (.int .i64 k)])∧Below w.heap.size w w':=by
 have hb:Below w.heap.size w (w.alloc (.cells #[.int .i64 who,.int .i64 m] 72)):=(Below.refl _ w).alloc (Nat.le_refl _) _
 have C:=with_any p n c l who m _ hl (h.below hb)
 by_cases h0:Dm.withE l who m=0
 ·obtain⟨hv,h1,h8,g1,g9⟩:=with_zero h0
  have hl8:=(Dm.vecE_zero.1 hv).1
  obtain rfl:n=8:=by omega
  obtain⟨b,o,rfl,hc⟩:=h.some (by rintro rfl;simp at hl8)
  have hwn:(who-1).toNat=who.toNat-1:=by omega
  have hcell:=hc (who.toNat-1) (by omega)
  obtain⟨x,hx⟩:∃x,x=l.getD (who.toNat-1) 0:=⟨_,rfl⟩
  rw[←hx] at hcell
  have hx9:0≤x∧x≤9999:=by
   rw[hx,List.getD_eq_getElem?_getD,List.getElem?_eq_getElem (by omega)]
   exact(Dm.vecE_zero.1 hv).2 _ (List.getElem_mem _)
  have hkn:Dm.known l who=x:=by unfold Dm.known;rw[hwn,hx]
  have HCW:Hid (∀w2,Below (w.alloc (.cells #[.int .i64 who,.int .i64 m] 72)).heap.size (w.alloc (.cells #[.int .i64 who,.int .i64 m] 72)) w2→w2.cell? ⟨b,o+(who.toNat-1),none⟩=some (.int .i64 x)):=by
   intro w2 hb2
   rw[(bel hb hb2).cell (p:=⟨b,o+(who.toNat-1),none⟩) (World.block_lt_of_cell? _ _ hcell)]
   exact hcell
  rw[h0,errV_zero] at C
  unfold Dm.addE at hk hne
  rw[h0,if_neg (by simp),hkn] at hk hne
  have hi0:0≤who-1:=by omega
  have hi1:who-1<8:=by omega
  obtain⟨hx0,hx9⟩:=hx9
  clear hc h hl hl8 hv h0 hcell hx hwn hkn
  by_cases hm:m≤x
  ·rw[if_pos hm] at hk
   have HK:=z9 hk
   clear hk hne
   go_enter Tryz.func112,Tryz.ntmps112
   go_wp2_with (go_at_call 150;refine C.mono ?_;rintro e w2 ⟨rfl,hb2⟩;have hcell:=HCW.out w2 hb2;obtain⟨hbx0,hbx1⟩:=box_cells w who m hb2;have HB:=z9 (bel hb hb2);clear hb2 hb HCW C)
   go_ret2
   exact⟨by rw[←HK.out];rfl,HB.out⟩
  ·rw[if_neg hm] at hk hne
   by_cases hm2:x+1<m
   ·rw[if_pos hm2] at hk
    have HK:=z9 hk
    clear hk hne
    go_enter Tryz.func112,Tryz.ntmps112
    go_wp2_with (go_at_call 150;refine C.mono ?_;rintro e w2 ⟨rfl,hb2⟩;have hcell:=HCW.out w2 hb2;obtain⟨hbx0,hbx1⟩:=box_cells w who m hb2;have HB:=z9 (bel hb hb2);clear hb2 hb HCW C)
    go_ret2
    exact⟨by rw[←HK.out];rfl,HB.out⟩
   ·rw[if_neg hm2] at hne
    exact absurd rfl hne
 ·have hk2:Dm.withE l who m=k:=by unfold Dm.addE at hk;rw[if_pos h0] at hk;exact hk
  rw[errV_ne h0,hk2] at C
  clear h0 hk hk2 hne
  go_enter Tryz.func112,Tryz.ntmps112
  go_wp2_with (go_at_call 150;refine C.mono ?_;rintro e w2 ⟨rfl,hb2⟩)
  go_ret2
  exact⟨rfl,bel hb hb2⟩
theorem add_loc (p:Option Addr) (n c:Nat) (l:List Int) (who m:Int) (w:World) (hl:l.length=n) (h:IntsIn w p l) (h0:Dm.addE l who m=0):
  Calls Tryz.prog 112 #[.slice p n c,.agg #[.int .i64 who,.int .i64 m]] w fun e w'=>∃g cap,e=.returned (.tuple #[.slice (some ⟨g,0,none⟩) 8 cap,.nilIface])∧IntsIn w' (some ⟨g,0,none⟩) (l.set (who-1).toNat m)∧w.heap.size≤g∧Below w.heap.size w w':=by
 have hb:Below w.heap.size w (w.alloc (.cells #[.int .i64 who,.int .i64 m] 72)):=(Below.refl _ w).alloc (Nat.le_refl _) _
 have C:=with_any p n c l who m _ hl (h.below hb)
 have hw0:Dm.withE l who m=0:=by
  unfold Dm.addE at h0
  split at h0
  ·exact h0
  ·next hh=>simpa using hh
 obtain⟨hv,h1,h8,g1,g9⟩:=with_zero hw0
 have hl8:=(Dm.vecE_zero.1 hv).1
 obtain rfl:n=8:=by omega
 obtain⟨b,o,rfl,hc⟩:=h.some (by rintro rfl;simp at hl8)
 have hwn:(who-1).toNat=who.toNat-1:=by omega
 have hcell:=hc (who.toNat-1) (by omega)
 obtain⟨x,hx⟩:∃x,x=l.getD (who.toNat-1) 0:=⟨_,rfl⟩
 have hx9:0≤x∧x≤9999:=by
  rw[hx,List.getD_eq_getElem?_getD,List.getElem?_eq_getElem (by omega)]
  exact(Dm.vecE_zero.1 hv).2 _ (List.getElem_mem _)
 have hkn:Dm.known l who=x:=by unfold Dm.known;rw[hwn,hx]
 have hm:x<m∧m≤x+1:=by
  unfold Dm.addE at h0
  rw[hw0,if_neg (by simp),hkn] at h0
  split at h0
  ·exact absurd h0 (by decide)
  ·split at h0
   ·exact absurd h0 (by decide)
   ·omega
 have HCA:Hid (∀w2,Below (w.alloc (.cells #[.int .i64 who,.int .i64 m] 72)).heap.size (w.alloc (.cells #[.int .i64 who,.int .i64 m] 72)) w2→∀j,j<l.length→w2.cell? ⟨b,o+j,none⟩=some (.int .i64 (l.getD j 0))):=by
  intro w2 hb2 j hj
  rw[(bel hb hb2).cell (p:=⟨b,o+j,none⟩) (World.block_lt_of_cell? _ _ (hc j hj))]
  exact hc j hj
 rw[hw0,errV_zero] at C
 have hi0:0≤who-1:=by omega
 have hi1:who-1<8:=by omega
 have HL:=z9 hl8
 have HX:=z9 hx
 have HW:=z9 hwn
 obtain⟨hx0,hx9⟩:=hx9
 obtain⟨hm1,hm2⟩:=hm
 clear hc h hl hl8 hv h0 hw0 hcell hx hwn hkn
 go_enter Tryz.func112,Tryz.ntmps112
 go_wp2_with (go_at_call 150;refine C.mono ?_;rintro e w2 ⟨rfl,hb2⟩;have HC2:=Hid.out (p:=∀j,j<l.length→w2.cell? ⟨b,o+j,none⟩=some (.int .i64 (l.getD j 0))) (HCA.out w2 hb2);have hcell:=HC2 (who.toNat-1) (by rw[HL.out];omega);rw[←HX.out] at hcell;have HC3:=z9 HC2;clear HC2;obtain⟨hbx0,hbx1⟩:=box_cells w who m hb2;have HB:=z9 (bel hb hb2);clear hb2 hb HCA C)
 refine(clone_cells b o 8 c l w2 HL.out (by decide) (by decide) HC3.out).mono ?_
 rintro e w3 ⟨g,cap,rfl,hg,hcg,hfz,hb3⟩
 have hbx0':w3.cell? ⟨w.heap.size,0,none⟩=some (.int .i64 who):=by rw[hb3.cell (p:=⟨w.heap.size,0,none⟩) (World.block_lt_of_cell? _ _ hbx0)];exact hbx0
 have hbx1':w3.cell? ⟨w.heap.size,1,none⟩=some (.int .i64 m):=by rw[hb3.cell (p:=⟨w.heap.size,1,none⟩) (World.block_lt_of_cell? _ _ hbx1)];exact hbx1
 have hgc:w3.cell? ⟨g,0+(who.toNat-1),none⟩=some (.int .i64 (l.getD (who.toNat-1) 0)):=hcg _ (by rw[HL.out];omega)
 rw[←HX.out,Nat.zero_add] at hgc
 have hgf:=hfz (who.toNat-1)
 have HG:=z9 hg
 have HCG:=z9 hcg
 have HB3:=z9 (bel HB.out hb3)
 have HS:=z9 HB.out.size
 clear hfz hcg hg hb3 hbx0 hbx1 hcell
 go_wp2_with fail
 go_ret2
 refine⟨g,cap,rfl,Or.inr ⟨g,0,rfl, ?_⟩,Nat.le_trans HS.out HG.out, ?_⟩
 ·have:=set_cells (i:=(who-1).toNat) (x:=m) (by rw[HL.out];omega) HCG.out
  rw[HW.out,Nat.zero_add] at this
  rw[HW.out]
  exact this
 ·exact HB3.out.setCell (p:=⟨g,who.toNat-1,none⟩) (Nat.le_trans HS.out HG.out) _
end Dd
end Go.Proofs.YtlmdchpbpgcfmaaGreatDoor
