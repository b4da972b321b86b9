import Derived.Test.YtlmdchpbpgcfmaaGreatDoorU0
import Derived.Test.YtlmdchpbpgcfmaaGreatDoorJ1
set_option linter.unusedVariables false
set_option maxRecDepth 100000
set_option maxHeartbeats 8000000
/- The plain mathematics of what is taken back: which ops take back the last ones that still show. No program is named here. -/
namespace Go.Proofs.YtlmdchpbpgcfmaaGreatDoor
namespace Ba
open Cm Om Hm Um
open Op (bytesLess)
open Bm (Leaf none0 ahd has leafAt bookE isL putE putL stX wrX wrE)
/- how many strikes of a place there are -/
def cnt (l:List Ox) (p:ByteArray):Nat:=(l.filter fun o=>decide (o.2.1=2)&&decide (o.2.2.1=p)).length
theorem cnt_append (a b:List Ox) (p:ByteArray):cnt (a++b) p=cnt a p+cnt b p:=by unfold cnt;rw[List.filter_append,List.length_append]
/- the place of the leaf behind -/
def behind (B:List Leaf) (p:ByteArray):ByteArray:=if ahd B p.toList+1<B.length then(B.getD (ahd B p.toList+1) none0).1 else⟨#[]⟩
/- is it a write that shows, a strike that shows, or neither? -/
def newP (who:Int) (o:Ox) (B:List Leaf):ByteArray:=stepP o.2.2.1 (behind B o.2.2.1) who
def betE (who:Int) (o:Ox) (B:List Leaf):Int:=Pm.betErr o.2.2.1.toList (behind B o.2.2.1).toList who
def let' (o:Ox) (B:List Leaf):Int:=(leafAt B o.2.2.1).2.1
def stO (S:Dq) (who:Int) (o:Ox) (L:List Ox):Ox:=((who,kn S who+1+L.length),2,o.2.2.1,0,[])
def wrO (S:Dq) (who:Int) (o:Ox) (B:List Leaf) (L:List Ox):Ox:=((who,kn S who+1+L.length),1,newP who o B,let' o B,[])
def stB (o:Ox) (B:List Leaf):List Leaf:=putL B o.2.2.1 (stX B o.2.2.1)
def wrB (who:Int) (o:Ox) (B:List Leaf):List Leaf:=putL B (newP who o B) (wrX B (newP who o B) (let' o B))
/- the latest first -/
/- the book stays right -/
end Ba
end Go.Proofs.YtlmdchpbpgcfmaaGreatDoor
/- The plain mathematics of package back: what it takes back, op by op, and that it is what the document's answer is. No program is named here. -/
namespace Go.Proofs.YtlmdchpbpgcfmaaGreatDoor
namespace Bf
open Cm Om Hm Um Ba
open Op (bytesLess)
open Bm (Leaf none0 ahd has leafAt bookE isL putE putL stX wrX wrE Rise leafE)
/- leafs that are right and rise, however many -/
structure Ok (B:List Leaf):Prop where
 rise:Rise B
 leaf:∀x ∈ B,leafE x=0
theorem Ok.book {B:List Leaf} (h:Ok B) (hl:B.length≤300):bookE B=0:=Bm.bookE_zero.2 ⟨hl,h.leaf,h.rise⟩
theorem has_lt {B:List Leaf} {p:List UInt8} (h:has B p=true):ahd B p<B.length:=by
 unfold has at h;simp only[Bool.and_eq_true,decide_eq_true_eq] at h;exact h.1
theorem leaf_get {B:List Leaf} {p:ByteArray} (h:has B p.toList=true):leafAt B p=B.getD (ahd B p.toList) none0:=by unfold leafAt;rw[if_pos h]
theorem put_ok {B:List Leaf} (h:Ok B) {p:ByteArray} {x:Leaf} (hx:x.1=p) (hl:leafE x=0):Ok (putL B p x):=
 ⟨Bm.put_rise h.rise hx,fun y hy=>by
  rcases(Bm.put_mem h.rise hx y).1 hy with rfl | ⟨h1,_⟩
  ·exact hl
  ·exact h.leaf y h1⟩
theorem leaf_ok {B:List Leaf} (h:Ok B) {p:ByteArray} (hh:has B p.toList=true):leafE (leafAt B p)=0∧(leafAt B p).1=p:=
 ⟨h.leaf _ (Bm.leafAt_has h.rise hh).1,(Bm.leafAt_has h.rise hh).2⟩
theorem st_ok {B:List Leaf} (h:Ok B) {o:Ox} (hh:has B o.2.2.1.toList=true):Ok (stB o B)∧(stB o B).length=B.length:=by
 obtain⟨h1,h2⟩:=leaf_ok h hh
 obtain⟨l1,l2,l3⟩:=Bm.leafE_zero.1 h1
 rw[h2] at l1
 refine⟨put_ok h rfl (Bm.leafE_zero.2 ⟨l1,l2,Or.inr rfl⟩), ?_⟩
 unfold stB
 rw[Bm.put_length h.rise,if_pos hh]
/- the place of a letter that is written anew -/
theorem new_at {B:List Leaf} (h:Ok B) {who:Int} {o:Ox} (hh:has B o.2.2.1.toList=true) (hE:betE who o B=0):ahd B (newP who o B).toList=ahd B o.2.2.1.toList+1∧has B (newP who o B).toList=false:=by
 have s:Stp o.2.2.1 (behind B o.2.2.1) who:=step_ok hE
 have hlt:=has_lt hh
 have hk:=(leaf_ok h hh).2
 rw[leaf_get hh] at hk
 have lo:∀j,j<ahd B o.2.2.1.toList+1→bytesLess (B.getD j none0).1.toList (newP who o B).toList=true:=by
  intro j hj
  rcases Nat.lt_or_eq_of_le (show j≤ahd B o.2.2.1.toList by omega) with e | e
  ·have h1:=Bm.rise_lt h.rise e hlt
   rw[hk] at h1
   exact Bm.less_trans h1 s.up
  ·rw[e,hk];exact s.up
 have hi:∀j,ahd B o.2.2.1.toList+1≤j→j<B.length→bytesLess (newP who o B).toList (B.getD j none0).1.toList=true:=by
  intro j hj hl
  have e:behind B o.2.2.1=(B.getD (ahd B o.2.2.1.toList+1) none0).1:=by unfold behind;rw[if_pos (by omega)]
  have h9:bytesLess (newP who o B).toList (B.getD (ahd B o.2.2.1.toList+1) none0).1.toList=true:=by
   have h2:=s.down
   rcases h2 with q | q
   ·rw[e] at q
    exact absurd q (chk_ne (Bm.leafE_zero.1 (h.leaf _ (Bm.getD_mem (show ahd B o.2.2.1.toList+1<B.length by omega)))).1)
   ·rw[←e];exact q
  rcases Nat.lt_or_eq_of_le hj with q | q
  ·exact Bm.less_trans h9 (Bm.rise_lt h.rise q hl)
  ·rw[←q];exact h9
 refine⟨Bm.ahead_eq h.rise (by omega) lo (fun j hj hl=>Bm.less_asymm (hi j hj hl)), ?_⟩
 cases e:has B (newP who o B).toList with
 | false=>rfl
 | true=>
  obtain⟨x,hx,e2⟩:=(Bm.has_iff h.rise).1 e
  obtain⟨j,hj,rfl⟩:=Bm.mem_getD hx
  rcases Nat.lt_or_ge j (ahd B o.2.2.1.toList+1) with q | q
  ·have:=lo j q;rw[e2,Bm.less_irrefl] at this;cases this
  ·have:=hi j q hj;rw[e2,Bm.less_irrefl] at this;cases this
theorem wr_ok {B:List Leaf} (h:Ok B) {who:Int} {o:Ox} (hh:has B o.2.2.1.toList=true) (hE:betE who o B=0) (hl:isL (let' o B)=true):Ok (wrB who o B)∧(wrB who o B).length=B.length+1:=by
 obtain⟨h1,h2⟩:=new_at h hh hE
 have s:Stp o.2.2.1 (behind B o.2.2.1) who:=step_ok hE
 refine⟨put_ok h rfl (Bm.leafE_zero.2 ⟨s.chk,Or.inr hl,Or.inl (Bm.isL_ne hl).1⟩), ?_⟩
 unfold wrB
 rw[Bm.put_length h.rise,if_neg (by rw[h2];simp)]
/- what package back does -/
def kindP (S:Dq) (o:Ox) (B:List Leaf):Nat:=
 if has B o.2.2.1.toList=false then 0
 else if o.2.1=1∧Bm.isS (leafAt B o.2.2.1)=true then 1
 else if o.2.1=2∧isL (leafAt B o.2.2.1).2.1=true∧cnt S.ops o.2.2.1=1 then 2
 else 0
theorem kind_has {S:Dq} {o:Ox} {B:List Leaf} (h:kindP S o B≠0):has B o.2.2.1.toList=true:=by
 unfold kindP at h
 cases e:has B o.2.2.1.toList with
 | true=>rfl
 | false=>rw[e,if_pos rfl] at h;exact absurd rfl h
theorem kind_two {S:Dq} {o:Ox} {B:List Leaf} (h:kindP S o B=2):o.2.1=2∧isL (let' o B)=true∧cnt S.ops o.2.2.1=1:=by
 have hh:=kind_has (S:=S) (o:=o) (B:=B) (by omega)
 unfold kindP at h
 rw[hh,if_neg (by simp)] at h
 by_cases h1:o.2.1=1∧Bm.isS (leafAt B o.2.2.1)=true
 ·rw[if_pos h1] at h;omega
 ·rw[if_neg h1] at h
  by_cases h2:o.2.1=2∧isL (leafAt B o.2.2.1).2.1=true∧cnt S.ops o.2.2.1=1
  ·exact h2
  ·rw[if_neg h2] at h;omega
theorem kind_one {S:Dq} {o:Ox} {B:List Leaf} (h:kindP S o B=1):o.2.1=1∧Bm.isS (leafAt B o.2.2.1)=true:=by
 have hh:=kind_has (S:=S) (o:=o) (B:=B) (by omega)
 unfold kindP at h
 rw[hh,if_neg (by simp)] at h
 by_cases h1:o.2.1=1∧Bm.isS (leafAt B o.2.2.1)=true
 ·exact h1
 ·rw[if_neg h1] at h
  by_cases h2:o.2.1=2∧isL (leafAt B o.2.2.1).2.1=true∧cnt S.ops o.2.2.1=1
  ·rw[if_pos h2] at h;omega
  ·rw[if_neg h2] at h;omega
/- the document's answer is the same -/
structure Jn (S:Dq) (B:List Leaf) (L:List Ox):Prop where
 ok:Ok B
 st:∀o ∈ S.ops,o.2.1=2→(leafAt B o.2.2.1).2.2=true
 cn:∀p,cnt L p≠0→cnt S.ops p=0
theorem cnt_none {l:List Ox} {p:ByteArray} (h:∀o ∈ l,o.2.1=2→o.2.2.1≠p):cnt l p=0:=by
 unfold cnt
 rw[List.length_eq_zero_iff,List.filter_eq_nil_iff]
 intro o ho e
 simp only[Bool.and_eq_true,decide_eq_true_eq] at e
 exact h o ho e.1 e.2
theorem Jn.strike {S:Dq} {who:Int} {B:List Leaf} {L:List Ox} {o:Ox} (J:Jn S B L) (hk:kindP S o B=1):Jn S (stB o B) (L++[stO S who o L]):=by
 have hh:=kind_has (S:=S) (o:=o) (B:=B) (by omega)
 obtain⟨k1,k2⟩:=kind_one hk
 refine⟨(st_ok J.ok hh).1,fun x hx h2=> ?_,fun p hp=> ?_⟩
 ·unfold stB
  rw[Bm.leafAt_put J.ok.rise (p:=o.2.2.1) (x:=stX B o.2.2.1) rfl]
  split
  ·rfl
  ·exact J.st x hx h2
 ·by_cases h0:cnt L p=0
  ·rw[cnt_append,h0,Nat.zero_add] at hp
   have e:o.2.2.1=p:=by
    refine Decidable.byContradiction fun e=>hp (cnt_none fun y hy _=> ?_)
    rw[List.mem_singleton.1 hy];exact e
   refine cnt_none fun x hx h2 e2=> ?_
   have h9:=J.st x hx h2
   rw[e2,←e] at h9
   unfold Bm.isS at k2
   rw[h9] at k2;simp at k2
  ·exact J.cn p h0
theorem Jn.write {S:Dq} {who:Int} {B:List Leaf} {L:List Ox} {o:Ox} (J:Jn S B L) (hk:kindP S o B=2) (hE:betE who o B=0):Jn S (wrB who o B) (L++[wrO S who o B L]):=by
 have hh:=kind_has (S:=S) (o:=o) (B:=B) (by omega)
 obtain⟨k1,k2,k3⟩:=kind_two hk
 refine⟨(wr_ok J.ok hh hE k2).1,fun x hx h2=> ?_,fun p hp=> ?_⟩
 ·unfold wrB
  rw[Bm.leafAt_put J.ok.rise (p:=newP who o B) (x:=wrX B (newP who o B) (let' o B)) rfl]
  split
  ·rename_i e
   have:=J.st x hx h2
   rw[e] at this;exact this
  ·exact J.st x hx h2
 ·rw[cnt_append,cnt_none (l:=[wrO S who o B L]) (fun y hy h2=>by rw[List.mem_singleton.1 hy] at h2;exact absurd (show(1:Int)=2 from h2) (by decide)),Nat.add_zero] at hp
  exact J.cn p hp
end Bf
end Go.Proofs.YtlmdchpbpgcfmaaGreatDoor
/- The plain mathematics of what is taken back: a text that was just written, a letter that was just struck. No program is named here. -/
namespace Go.Proofs.YtlmdchpbpgcfmaaGreatDoor
namespace Bp
open Cm Om Hm Um Ba Bf
open Op (bytesLess)
open Bm (Leaf none0 ahd has leafAt bookE isL putE putL stX wrX wrE Rise leafE isS)
/- the leaf in the middle -/
/- leafs of which the last r are struck, one by one, the last first -/
/- a text that was just written -/
/- the strikes, done one by one -/
/- the places of what is taken back are no longer than places are -/
theorem chk_size {p:ByteArray} (h:Pm.chk p.toList=0):p.size≤12:=by
 have:=(Bm.chk_pos h).2
 rw[Om.len_eq] at this;exact this
/- an insert is such a text -/
/- a letter that was just struck -/
end Bp
end Go.Proofs.YtlmdchpbpgcfmaaGreatDoor
