import Derived.Test.YtiamefgoeibhhaaGreatDoorJ13
import Derived.Test.YtiamefgoeibhhaaGreatDoorJ6
import Derived.Test.YtiamefgoeibhhaaGreatDoorJ7
import Derived.Deep.Strs
import Derived.ChangeSame
import Derived.ChangeOld
import Derived.Carry
import Derived.Test.YtiamefgoeibhhaaGreatDoorJ9
import Derived.Test.YtiamefgoeibhhaaGreatDoorU0
set_option linter.unusedVariables false
set_option maxRecDepth 100000
set_option maxHeartbeats 8000000
namespace Go.Proofs.YtiamefgoeibhhaaGreatDoor
namespace Iq
open Go.ChangeShapes Go.WideShapes Go.ChangeAt Go.RowKit Cm Ka Kb Na Om Oa Oz Oc Og Oi Hm Ia Ib Ic Idc Ie If Ig Ih Ii Ij Ik Il Im
open La (bel bel_drew errV_zero errV_ne own_ge own_grow own_below Lies)
open Lj (BookAt BookNew)
def RowL (B:Nat) (w:World) (v:Value) (L:List (Ox × Value)):Prop:=w.ownsRow B 140 6 v L.length (flatO L)
theorem RowL.six {B:Nat} {w:World} {g n c:Nat} {L:List (Ox × Value)} (h:RowL B w (.slice (some ⟨g,0,none⟩) n c) L) {j:Nat} {y:Ox × Value} (hj:L[j]? =some y):∀i u,(six y.1 y.2)[i]? =some u→w.cell? ⟨g,j*6+i,none⟩=some u:=by
 intro i u hu
 have hl:L.length=n:=by
  rcases h.2 with⟨e,_⟩ | ⟨g2,cap,cur,e,_⟩
  ·cases e
  ·injection e with _ e _;exact e.symm
 have h2:w.ownsRow B 140 6 (.slice (some ⟨g,0,none⟩) n c) n (flatO L):=by unfold RowL at h;rw[hl] at h;exact h
 have:=h2.cells (g:=g) rfl (j*6+i) u (flatO_at hj i u hu)
 rw[Addr.add_lit,Nat.zero_add] at this
 exact this
theorem RowL.shape {B:Nat} {w:World} {v:Value} {L:List (Ox × Value)} (h:RowL B w v L):(v=.slice none 0 0∧L=[])∨∃g c,v=.slice (some ⟨g,0,none⟩) L.length c∧B≤g∧L.length≤c∧c≤maxLen:=by
 rcases h.2 with⟨e,e0⟩ | ⟨g,cap,cur,e,h1,_,h3,h4,_⟩
 ·exact Or.inl ⟨e,List.eq_nil_of_length_eq_zero e0⟩
 ·exact Or.inr ⟨g,cap,e,h1,h3,h4⟩
end Iq
namespace Oo
open Go.ChangeShapes Go.WideShapes Go.ChangeAt Go.RowKit Cm Ka Kb Na Om Oa Oz
theorem stands:True:=trivial
end Oo
namespace Ja
open Cm Om Hm
structure Pre (S T:Dq) (L R:List Ox):Prop where
 invS:Inv S
 ordS:Ord S
 inv:Inv T
 ord:Ord T
 perm:(T.ops++(L++R)).Perm S.ops
 few:S.ops.length≤60
theorem Pre.mem {S T:Dq} {L R:List Ox} (h:Pre S T L R) {o:Ox} (ho:o ∈ L∨o ∈ R):o ∈ S.ops∧opE o=0∧(1≤o.1.1∧o.1.1≤8)∧1≤o.1.2:=by
 have hm:o ∈ S.ops:=h.perm.mem_iff.1 (List.mem_append_right _ (List.mem_append.2 ho))
 have h0:=h.invS.right o hm
 obtain⟨d1,d2,d3,d4⟩:=dotE_iff.1 (opE_zero.1 h0).1
 exact⟨hm,h0,⟨d1,d2⟩,d3⟩
theorem Pre.clash {S T:Dq} {L R:List Ox} (h:Pre S T L R) {o:Ox} (ho:o ∈ L):doE T o≠7:=by
 obtain⟨hm,h0,_,_⟩:=h.mem (Or.inl ho)
 intro h7
 obtain⟨e1,e2,e3,e4⟩:=opE_zero.1 h0
 have hw:Bm.withE T.book o.2.2.1=0:=Bm.withE_zero.2 ⟨h.inv.book,e3⟩
 have hp:Bm.putE T.book o.2.2.1≠7:=by unfold Bm.putE;split<;>simp
 unfold doE at h7
 by_cases t1:o.2.1=1
 ·rw[if_pos t1] at h7
  unfold Bm.writeE Bm.wrE at h7
  have hl:=(lawOf_zero.1 e4).1 t1
  have hL:Bm.isL o.2.2.2.1=true:=by unfold Bm.isL;simp;omega
  rw[if_neg (by simpa using hw),if_neg (by rw[hL];decide)] at h7
  by_cases hc:Bm.clash (Bm.leafAt T.book o.2.2.1) o.2.2.2.1=true
  ·unfold Bm.clash at hc
   simp only[Bool.and_eq_true,bne_iff_ne,ne_eq] at hc
   obtain⟨x,hx,x1,x2⟩:=h.inv.wr' _ hc.1
   have q1:=h.inv.wr x hx x1
   have q2:=h.invS.wr x (h.perm.mem_iff.1 (List.mem_append_left _ hx)) x1
   have q3:=h.invS.wr o hm t1
   rw[x2] at q1 q2
   exact hc.2 (by rw[q1,←q2,q3])
  ·rw[if_neg hc] at h7;exact hp h7
 ·rw[if_neg t1] at h7
  by_cases t2:o.2.1=2
  ·rw[if_pos t2] at h7
   unfold Bm.strikeE at h7
   rw[if_neg (by simpa using hw)] at h7
   exact hp h7
  ·rw[if_neg t2] at h7
   split at h7
   ·split at h7
    ·cases h7
    ·unfold withM at h7
     split at h7
     ·cases h7
     ·split at h7
      ·cases h7
      ·cases h7
   ·cases h7
end Ja
namespace Aa
open Cm Om Hm Um
def lacks (v:List Int) (o:Ox):Bool:= !decide (o.1.2≤v.getD (o.1.1-1).toNat 0)
def lackL (l:List Ox) (v:List Int):List Ox:=l.filter (lacks v)
def lackE (l:List Ox) (v:List Int):Int:=if Dm.vecE v≠0 then Dm.vecE v else packE l
theorem take_next {l:List Ox} {k:Nat} (hk:k<l.length):l.take (k+1)=l.take k++[l.getD k oz]:=by
 rw[List.take_add_one,List.getD_eq_getElem?_getD,List.getElem?_eq_getElem hk];rfl
theorem lack_step {l:List Ox} {v:List Int} {k:Nat} (hk:k<l.length):lackL (l.take (k+1)) v=lackL (l.take k) v++(if lacks v (l.getD k oz) then[l.getD k oz] else[]):=by
 unfold lackL
 rw[take_next hk,List.filter_append]
 congr 1
 generalize l.getD k oz=x
 cases h:lacks v x with
 | true=>rw[List.filter_cons_of_pos h];rfl
 | false=>rw[List.filter_cons_of_neg (by rw[h];decide)];rfl
theorem lack_len (l:List Ox) (v:List Int):(lackL l v).length≤l.length:=List.length_filter_le _ _
theorem lack_mem {l:List Ox} {v:List Int} {o:Ox} (h:o ∈ lackL l v):o ∈ l:=(List.mem_filter.1 h).1
theorem lack_kn {S:Dq} {o:Ox}:lacks S.known o= !decide (o.1.2≤kn S o.1.1):=rfl
theorem lack_first {l:List Ox} {k:Nat} (hk:k<l.length) (h:∀o ∈ l.take k,opE o=0) (h9:opE (l.getD k oz)≠0):firstE l=opE (l.getD k oz):=by
 have e:l=l.take k++l.getD k oz::l.drop (k+1):=by
  rw[List.getD_eq_getElem?_getD,List.getElem?_eq_getElem hk]
  show l=l.take k++l[k]::l.drop (k+1)
  rw[←List.drop_eq_getElem_cons hk,List.take_append_drop]
 obtain⟨x,hx⟩:∃x,x=l.getD k oz:=⟨_,rfl⟩
 rw[←hx] at e h9 ⊢
 have hf:l.find? (fun o=>decide (opE o≠0))=some x:=by
  rw[e,List.find?_append,List.find?_eq_none.2 (fun o ho=>by simpa using h o ho),Option.none_or,List.find?_cons_of_pos (by simpa using h9)]
 unfold firstE
 rw[hf]
def cntN:Dq→List Ox→Int
 | _,[]=>0
 | S,o::r=>if apE S o≠0 then 0 else(if isNew S o then 1 else 0)+cntN (apS S o) r
theorem cntN_append:∀(L M:List Ox) (S:Dq),runE S L=0→cntN S (L++M)=cntN S L+cntN (runS S L) M
 | [],M,S,_=>by simp[cntN,runS]
 | o::L,M,S,h=>by
  by_cases h0:apE S o=0
  ·have h1:¬apE S o≠0:=by simpa using h0
   simp only[runE,if_neg h1] at h
   simp only[List.cons_append,cntN,runS,if_neg h1]
   rw[cntN_append L M _ h];omega
  ·simp only[runE,if_pos h0] at h;exact absurd h h0
theorem cntN_go {L:List Ox} {S:Dq} {k:Nat} (hk:k<L.length) (h:runE S (L.take k)=0) (h9:apE (runS S (L.take k)) (L.getD k oz)=0):cntN S (L.take (k+1))=cntN S (L.take k)+(if isNew (runS S (L.take k)) (L.getD k oz) then 1 else 0):=by
 rw[take_next hk,cntN_append _ _ _ h]
 simp only[cntN,if_neg (show¬apE (runS S (L.take k)) (L.getD k oz)≠0 by simpa using h9)]
 omega
def takeN (S:Dq) (L:List Ox):Int:=if runE S L≠0 then 0 else cntN S L
def opnL (s:ByteArray):List Ox:=(unpB s.toList).getD []
def opnE (S:Dq) (s:ByteArray):Int:=if(unpB s.toList).isSome then runE S (opnL s) else 2
def opnN (S:Dq) (s:ByteArray):Int:=if(unpB s.toList).isSome then takeN S (opnL s) else 0
theorem opn_right (s:ByteArray):∀x ∈ opnL s,opE x=0:=by
 unfold opnL
 cases h:unpB s.toList with
 | none=>intro x hx;cases hx
 | some l=>exact(packE_zero.1 (unpB_iff.1 h).1).2
end Aa
namespace Ab
open Cm Om Hm Um Aa
theorem ap_ops {S:Dq} {o x:Ox} (h:x ∈ (apS S o).ops):x ∈ S.ops∨x=o:=by
 unfold apS at h
 cases hn:isNew S o with
 | false=>rw[hn] at h;exact Or.inl h
 | true=>
  rw[hn,if_pos rfl] at h
  rcases List.mem_append.1 (show x ∈ S.ops++[o] from h) with h | h
  ·exact Or.inl h
  ·exact Or.inr (List.mem_singleton.1 h)
theorem ops_ap {S:Dq} {o x:Ox} (h:x ∈ S.ops):x ∈ (apS S o).ops:=by
 unfold apS
 cases hn:isNew S o with
 | false=>exact h
 | true=>rw[if_pos rfl];exact List.mem_append_left _ h
theorem lack_none {A B:Dq} (h:∀o ∈ A.ops,o.1.2≤kn B o.1.1):lackL A.ops B.known=[]:=by
 unfold lackL
 refine List.filter_eq_nil_iff.2 (fun o ho=> ?_)
 rw[lack_kn,decide_eq_true (h o ho)];simp
end Ab
end Go.Proofs.YtiamefgoeibhhaaGreatDoor
