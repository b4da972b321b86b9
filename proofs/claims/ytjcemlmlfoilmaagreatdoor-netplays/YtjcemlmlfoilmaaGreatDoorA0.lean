import Derived.Test.YtjcemlmlfoilmaaGreatDoorJ13
import Derived.Test.YtjcemlmlfoilmaaGreatDoorU0
import Derived.Deep.Strs
import Derived.ChangeSame
import Derived.ChangeOld
import Derived.Carry
set_option linter.unusedVariables false
set_option maxRecDepth 100000
set_option maxHeartbeats 8000000
namespace Go.Proofs.YtjcemlmlfoilmaaGreatDoor
open Om Hm
open Go.Proofs.Tryz (prog)
namespace Iq
open Oa
def nb:ByteArray:=⟨#[110,98]⟩
def o2:Ox:=((2,1),1,nb,104,[])
def d2:Dq:=apS d0 o2
structure MT (S T:Dq) (L:List Ox):Prop where
 inv:Inv T
 perm:(T.ops++L).Perm S.ops
 seq:Seq (fun w=>kn T w) L
 right:∀o ∈ L,opE o=0
 few:S.ops.length≤400
theorem MT.all{S T:Dq}(I:Inv S)(h:MT S T []):S.book=T.book/\S.marks=T.marks/\S.known=T.known:=by
 have:=h.perm;rw[vY] at this;exact meet I h.inv this.symm
def RowL (B:Nat) (w:World) (v:Value) (L:List (Ox × Value)):Prop:=w.ownsRow B 97 6 v L.length (flatO L)
theorem RowL.six{B:Nat}{w:World}{g n c:Nat}{L:List (Ox × Value)}(h:RowL B w (.slice (some ⟨g,0,none⟩) n c) L){j:Nat}{y:Ox × Value}(hj:L[j]? =some y):∀i u,(six y.1 y.2)[i]? =some u→w.cell? ⟨g,j*6+i,none⟩=some u:=by
 intro i u hu
 have hl:L.length=n:=by
  rcases h.2 with⟨e,_⟩ | ⟨g2,cap,cur,e,_⟩
  ·cases e
  ·injection e with _ e _;exact e.symm
 have h2:w.ownsRow B 97 6 (.slice (some ⟨g,0,none⟩) n c) n (flatO L):=by unfold RowL at h;rw[hl] at h;exact h
 have:=h2.cells (g:=g) rfl (j*6+i) u (oC hj i u hu)
 rw[Addr.add_lit,Nat.zero_add] at this
 exact this
theorem RowL.shape{B:Nat}{w:World}{v:Value}{L:List (Ox × Value)}(h:RowL B w v L):(v=.slice none 0 0/\L=[])\/∃g c,v=.slice (some ⟨g,0,none⟩) L.length c/\B<=g/\L.length<=c/\c<=maxLen:=by
 rcases h.2 with⟨e,e0⟩ | ⟨g,cap,cur,e,h1,_,h3,h4,_⟩
 ·exact qH ⟨e,qK e0⟩
 ·exact qF ⟨g,cap,e,h1,h3,h4⟩
end Iq
namespace Oo
theorem laidOut:laidOutB prog=true:=by kernel_rfl
theorem aIX:prog.cellsOf 3=1:=by kernel_rfl
end Oo
namespace Ja
open Cm
structure Pre (S T:Dq) (L R:List Ox):Prop where
 invS:Inv S
 ordS:Ord S
 inv:Inv T
 ord:Ord T
 perm:(T.ops++(L++R)).Perm S.ops
 few:S.ops.length≤60
theorem Pre.mem{S T:Dq}{L R:List Ox}(h:Pre S T L R){o:Ox}(ho:o ∈ L\/o ∈ R):o ∈ S.ops/\opE o=0/\(1<=o.1.1/\o.1.1<=8)/\1<=o.1.2:=by
 have a:o ∈ S.ops:=h.perm.mem_iff.1 (yI _ (jB.2 ho));have b:=h.invS.right o a;obtain⟨c,d,e,f⟩:=bH.1 (aO.1 b).1;exact⟨a,b,⟨c,d⟩,e⟩
theorem Pre.clash{S T:Dq}{L R:List Ox}(h:Pre S T L R){o:Ox}(ho:o ∈ L):doE T o≠7:=by
 obtain⟨k,l,_,_⟩:=h.mem (qH ho);intro h7;obtain⟨t,v,n,p⟩:=aO.1 l;have c:=Bm.eU.2 ⟨h.inv.book,n⟩;have d:Bm.putE T.book o.2.2.1≠7:=by unfold Bm.putE;split<;>simp
 unfold doE at h7;by_cases b:o.2.1=1
 ·rw[if_pos b] at h7;unfold Bm.writeE Bm.wrE at h7;have y:=(bB.1 p).1 b;have q:Bm.isL o.2.2.2.1=true:=by unfold Bm.isL;simp;omega
  rw[if_neg (by simpa using c),if_neg (by rw[q];decide)] at h7;by_cases a:Bm.clash (Bm.leafAt T.book o.2.2.1) o.2.2.2.1=true
  ·unfold Bm.clash at a;simp only[qX,bne_iff_ne,ne_eq] at a;obtain⟨x,e,f,r⟩:=h.inv.wr' _ a.1;have g:=h.inv.wr x e f;have i:=h.invS.wr x (h.perm.mem_iff.1 (xC _ e)) f;rw[r] at g i;exact a.2 (by rw[g,<-i,(h.invS.wr o k b)])
  ·rw[if_neg a] at h7;exact d h7
 ·rw[if_neg b] at h7;by_cases j:o.2.1=2
  ·rw[if_pos j] at h7;unfold Bm.strikeE at h7;rw[if_neg (by simpa using c)] at h7;exact d h7
  ·rw[if_neg j] at h7;split at h7
   ·split at h7
    ·cases h7
    ·unfold withM at h7;split at h7
     ·cases h7
     ·split at h7
      ·cases h7
      ·cases h7
   ·cases h7
theorem Pre.all{S T:Dq}(h:Pre S T [] []):S.book=T.book/\S.marks=T.marks/\S.known=T.known/\T.ops.length=S.ops.length:=by
 have a:=h.perm;rw[vY,vY] at a;obtain⟨b,c,d⟩:=meet h.invS h.inv a.symm;exact⟨b,c,d,a.length_eq⟩
end Ja
namespace Aa
open Um
def lacks (v:List Int) (o:Ox):Bool:= !decide (o.1.2≤v.getD (o.1.1-1).toNat 0)
def lackL (l:List Ox) (v:List Int):List Ox:=l.filter (lacks v)
def lackE (l:List Ox) (v:List Int):Int:=if Dm.vecE v≠0 then Dm.vecE v else packE l
variable {l:List Ox}{k:Nat}{v:List Int}
theorem eB(hk:k<l.length):l.take (k+1)=l.take k++[l.getD k oz]:=by
 rw[jV,qA,qB hk];rfl
theorem wT(hk:k<l.length):lackL (l.take (k+1)) v=lackL (l.take k) v++(if lacks v (l.getD k oz) then[l.getD k oz] else[]):=by
 unfold lackL
 rw[eB hk,vS]
 congr 1
 generalize l.getD k oz=x
 cases h:lacks v x with
 | true=>rw[List.filter_cons_of_pos h];rfl
 | false=>rw[List.filter_cons_of_neg (by rw[h];decide)];rfl
theorem aA6(l:List Ox)(v:List Int):(lackL l v).length<=l.length:=vQ _ _
theorem nI{o:Ox}(h:o ∈ lackL l v):o ∈ l:=(yH.1 h).1
theorem aB8(hk:k<l.length)(h:∀o ∈ l.take k,opE o=0)(h9:opE (l.getD k oz)≠0):firstE l=opE (l.getD k oz):=by
 have e:l=l.take k++l.getD k oz::l.drop (k+1):=by
  rw[qA,qB hk];show l=l.take k++l[k]::l.drop (k+1)
  rw[<-xB hk,xD]
 obtain⟨x,a⟩:=zx (l.getD k oz);rw[<-a] at e h9 |-
 have b:l.find? (fun o=>decide (opE o≠0))=some x:=by
  rw[e,List.find?_append,List.find?_eq_none.2 (fun o ho=>by simpa using h o ho),Option.none_or,yC (by simpa using h9)]
 unfold firstE;rw[b]
def cntN:Dq→List Ox→Int
 | _,[]=>0
 | S,o::r=>if apE S o≠0 then 0 else(if isNew S o then 1 else 0)+cntN (apS S o) r
theorem rA:∀(L M:List Ox) (S:Dq),runE S L=0->cntN S (L++M)=cntN S L+cntN (runS S L) M
 | [],M,S,_=>by simp[cntN,runS]
 | o::L,M,S,h=>by
  by_cases h0:apE S o=0
  ·have h1:¬apE S o≠0:=by simpa using h0
   simp only[runE,if_neg h1] at h
   simp only[jJ,cntN,runS,if_neg h1]
   rw[rA L M _ h];omega
  ·simp only[runE,if_pos h0] at h;exact absurd h h0
theorem aDL{L:List Ox}{S:Dq}(hk:k<L.length)(h:runE S (L.take k)=0)(h9:apE (runS S (L.take k)) (L.getD k oz)=0):cntN S (L.take (k+1))=cntN S (L.take k)+(if isNew (runS S (L.take k)) (L.getD k oz) then 1 else 0):=by
 rw[eB hk,rA _ _ _ h];simp only[cntN,if_neg (show¬apE (runS S (L.take k)) (L.getD k oz)≠0 by simpa using h9)];omega
def takeN (S:Dq) (L:List Ox):Int:=if runE S L≠0 then 0 else cntN S L
def opnL (s:ByteArray):List Ox:=(unpB s.toList).getD []
def opnE (S:Dq) (s:ByteArray):Int:=if(unpB s.toList).isSome then runE S (opnL s) else 2
def opnN (S:Dq) (s:ByteArray):Int:=if(unpB s.toList).isSome then takeN S (opnL s) else 0
theorem uV(s:ByteArray):∀x ∈ opnL s,opE x=0:=by
 unfold opnL
 cases h:unpB s.toList with
 | none=>intro x hx;cases hx
 | some l=>exact(dC.1 (uI.1 h).1).2
end Aa
namespace Ab
theorem ap_ops{S:Dq}{o x:Ox}(h:x ∈ (apS S o).ops):x ∈ S.ops\/x=o:=by
 unfold apS at h
 cases hn:isNew S o with
 | false=>rw[hn] at h;exact qH h
 | true=>
  rw[hn,if_pos rfl] at h
  rcases jB.1 (show x ∈ S.ops++[o] from h) with h | h
  ·exact qH h
  ·exact qF (qP.1 h)
theorem aFB{S:Dq}{o x:Ox}(h:x ∈ S.ops):x ∈ (apS S o).ops:=by
 unfold apS
 cases hn:isNew S o with
 | false=>exact h
 | true=>rw[if_pos rfl];exact xC _ h
end Ab
end Go.Proofs.YtjcemlmlfoilmaaGreatDoor
