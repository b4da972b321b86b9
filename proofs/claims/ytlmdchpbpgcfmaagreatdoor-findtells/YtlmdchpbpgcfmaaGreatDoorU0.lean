import Derived.Test.YtlmdchpbpgcfmaaGreatDoorJ9
import Derived.Test.YtlmdchpbpgcfmaaGreatDoorP1
set_option linter.unusedVariables false
set_option maxRecDepth 100000
set_option maxHeartbeats 8000000
/- The plain mathematics of edits: which ops an edit is, and what they come to. No program is named here. -/
namespace Go.Proofs.YtlmdchpbpgcfmaaGreatDoor
namespace Um
open Cm Om Hm
open Op (bytesLess)
open Bm (Leaf none0)
/- the places of what is seen -/
def seenP (l:List Leaf):List ByteArray:=(l.filter Bm.isS).map (·.1)
theorem seenP_append (a b:List Leaf):seenP (a++b)=seenP a++seenP b:=by unfold seenP;rw[List.filter_append,List.map_append]
theorem seenP_cons (x:Leaf) (l:List Leaf):seenP (x::l)=if Bm.isS x then x.1::seenP l else seenP l:=by
 unfold seenP;rw[List.filter_cons];cases Bm.isS x<;>rfl
theorem seenP_len (l:List Leaf):(seenP l).length=(Bm.text l).length:=by unfold seenP Bm.text;simp
theorem seenP_le (l:List Leaf):(seenP l).length≤l.length:=by rw[seenP_len];exact Bm.text_len_le l
theorem take_leaf {l:List Leaf} {k:Nat} (hk:k<l.length):l.take (k+1)=l.take k++[l.getD k none0]:=by
 rw[List.take_add_one,List.getD_eq_getElem?_getD,List.getElem?_eq_getElem hk];rfl
theorem seenP_yes {l:List Leaf} {k:Nat} (hk:k<l.length) (h:Bm.isS (l.getD k none0)=true):seenP (l.take (k+1))=seenP (l.take k)++[(l.getD k none0).1]:=by
 rw[take_leaf hk,seenP_append,seenP_cons,h,if_pos rfl];rfl
theorem seenP_no {l:List Leaf} {k:Nat} (hk:k<l.length) (h:Bm.isS (l.getD k none0)=false):seenP (l.take (k+1))=seenP (l.take k):=by
 rw[take_leaf hk,seenP_append,seenP_cons,h];exact List.append_nil _
theorem seenP_mem {l:List Leaf} {p:ByteArray} (h:p ∈ seenP l):∃x ∈ l,Bm.isS x=true∧x.1=p:=by
 unfold seenP at h
 obtain⟨x,hx,e⟩:=List.mem_map.1 h
 exact⟨x,(List.mem_filter.1 hx).1,(List.mem_filter.1 hx).2,e⟩
theorem split_seen:∀(l:List Leaf) (r:Nat),r<(seenP l).length→∃A x B,l=A++x::B∧Bm.isS x=true∧(seenP A).length=r
 | [],r,h=>by simp[seenP] at h
 | y::l,r,h=>by
  rw[seenP_cons] at h
  cases hy:Bm.isS y with
  | true=>
   rw[hy,if_pos rfl] at h
   cases r with
   | zero=>exact⟨[],y,l,rfl,hy,rfl⟩
   | succ r=>
    obtain⟨A,x,B,rfl,hx,hr⟩:=split_seen l r (by simpa using h)
    exact⟨y::A,x,B,rfl,hx,by rw[seenP_cons,hy,if_pos rfl,List.length_cons,hr]⟩
  | false=>
   rw[hy] at h
   obtain⟨A,x,B,rfl,hx,hr⟩:=split_seen l r (by simpa using h)
   exact⟨y::A,x,B,rfl,hx,by rw[seenP_cons,hy];simpa using hr⟩
/- the leaf that stands next behind the letter ahead of an offset; the places on both sides -/
def nxt (l:List Leaf) (off:Nat):Nat:=if off=0 then 0 else(Bm.nth l 0 ((off:Int)-1)).toNat+1
def leftP (l:List Leaf) (off:Nat):ByteArray:=if off=0 then⟨#[]⟩ else(seenP l).getD (off-1) ⟨#[]⟩
def rightP (l:List Leaf) (off:Nat):ByteArray:=if nxt l off<l.length then(l.getD (nxt l off) none0).1 else⟨#[]⟩
theorem emp_list:(⟨#[]⟩:ByteArray).toList=[]:=ByteArray.toList_mk []
theorem at_parts {A B:List Leaf} {x:Leaf} (hx:Bm.isS x=true):Bm.nth (A++x::B) 0 ((seenP A).length:Int)=(A.length:Int)∧(A++x::B).getD A.length none0=x∧(seenP (A++x::B)).getD (seenP A).length ⟨#[]⟩=x.1:=by
 refine⟨?_, ?_, ?_⟩
 ·rw[seenP_len,Bm.nth_at hx A 0];simp
 ·rw[List.getD_eq_getElem?_getD,List.getElem?_append_right (Nat.le_refl _)];simp
 ·rw[seenP_append,seenP_cons,hx,if_pos rfl,List.getD_eq_getElem?_getD,List.getElem?_append_right (Nat.le_refl _)];simp
structure CutOff (l:List Leaf) (off:Nat):Prop where
 le:nxt l off≤l.length
 len:(seenP (l.take (nxt l off))).length=off
 pos:0<off→0<nxt l off∧(l.getD (nxt l off-1) none0).1=leftP l off∧Bm.isS (l.getD (nxt l off-1) none0)=true
theorem cut_off {l:List Leaf} {off:Nat} (h:off≤(seenP l).length):CutOff l off:=by
 cases off with
 | zero=>exact⟨by simp[nxt],by simp[nxt,seenP],fun h=>absurd h (by omega)⟩
 | succ r=>
  obtain⟨A,x,B,rfl,hx,hr⟩:=split_seen l r (by omega)
  obtain⟨h1,h2,h3⟩:=at_parts (A:=A) (B:=B) hx
  rw[hr] at h1 h3
  have hn:nxt (A++x::B) (r+1)=A.length+1:=by
   unfold nxt
   rw[if_neg (by omega),show(((r+1:Nat):Int)-1)=(r:Int) by omega,h1];simp
  refine⟨by rw[hn];simp, ?_,fun _=> ?_⟩
  ·rw[hn,show A++x::B=(A++[x])++B by simp,List.take_left' (by simp),seenP_append,seenP_cons,hx,if_pos rfl]
   rw[List.length_append,hr];simp[seenP]
  ·rw[hn,Nat.add_sub_cancel,h2]
   refine⟨by omega, ?_,hx⟩
   unfold leftP
   rw[if_neg (by omega),Nat.add_sub_cancel,h3]
theorem chk_ne {p:List UInt8} (h:Pm.chk p=0):p≠[]:=by
 intro e;have:=(Bm.chk_pos h).1;rw[e] at this;simp at this
/- a place between the two sides is in no leaf, and would stand just there -/
/- places one behind the other -/
def stepP (a b:ByteArray) (who:Int):ByteArray:=⟨(Pm.betText a.toList b.toList who).toArray⟩
def nthP (a b:ByteArray) (who:Int):Nat→ByteArray
 | 0=>a
 | k+1=>stepP (nthP a b who k) b who
def rowE (a b:ByteArray) (who:Int):Nat→Int
 | 0=>0
 | k+1=>if rowE a b who k≠0 then rowE a b who k else Pm.betErr (nthP a b who k).toList b.toList who
theorem row_all {a b:ByteArray} {who:Int}:∀{n:Nat},rowE a b who n=0→∀k,k<n→Pm.betErr (nthP a b who k).toList b.toList who=0
 | 0,_,k,hk=>absurd hk (by omega)
 | n+1,h,k,hk=>by
  unfold rowE at h
  by_cases h0:rowE a b who n=0
  ·rw[if_neg (by simpa using h0)] at h
   rcases Nat.lt_or_eq_of_le (show k≤n by omega) with e | e
   ·exact row_all h0 k e
   ·rw[e];exact h
  ·rw[if_pos h0] at h;exact absurd h h0
theorem row_go {a b:ByteArray} {who:Int} {k:Nat} (h:rowE a b who k=0):rowE a b who (k+1)=Pm.betErr (nthP a b who k).toList b.toList who:=by
 show(if rowE a b who k≠0 then _ else _)=_
 rw[if_neg (by simpa using h)]
theorem row_stop {a b:ByteArray} {who:Int} {k:Nat} (h:rowE a b who k≠0):∀n,k≤n→rowE a b who n=rowE a b who k:=by
 intro n hn
 induction n with
 | zero=>rw[show k=0 by omega]
 | succ n ih=>
  rcases Nat.lt_or_eq_of_le hn with e | e
  ·have i:=ih (by omega)
   show(if rowE a b who n≠0 then _ else _)=_
   rw[if_pos (by rw[i];exact h)];exact i
  ·rw[e]
structure Stp (a b:ByteArray) (who:Int):Prop where
 chk:Pm.chk (stepP a b who).toList=0
 up:bytesLess a.toList (stepP a b who).toList=true
 down:b.toList=[]∨bytesLess (stepP a b who).toList b.toList=true
 whose:Pm.whoOf (stepP a b who).toList=who
theorem step_ok {a b:ByteArray} {who:Int} (h:Pm.betErr a.toList b.toList who=0):Stp a b who:=by
 obtain⟨t,m,e,_,_,hm,_⟩:=Pm.made_of h
 have el:(stepP a b who).toList=t++[UInt8.ofNat (97+who.toNat)]:=by unfold stepP;rw[toList_mk,e]
 refine⟨by rw[el];exact Pm.chk_made hm, ?_, ?_,by rw[el];exact Pm.whoOf_made t who hm.who1 hm.who8⟩
 ·have:=Pm.above_made hm [UInt8.ofNat (97+who.toNat)]
  rw[Bool.or_eq_false_iff,beq_eq_false_iff_ne] at this
  rw[el];exact Bm.less_total this.1 this.2
 ·cases hb:b.toList with
  | nil=>exact Or.inl rfl
  | cons c r=>
   right
   have:=Pm.below_made hm [UInt8.ofNat (97+who.toNat)] (by rw[hb];rfl)
   rw[el,←hb];exact this
theorem nth_chk {a b:ByteArray} {who:Int} {n:Nat} (h:rowE a b who n=0) {k:Nat} (hk:k<n):Stp (nthP a b who k) b who:=step_ok (row_all h k hk)
theorem nth_small {a b:ByteArray} {who:Int} {n:Nat} (h:rowE a b who n=0) (ha:a.size≤12):∀k,k≤n→(nthP a b who k).size≤12
 | 0,_=>ha
 | k+1,hk=>by
  have:=(Bm.chk_pos (nth_chk h (k:=k) (by omega)).chk).2
  rw[len_eq] at this;exact this
/- the ops of an insert -/
def okText (t:ByteArray):Bool:=t.toList.all fun c=>Bm.isL (c.toNat:Int)
def textE (t:ByteArray):Int:=if 200<t.size then 4 else if okText t=false then 1 else 0
def aroundE (l:List Leaf) (off:Int):Int:=if off<0∨((seenP l).length:Int)<off then 1 else 0
def insE (S:Dq) (who off:Int) (t:ByteArray):Int:=
 if Pm.isWho who=false then 1 else if textE t≠0 then textE t else if aroundE S.book off≠0 then 1 else rowE (leftP S.book off.toNat) (rightP S.book off.toNat) who t.size
def insO (a b:ByteArray) (who n:Int) (t:ByteArray) (k:Nat):Ox:=((who,n+1+k),1,nthP a b who (k+1),((t.toList.getD k 0).toNat:Int),[])
def insL (S:Dq) (who off:Int) (t:ByteArray):List Ox:=(List.range t.size).map fun k=>insO (leftP S.book off.toNat) (rightP S.book off.toNat) who (kn S who) t k
theorem insL_len (S:Dq) (who off:Int) (t:ByteArray):(insL S who off t).length=t.size:=by unfold insL;simp
structure InsOk (S:Dq) (who off:Int) (t:ByteArray):Prop where
 who1:1≤who
 who8:who≤8
 few:t.size≤200
 lets:okText t=true
 off0:0≤off
 off1:off≤(seenP S.book).length
 row:rowE (leftP S.book off.toNat) (rightP S.book off.toNat) who t.size=0
theorem textE_zero {t:ByteArray}:textE t=0↔t.size≤200∧okText t=true:=by
 unfold textE
 by_cases h:200<t.size
 ·rw[if_pos h];omega
 ·rw[if_neg h]
  cases h2:okText t<;>simp<;>omega
theorem aroundE_zero {l:List Leaf} {off:Int}:aroundE l off=0↔0≤off∧off≤(seenP l).length:=by
 unfold aroundE
 by_cases h:off<0∨((seenP l).length:Int)<off
 ·rw[if_pos h];omega
 ·rw[if_neg h];omega
theorem insE_zero {S:Dq} {who off:Int} {t:ByteArray}:insE S who off t=0↔InsOk S who off t:=by
 unfold insE
 cases hw:Pm.isWho who with
 | false=>
  rw[if_pos rfl]
  refine⟨fun h=>by omega,fun h=> ?_⟩
  have:Pm.isWho who=true:=by unfold Pm.isWho;simp[h.who1,h.who8]
  rw[hw] at this;cases this
 | true=>
  have hwho:1≤who∧who≤8:=by simpa[Pm.isWho] using hw
  rw[if_neg (by simp)]
  by_cases ht:textE t=0
  ·rw[if_neg (by simpa using ht)]
   by_cases ha:aroundE S.book off=0
   ·rw[if_neg (by simpa using ha)]
    obtain⟨t1,t2⟩:=textE_zero.1 ht
    obtain⟨a1,a2⟩:=aroundE_zero.1 ha
    exact⟨fun h=>⟨hwho.1,hwho.2,t1,t2,a1,a2,h⟩,fun h=>h.row⟩
   ·rw[if_pos ha]
    exact⟨fun h=>by omega,fun h=>absurd (aroundE_zero.2 ⟨h.off0,h.off1⟩) ha⟩
  ·rw[if_pos ht]
   exact⟨fun h=>absurd h ht,fun h=>absurd (textE_zero.2 ⟨h.few,h.lets⟩) ht⟩
theorem left_small {S:Dq} (hb:Bm.bookE S.book=0) (off:Nat):(leftP S.book off).size≤12∧(rightP S.book off).size≤12∧(off≤(seenP S.book).length→off≠0→Pm.chk (leftP S.book off).toList=0)∧((rightP S.book off).toList=[]∨Pm.chk (rightP S.book off).toList=0):=by
 obtain⟨_,hlf,hr⟩:=Bm.bookE_zero.1 hb
 have hx:∀x ∈ S.book,x.1.size≤12∧Pm.chk x.1.toList=0:=fun x hx=>by
  have h1:=(Bm.leafE_zero.1 (hlf x hx)).1
  have:=(Bm.chk_pos h1).2
  rw[len_eq] at this;exact⟨this,h1⟩
 have hleft:off≠0→off-1<(seenP S.book).length→(leftP S.book off).size≤12∧Pm.chk (leftP S.book off).toList=0:=fun h0 h1=>by
  unfold leftP
  rw[if_neg h0,List.getD_eq_getElem?_getD,List.getElem?_eq_getElem h1]
  obtain⟨x,hm,_,e⟩:=seenP_mem (List.getElem_mem h1)
  rw[Option.getD_some,←e];exact hx x hm
 refine⟨?_, ?_,fun h h0=>(hleft h0 (by omega)).2, ?_⟩
 ·by_cases h0:off=0
  ·unfold leftP;rw[if_pos h0];exact Nat.zero_le _
  ·by_cases h1:off-1<(seenP S.book).length
   ·exact(hleft h0 h1).1
   ·unfold leftP
    rw[if_neg h0,List.getD_eq_getElem?_getD,List.getElem?_eq_none (by omega)];exact Nat.zero_le _
 ·unfold rightP
  by_cases h:nxt S.book off<S.book.length
  ·rw[if_pos h];exact(hx _ (Bm.getD_mem h)).1
  ·rw[if_neg h];exact Nat.zero_le _
 ·unfold rightP
  by_cases h:nxt S.book off<S.book.length
  ·rw[if_pos h];exact Or.inr (hx _ (Bm.getD_mem h)).2
  ·rw[if_neg h];exact Or.inl emp_list
/- the ops of a delete, a split, a fuse -/
def delE (S:Dq) (who a b:Int):Int:=if Pm.isWho who=false then 1 else if a<0∨b<a∨((seenP S.book).length:Int)<b then 1 else 0
def delO (l:List ByteArray) (who n:Int) (k:Nat):Ox:=((who,n+1+k),2,l.getD k ⟨#[]⟩,0,[])
def delP (S:Dq) (a b:Int):List ByteArray:=((seenP S.book).take b.toNat).drop a.toNat
def delL (S:Dq) (who a b:Int):List Ox:=(List.range (b-a).toNat).map fun k=>delO (delP S a b) who (kn S who) k
/- ops that are done one behind the other, up to the first error -/
def runE:Dq→List Ox→Int
 | _,[]=>0
 | S,o::r=>if apE S o≠0 then apE S o else runE (apS S o) r
def runS:Dq→List Ox→Dq
 | S,[]=>S
 | S,o::r=>if apE S o≠0 then S else runS (apS S o) r
theorem run_append:∀(L M:List Ox) (S:Dq),runE S (L++M)=(if runE S L≠0 then runE S L else runE (runS S L) M)∧runS S (L++M)=(if runE S L≠0 then runS S L else runS (runS S L) M)
 | [],M,S=>by simp[runE,runS]
 | o::L,M,S=>by
  by_cases h:apE S o=0
  ·have:=run_append L M (apS S o)
   simp only[List.cons_append,runE,runS,if_neg (show¬apE S o≠0 by simpa using h)]
   exact this
  ·simp[runE,runS,h]
theorem take_op {l:List Ox} {k:Nat} (hk:k<l.length):l.take (k+1)=l.take k++[l.getD k oz]:=by
 rw[List.take_add_one,List.getD_eq_getElem?_getD,List.getElem?_eq_getElem hk];rfl
theorem run_go {L:List Ox} {S:Dq} {k:Nat} (hk:k<L.length) (h:runE S (L.take k)=0):runE S (L.take (k+1))=apE (runS S (L.take k)) (L.getD k oz)∧(apE (runS S (L.take k)) (L.getD k oz)=0→runS S (L.take (k+1))=apS (runS S (L.take k)) (L.getD k oz)):=by
 rw[take_op hk]
 obtain⟨h1,h2⟩:=run_append (L.take k) [L.getD k oz] S
 rw[h1,h2]
 simp only[if_neg (show¬runE S (L.take k)≠0 by simpa using h),runE,runS]
 refine⟨?_,fun h9=>by rw[if_neg (by simpa using h9)]⟩
 by_cases h9:apE (runS S (L.take k)) (L.getD k oz)=0
 ·rw[if_neg (by simpa using h9),h9]
 ·rw[if_pos h9]
theorem run_stop {L:List Ox} {S:Dq} {k:Nat} (hk:k<L.length) (h:runE S (L.take k)=0) (h9:apE (runS S (L.take k)) (L.getD k oz)≠0):runE S L=apE (runS S (L.take k)) (L.getD k oz)∧runS S L=runS S (L.take k):=by
 have e:L=L.take k++(L.getD k oz::L.drop (k+1)):=by
  rw[List.getD_eq_getElem?_getD,List.getElem?_eq_getElem hk]
  simp
 obtain⟨h1,h2⟩:=run_append (L.take k) (L.getD k oz::L.drop (k+1)) S
 rw[←e] at h1 h2
 rw[h1,h2]
 simp only[if_neg (show¬runE S (L.take k)≠0 by simpa using h),runE,runS,if_pos h9]
 exact⟨trivial,trivial⟩
theorem stay_wrong {S:Dq} {o:Ox} (h:apE S o≠0):apS S o=S:=by
 unfold apS
 cases hn:isNew S o with
 | false=>rfl
 | true=>
  obtain⟨h0,hk,hf,hd⟩:=isNew_iff.1 hn
  exfalso;apply h
  unfold apE
  rw[if_neg (by simpa using h0),if_neg (by omega),if_neg (by omega),if_neg (by omega)]
  exact hd
theorem run_inv:∀(L:List Ox) {S:Dq},Inv S→Inv (runS S L)
 | [],S,I=>I
 | o::L,S,I=>by
  by_cases h:apE S o=0
  ·simp only[runS,if_neg (show¬apE S o≠0 by simpa using h)]
   exact run_inv L (inv_ap I)
  ·simp only[runS,if_pos h];exact I
/- ops of one author, with the next dots -/
theorem insL_mem {S:Dq} {who off:Int} {t:ByteArray} {o:Ox} (h:o ∈ insL S who off t):∃k,k<t.size∧o=insO (leftP S.book off.toNat) (rightP S.book off.toNat) who (kn S who) t k:=by
 unfold insL at h
 obtain⟨k,hk,e⟩:=List.mem_map.1 h
 exact⟨k,List.mem_range.1 hk,e.symm⟩
/- the places of an insert are in no leaf of the book -/
theorem small_ops {S:Dq} {who off:Int} {t:ByteArray} (hb:Bm.bookE S.book=0) (h:InsOk S who off t):∀x ∈ insL S who off t,x.2.2.1.size≤12:=fun x hx=>by
 obtain⟨k,hk,rfl⟩:=insL_mem hx
 exact nth_small h.row (left_small hb _).1 (k+1) (by omega)
end Um
end Go.Proofs.YtlmdchpbpgcfmaaGreatDoor
/- The plain mathematics of edits, further on: the book behind an insert. No program is named here. -/
namespace Go.Proofs.YtlmdchpbpgcfmaaGreatDoor
namespace Um
open Cm Om Hm
open Op (bytesLess)
open Bm (Leaf none0)
theorem let_at {t:ByteArray} (h:okText t=true) {k:Nat} (hk:k<t.size):Bm.isL ((t.toList.getD k 0).toNat:Int)=true:=by
 unfold okText at h
 rw[List.all_eq_true] at h
 have hk2:k<t.toList.length:=by rw[len_eq];exact hk
 rw[List.getD_eq_getElem?_getD,List.getElem?_eq_getElem hk2]
 exact h _ (List.getElem_mem hk2)
theorem kn_le {S:Dq} (I:Inv S) {u:Int} (h1:1≤u) (h8:u≤8):0≤kn S u∧kn S u≤S.ops.length:=by
 have h:=I.kno u h1 h8
 have:=List.length_filter_le (fun o:Ox=>decide (o.1.1=u)) S.ops
 omega
/- what is seen behind an insert -/
end Um
end Go.Proofs.YtlmdchpbpgcfmaaGreatDoor
