import Derived.Test.YtlmdchpbpgcfmaaGreatDoorJ1
set_option maxRecDepth 100000
set_option maxHeartbeats 8000000
/- More plain mathematics of places. No program is named here. -/
namespace Go.Proofs.YtlmdchpbpgcfmaaGreatDoor
namespace Pm
theorem stem_may {t a b:List UInt8} (h:stem t a b=true):may t a b=true:=by
 unfold stem at h;unfold may
 simp only[Bool.and_eq_true] at h
 rw[h.1.1];rfl
theorem letters_length:letters.length=26:=by simp[letters]
theorem ext_length (h:List UInt8):(ext h).length=26:=by simp[ext,letters]
theorem ext_getElem? (h:List UInt8) (j:Nat) (hj:j<26):(ext h)[j]? =some (h++[UInt8.ofNat (97+j)]):=by
 simp[ext,letters,hj]
theorem cand_start (o:List (List UInt8)):cand o 0 0=[]:=by simp[cand,exts]
theorem cand_step (o:List (List UInt8)) (k j:Nat) (hj:j<26):cand o k (j+1)=cand o k j++[o.getD k []++[UInt8.ofNat (97+j)]]:=by
 unfold cand
 rw[List.take_add_one,ext_getElem? _ _ hj,List.append_assoc];rfl
theorem cand_row (o:List (List UInt8)) (k:Nat) (hk:k<o.length):cand o k 26=cand o (k+1) 0:=by
 unfold cand exts
 have e1:(ext (o.getD k [])).take 26=ext (o.getD k []):=List.take_of_length_le (by rw[ext_length];exact Nat.le_refl _)
 have e2:o.take (k+1)=o.take k++[o.getD k []]:=by
  rw[List.take_add_one,List.getD_eq_getElem?_getD,List.getElem?_eq_getElem hk];rfl
 rw[e1,e2,List.flatMap_append]
 simp
theorem cand_end (o:List (List UInt8)):cand o o.length 0=exts o:=by
 unfold cand;simp
theorem cand_le (o:List (List UInt8)) (k j:Nat):(cand o k j).length≤26*k+j:=by
 unfold cand exts
 rw[List.length_append,List.length_take]
 have h:∀l:List (List UInt8),(l.flatMap ext).length=26*l.length:=by
  intro l
  induction l with
  | nil=>rfl
  | cons x r ih=>rw[List.flatMap_cons,List.length_append,ih,ext_length,List.length_cons];omega
 rw[h,List.length_take];omega
end Pm
end Go.Proofs.YtlmdchpbpgcfmaaGreatDoor
/- The search for the shortest stems, by lists. No program is named here. -/
namespace Go.Proofs.YtlmdchpbpgcfmaaGreatDoor
namespace Pm
/- round by round, at most n of them: the first stems -/
def search (a b:List UInt8):Nat→List (List UInt8)→Option (List (List UInt8))
 | 0,_=>none
 | n+1,o=>if(stems o a b).isEmpty then search a b n (longer o a b) else some (stems o a b)
theorem search_hit {a b:List UInt8} {n:Nat} {o:List (List UInt8)} (h:stems o a b≠[]):search a b (n+1) o=some (stems o a b):=by
 rw[search];simp[h]
theorem search_miss {a b:List UInt8} {n:Nat} {o:List (List UInt8)} (h:stems o a b=[]):search a b (n+1) o=search a b n (longer o a b):=by
 rw[search];simp[h]
theorem letters_one (x:UInt8):(letters.filter (· ==x)).length≤1:=by
 have:∀n:Fin 256,(letters.filter (· ==UInt8.ofNat n)).length≤1:=by decide +kernel
 have h2:=this ⟨x.toNat,UInt8.toNat_lt x⟩
 simpa using h2
theorem mem_letters {c:UInt8} (h:c ∈ letters):isLet c=true:=by
 simp only[letters,List.mem_map,List.mem_range] at h
 obtain⟨i,hi,rfl⟩:=h
 simp[isLet];omega
theorem prefix_next {h a:List UInt8} {c:UInt8} (hp:(h++[c]).isPrefixOf a=true):a[h.length]? =some c:=by
 obtain⟨r,hr⟩:=List.isPrefixOf_iff_prefix.1 hp
 rw[←hr];simp
theorem filter3 (l:List UInt8) (p:UInt8→Bool) (x y z:UInt8) (h:∀c ∈ l,p c=true→c=x∨c=y∨c=z)
  (h1:∀u,(l.filter (· ==u)).length≤1):(l.filter p).length≤3:=by
 have key:∀l:List UInt8,(∀c ∈ l,p c=true→c=x∨c=y∨c=z)→(l.filter p).length≤(l.filter (· ==x)).length+(l.filter (· ==y)).length+(l.filter (· ==z)).length:=by
  intro l
  induction l with
  | nil=>intro _;simp
  | cons c r ih=>
   intro hc
   have hr:=ih (fun d hd=>hc d (List.mem_cons_of_mem _ hd))
   cases hp:p c with
   | false=>
    rw[List.filter_cons_of_neg (by simp[hp])]
    have e1:(r.filter (· ==x)).length≤((c::r).filter (· ==x)).length:=by simp only[List.filter_cons];split<;>simp
    have e2:(r.filter (· ==y)).length≤((c::r).filter (· ==y)).length:=by simp only[List.filter_cons];split<;>simp
    have e3:(r.filter (· ==z)).length≤((c::r).filter (· ==z)).length:=by simp only[List.filter_cons];split<;>simp
    omega
   | true=>
    rw[List.filter_cons_of_pos (by simp[hp]),List.length_cons]
    have e1:(r.filter (· ==x)).length≤((c::r).filter (· ==x)).length:=by simp only[List.filter_cons];split<;>simp
    have e2:(r.filter (· ==y)).length≤((c::r).filter (· ==y)).length:=by simp only[List.filter_cons];split<;>simp
    have e3:(r.filter (· ==z)).length≤((c::r).filter (· ==z)).length:=by simp only[List.filter_cons];split<;>simp
    rcases hc c List.mem_cons_self hp with rfl | rfl | rfl
    ·have:((c::r).filter (· ==c)).length=(r.filter (· ==c)).length+1:=by simp
     omega
    ·have:((c::r).filter (· ==c)).length=(r.filter (· ==c)).length+1:=by simp
     omega
    ·have:((c::r).filter (· ==c)).length=(r.filter (· ==c)).length+1:=by simp
     omega
 have:=key l h
 have a1:=h1 x
 have a2:=h1 y
 have a3:=h1 z
 omega
/- where no text with one letter more is a stem, at most three of them may grow -/
theorem may_three (h a b:List UInt8) (hno:∀t ∈ ext h,stem t a b=false):((ext h).filter fun t=>may t a b).length≤3:=by
 unfold ext at hno ⊢
 rw[List.filter_map,List.length_map]
 refine filter3 _ _ 97 (a[h.length]?.getD 0) (b[h.length]?.getD 0) ?_ letters_one
 intro c hc hp
 have hs:=hno (h++[c]) (List.mem_map.2 ⟨c,hc,rfl⟩)
 simp only[Function.comp,may,Bool.or_eq_true] at hp
 rcases hp with hp | hp
 ·simp only[stem,hp,Bool.true_and,Bool.and_eq_false_iff] at hs
  rcases hs with hs | hs
  ·left
   simpa using hs
  ·right;right
   have:(h++[c]).isPrefixOf b=true:=by simpa using hs
   rw[prefix_next this];rfl
 ·right;left
  rw[prefix_next hp];rfl
theorem longer_le (o:List (List UInt8)) (a b:List UInt8) (hno:stems o a b=[]):(longer o a b).length≤3*o.length:=by
 have hall:∀t ∈ exts o,stem t a b=false:=by
  intro t ht
  have h1:=List.filter_eq_nil_iff.1 hno t ht
  simpa using h1
 unfold longer
 clear hno
 induction o with
 | nil=>simp[exts]
 | cons h r ih=>
  have e:exts (h::r)=ext h++exts r:=by simp[exts]
  rw[e] at hall ⊢
  rw[List.filter_append,List.length_append,List.length_cons]
  have h1:=may_three h a b (fun t ht=>hall t (List.mem_append_left _ ht))
  have h2:=ih (fun t ht=>hall t (List.mem_append_right _ ht))
  omega
theorem mem_exts {o:List (List UInt8)} {t:List UInt8} (h:t ∈ exts o):∃s ∈ o,∃c ∈ letters,t=s++[c]:=by
 obtain⟨s,hs,ht⟩:=List.mem_flatMap.1 h
 obtain⟨c,hc,rfl⟩:=List.mem_map.1 ht
 exact⟨s,hs,c,hc,rfl⟩
/- all texts of one length, of letters -/
def Flat (k:Nat) (o:List (List UInt8)):Prop:=∀t ∈ o,t.length=k∧t.all isLet=true
theorem Flat.exts {k:Nat} {o:List (List UInt8)} (h:Flat k o):Flat (k+1) (exts o):=by
 intro t ht
 obtain⟨s,hs,c,hc,rfl⟩:=mem_exts ht
 obtain⟨h1,h2⟩:=h s hs
 exact⟨by simp[h1],by rw[List.all_append,h2];simp[mem_letters hc]⟩
theorem Flat.longer {k:Nat} {o:List (List UInt8)} {a b:List UInt8} (h:Flat k o):Flat (k+1) (longer o a b):=
 fun t ht=>h.exts t (List.mem_filter.1 ht).1
theorem Flat.stems {k:Nat} {o:List (List UInt8)} {a b:List UInt8} (h:Flat k o):Flat (k+1) (stems o a b):=
 fun t ht=>h.exts t (List.mem_filter.1 ht).1
theorem Flat.start:Flat 0 [[]]:=by intro t ht;simp at ht;subst ht;simp
/- what is found: stems, all of one length from 1 on, of letters -/
theorem search_found {a b:List UInt8}:∀(n k:Nat) (o st:List (List UInt8)),Flat k o→search a b n o=some st→
  st≠[]∧∃m,k<m∧m≤k+n∧Flat m st∧∀t ∈ st,stem t a b=true
 | 0,_,_,_,_,h=>by simp[search] at h
 | n+1,k,o,st,hf,h=>by
  by_cases hs:Pm.stems o a b=[]
  ·rw[search_miss hs] at h
   obtain⟨h1,m,h2,h3,h4⟩:=search_found n (k+1) _ st hf.longer h
   exact⟨h1,m,by omega,by omega,h4⟩
  ·rw[search_hit hs] at h
   simp only[Option.some.injEq] at h
   subst h
   exact⟨hs,k+1,by omega,by omega,hf.stems,fun t ht=>(List.mem_filter.1 ht).2⟩
end Pm
end Go.Proofs.YtlmdchpbpgcfmaaGreatDoor
/- The answers of Room and Between, by lists. No program is named here. -/
namespace Go.Proofs.YtlmdchpbpgcfmaaGreatDoor
namespace Pm
def pick (st:List (List UInt8)):List UInt8:=st.getD ((st.length-1)/4) []
def roomErr (a b:List UInt8):Int:=
 if sides a b≠0 then sides a b else if(search a b 11 [[]]).isNone then 8 else 0
def roomLen (a b:List UInt8):Int:=
 if sides a b≠0 then 0 else match search a b 11 [[]] with
  | none=>0
  | some st=>((st.getD 0 []).length:Int)+1
def betErr (a b:List UInt8) (who:Int):Int:=if isWho who then roomErr a b else 1
def betText (a b:List UInt8) (who:Int):List UInt8:=
 if isWho who then(if sides a b≠0 then[] else match search a b 11 [[]] with
  | none=>[]
  | some st=>pick st++[UInt8.ofNat (97+who.toNat)]) else[]
end Pm
end Go.Proofs.YtlmdchpbpgcfmaaGreatDoor
/- What is true of the place between, by lists. No program is named here. -/
namespace Go.Proofs.YtlmdchpbpgcfmaaGreatDoor
namespace Pm
open Op (bytesLess)
theorem less_irrefl:∀a:List UInt8,bytesLess a a=false
 | []=>rfl
 | x::r=>by simp[bytesLess,less_irrefl r]
theorem less_asymm:∀{a b:List UInt8},bytesLess a b=true→bytesLess b a=false
 | _,[],h=>by simp[bytesLess] at h
 | [],_::_,_=>rfl
 | x::r,y::s,h=>by
  simp only[bytesLess,Bool.or_eq_true,decide_eq_true_eq,Bool.and_eq_true,beq_iff_eq] at h
  simp only[bytesLess,Bool.or_eq_false_iff,decide_eq_false_iff_not,Bool.and_eq_false_iff]
  rcases h with h | ⟨rfl,h⟩
  ·have h2:x.toNat<y.toNat:=UInt8.lt_iff_toNat_lt.1 h
   refine⟨fun h3=> ?_,Or.inl ?_⟩
   ·have:y.toNat<x.toNat:=UInt8.lt_iff_toNat_lt.1 h3
    omega
   ·rw[beq_eq_false_iff_ne]
    intro e;subst e;omega
  ·exact⟨fun h3=>by have:x.toNat<x.toNat:=UInt8.lt_iff_toNat_lt.1 h3;omega,Or.inr (less_asymm h)⟩
theorem less_total:∀{a b:List UInt8},bytesLess a b=false→a≠b→bytesLess b a=true
 | [],[],_,h=>absurd rfl h
 | _::_,[],_,_=>rfl
 | [],_::_,h,_=>by simp[bytesLess] at h
 | x::r,y::s,h,hne=>by
  simp only[bytesLess,Bool.or_eq_false_iff,decide_eq_false_iff_not,Bool.and_eq_false_iff] at h
  simp only[bytesLess,Bool.or_eq_true,decide_eq_true_eq,Bool.and_eq_true,beq_iff_eq]
  by_cases e:x=y
  ·subst e
   right
   refine⟨rfl,less_total ?_ ?_⟩
   ·rcases h.2 with h2 | h2
    ·simp at h2
    ·exact h2
   ·intro e2;exact hne (by rw[e2])
  ·left
   rw[UInt8.lt_iff_toNat_lt]
   have h1:¬x.toNat<y.toNat:=fun h3=>h.1 (UInt8.lt_iff_toNat_lt.2 h3)
   have h2:x.toNat≠y.toNat:=fun h3=>e (UInt8.toNat_inj.1 h3)
   omega
theorem less_append {t:List UInt8} (r:List UInt8):∀{a:List UInt8},bytesLess a t=true→bytesLess a (t++r)=true:=by
 induction t with
 | nil=>intro a h;cases a<;>simp[bytesLess] at h
 | cons y s ih=>
  intro a h
  cases a with
  | nil=>rfl
  | cons x q=>
   simp only[List.cons_append,bytesLess,Bool.or_eq_true,decide_eq_true_eq,Bool.and_eq_true,beq_iff_eq] at h ⊢
   rcases h with h | ⟨h1,h2⟩
   ·exact Or.inl h
   ·exact Or.inr ⟨h1,ih h2⟩
theorem less_apart (r:List UInt8):∀{t b:List UInt8},bytesLess t b=true→t.isPrefixOf b=false→bytesLess (t++r) b=true
 | [],b,_,h=>by simp at h
 | _::_,[],h,_=>by simp[bytesLess] at h
 | x::t,y::b,h,hp=>by
  simp only[List.cons_append,bytesLess,Bool.or_eq_true,decide_eq_true_eq,Bool.and_eq_true,beq_iff_eq] at h ⊢
  rcases h with h | ⟨rfl,h2⟩
  ·exact Or.inl h
  ·refine Or.inr ⟨rfl,less_apart r h2 ?_⟩
   simpa[List.isPrefixOf] using hp
/- what stands where there is a place between -/
structure Made (a b:List UInt8) (who:Int) (t:List UInt8) (m:Nat):Prop where
 who1:1≤who
 who8:who≤8
 lens:t.length=m
 pos:0<m
 m11:m≤11
 lets:t.all isLet=true
 stem:stem t a b=true
theorem made_of {a b:List UInt8} {who:Int} (h:betErr a b who=0):∃t,∃m:Nat,betText a b who=t++[UInt8.ofNat (97+who.toNat)]∧roomErr a b=0∧roomLen a b=(m:Int)+1∧Made a b who t m∧
  ∀o,betErr a b o=0→betText a b o=t++[UInt8.ofNat (97+o.toNat)]∧1≤o∧o≤8:=by
 cases hw:isWho who with
 | false=>simp[betErr,hw] at h
 | true=>
  have hr:roomErr a b=0:=by simpa[betErr,hw] using h
  have hwho:1≤who∧who≤8:=by simpa[isWho] using hw
  by_cases hs:sides a b=0
  ·cases hf:search a b 11 [[]] with
   | none=>simp[roomErr,hs,hf] at hr
   | some st=>
    obtain⟨hne,m,hm1,hm2,hfl,hst⟩:=search_found 11 0 [[]] st Flat.start hf
    have h0:0<st.length:=by cases st with
     | nil=>exact absurd rfl hne
     | cons _ _=>simp
    have hq:(st.length-1)/4<st.length:=by omega
    have e:pick st=st[(st.length-1)/4]:=by unfold pick;rw[List.getD_eq_getElem?_getD,List.getElem?_eq_getElem hq];rfl
    have e0:st.getD 0 []=st[0]:=by rw[List.getD_eq_getElem?_getD,List.getElem?_eq_getElem h0];rfl
    have hmem:pick st ∈ st:=by rw[e];exact List.getElem_mem hq
    refine⟨pick st,m,by simp[betText,hw,hs,hf],hr, ?_,⟨hwho.1,hwho.2,(hfl _ hmem).1,by omega,by omega,(hfl _ hmem).2,hst _ hmem⟩, ?_⟩
    ·simp only[roomLen,hs,hf]
     have:=(hfl _ (List.getElem_mem h0)).1
     rw[e0,this];simp
    ·intro o ho
     cases hwo:isWho o with
     | false=>simp[betErr,hwo] at ho
     | true=>
      have hwo2:1≤o∧o≤8:=by simpa[isWho] using hwo
      exact⟨by simp[betText,hwo,hs,hf],hwo2⟩
  ·simp[roomErr,hs] at hr
theorem whoOf_made (t:List UInt8) (who:Int) (h1:1≤who) (h8:who≤8):whoOf (t++[UInt8.ofNat (97+who.toNat)])=who:=by
 unfold whoOf
 have:(UInt8.ofNat (97+who.toNat)).toNat=97+who.toNat:=by simp;omega
 simp only[List.getLast?_append,List.getLast?_singleton,Option.some_or,Option.getD_some,this]
 omega
theorem chk_made {a b:List UInt8} {who:Int} {t:List UInt8} {m:Nat} (h:Made a b who t m):chk (t++[UInt8.ofNat (97+who.toNat)])=0:=by
 obtain⟨h1,h8,hl,h0,h11,hlet,hst⟩:=h
 have e1:(t++[UInt8.ofNat (97+who.toNat)]).length=m+1:=by simp[hl]
 have e2:(t++[UInt8.ofNat (97+who.toNat)]).all isLet=true:=by
  rw[List.all_append,hlet];simp[isLet];omega
 have e3:((t++[UInt8.ofNat (97+who.toNat)]).dropLast.getLast? ==some 97)=false:=by
  have:(t++[UInt8.ofNat (97+who.toNat)]).dropLast=t:=by simp
  rw[this]
  simp only[stem,Bool.and_eq_true] at hst
  simpa using hst.1.2
 have e4:isWho (whoOf (t++[UInt8.ofNat (97+who.toNat)]))=true:=by
  rw[whoOf_made t who h1 h8];simp[isWho,h1,h8]
 unfold chk
 rw[e1,e2,e3,e4,if_neg (by omega),if_neg (by omega)]
 rfl
theorem above_made {a b:List UInt8} {who:Int} {t:List UInt8} {m:Nat} (h:Made a b who t m) (r:List UInt8):(bytesLess (t++r) a||(t++r)==a)=false:=by
 have hst:=h.stem
 simp only[stem,inside,Bool.and_eq_true] at hst
 have h1:=hst.1.1.1
 simp only[Bool.not_eq_true',Bool.or_eq_false_iff,beq_eq_false_iff_ne] at h1
 have h2:=less_append r (less_total h1.1 h1.2)
 rw[less_asymm h2,Bool.false_or,beq_eq_false_iff_ne]
 intro e
 rw[e,less_irrefl] at h2
 cases h2
theorem below_made {a b:List UInt8} {who:Int} {t:List UInt8} {m:Nat} (h:Made a b who t m) (r:List UInt8) (hb:b.isEmpty=false):bytesLess (t++r) b=true:=by
 have hst:=h.stem
 simp only[stem,inside,Bool.and_eq_true] at hst
 have h1:=hst.1.1.2
 rw[hb,Bool.false_or] at h1
 exact less_apart r h1 (by simpa using hst.2)
end Pm
end Go.Proofs.YtlmdchpbpgcfmaaGreatDoor
/- The search finds all stems of the least length, in order. No program is named here. -/
namespace Go.Proofs.YtlmdchpbpgcfmaaGreatDoor
namespace Pm
open Op (bytesLess)
theorem less_of_append (r:List UInt8):∀{s b:List UInt8},bytesLess (s++r) b=true→bytesLess s b=true
 | _,[],h=>by simp[bytesLess] at h
 | [],_::_,_=>rfl
 | x::s,y::b,h=>by
  simp only[List.cons_append,bytesLess,Bool.or_eq_true,decide_eq_true_eq,Bool.and_eq_true,beq_iff_eq] at h ⊢
  rcases h with h | ⟨h1,h2⟩
  ·exact Or.inl h
  ·exact Or.inr ⟨h1,less_of_append r h2⟩
/- what is inside has only beginnings that may grow -/
theorem may_begin {s r a b:List UInt8} (h:inside (s++r) a b=true):may s a b=true:=by
 unfold may
 cases hp:s.isPrefixOf a with
 | true=>simp
 | false=>
  rw[Bool.or_false]
  simp only[inside,Bool.and_eq_true,Bool.not_eq_true',Bool.or_eq_false_iff,Bool.or_eq_true] at h ⊢
  obtain⟨⟨h1,h2⟩,h3⟩:=h
  refine⟨⟨?_, ?_⟩, ?_⟩
  ·cases hl:bytesLess s a with
   | false=>rfl
   | true=>rw[less_apart r hl hp] at h1;cases h1
  ·rw[beq_eq_false_iff_ne]
   intro e
   rw[e] at hp
   have:a.isPrefixOf a=true:=List.isPrefixOf_iff_prefix.2 (List.prefix_refl a)
   rw[this] at hp;cases hp
  ·rcases h3 with h3 | h3
   ·exact Or.inl h3
   ·exact Or.inr (less_of_append r h3)
theorem may_shorter {s r a b:List UInt8} (h:may (s++r) a b=true):may s a b=true:=by
 simp only[may,Bool.or_eq_true] at h
 rcases h with h | h
 ·exact may_begin h
 ·simp only[may,Bool.or_eq_true]
  right
  rw[List.isPrefixOf_iff_prefix] at h ⊢
  exact List.IsPrefix.trans (List.prefix_append s r) h
def texts:Nat→List (List UInt8)
 | 0=>[[]]
 | k+1=>exts (texts k)
def lev (a b:List UInt8) (m:Nat):List (List UInt8):=(texts m).filter fun t=>stem t a b
theorem exts_filter (p q:List UInt8→Bool) (h:∀s c,q (s++[c])=true→p s=true):∀l:List (List UInt8),(exts (l.filter p)).filter q=(exts l).filter q
 | []=>rfl
 | s::l=>by
  have e:∀x y,exts (x::y)=ext x++exts y:=fun x y=>by simp[exts]
  rw[e,List.filter_append]
  cases hp:p s with
  | true=>rw[List.filter_cons_of_pos hp,e,List.filter_append,exts_filter p q h l]
  | false=>
   rw[List.filter_cons_of_neg (by simp[hp]),exts_filter p q h l]
   have:(ext s).filter q=[]:=by
    rw[List.filter_eq_nil_iff]
    intro t ht
    obtain⟨c,_,rfl⟩:=List.mem_map.1 ht
    intro hq
    rw[h s c hq] at hp;cases hp
   rw[this,List.nil_append]
theorem stems_texts (a b:List UInt8) (k:Nat):stems ((texts k).filter fun t=>may t a b) a b=lev a b (k+1):=by
 unfold stems lev
 exact exts_filter (fun t=>may t a b) (fun t=>stem t a b) (fun s c h=>may_shorter (stem_may h)) (texts k)
theorem longer_texts (a b:List UInt8) (k:Nat):longer ((texts k).filter fun t=>may t a b) a b=(texts (k+1)).filter fun t=>may t a b:=by
 unfold longer
 exact exts_filter (fun t=>may t a b) (fun t=>may t a b) (fun s c h=>may_shorter h) (texts k)
theorem texts_start (a b:List UInt8):[[]]=(texts 0).filter fun t=>may t a b:=by
 have:may [] a b=true:=by simp[may]
 simp[texts,this]
/- the search is: the first length at which there are stems -/
theorem search_lev (a b:List UInt8):∀(n k:Nat),
  (∃m,k<m∧m≤k+n∧lev a b m≠[]∧(∀j,k<j→j<m→lev a b j=[])∧search a b n ((texts k).filter fun t=>may t a b)=some (lev a b m))∨
  ((∀j,k<j→j≤k+n→lev a b j=[])∧search a b n ((texts k).filter fun t=>may t a b)=none)
 | 0,k=>Or.inr ⟨fun j h1 h2=>by omega,rfl⟩
 | n+1,k=>by
  by_cases h:lev a b (k+1)=[]
  ·have hs:stems ((texts k).filter fun t=>may t a b) a b=[]:=by rw[stems_texts,h]
   rw[search_miss hs,longer_texts]
   rcases search_lev a b n (k+1) with⟨m,h1,h2,h3,h4,h5⟩ | ⟨h1,h2⟩
   ·refine Or.inl ⟨m,by omega,by omega,h3,fun j j1 j2=> ?_,h5⟩
    rcases Nat.lt_or_ge (k+1) j with hj | hj
    ·exact h4 j hj j2
    ·rw[show j=k+1 from by omega];exact h
   ·refine Or.inr ⟨fun j j1 j2=> ?_,h2⟩
    rcases Nat.lt_or_ge (k+1) j with hj | hj
    ·exact h1 j hj (by omega)
    ·rw[show j=k+1 from by omega];exact h
  ·have hs:stems ((texts k).filter fun t=>may t a b) a b≠[]:=by rw[stems_texts];exact h
   rw[search_hit hs,stems_texts]
   exact Or.inl ⟨k+1,by omega,by omega,h,fun j j1 j2=>by omega,rfl⟩
theorem search_first (a b:List UInt8):
  (∃m,0<m∧m≤11∧lev a b m≠[]∧(∀j,0<j→j<m→lev a b j=[])∧search a b 11 [[]]=some (lev a b m))∨
  ((∀j,0<j→j≤11→lev a b j=[])∧search a b 11 [[]]=none):=by
 have h:=search_lev a b 11 0
 rw[←texts_start] at h
 simpa using h
/- a stem of so many letters: what is found is no longer -/
end Pm
end Go.Proofs.YtlmdchpbpgcfmaaGreatDoor
/- Behind a place, and ahead of it, there is room that is no longer than the place. No program is named here. -/
namespace Go.Proofs.YtlmdchpbpgcfmaaGreatDoor
namespace Pm
open Op (bytesLess)
/- a place: a text, a letter that is not a, the author's letter -/
theorem less_same (s:List UInt8) (u v:List UInt8):bytesLess (s++u) (s++v)=bytesLess u v:=by
 induction s with
 | nil=>rfl
 | cons x s ih=>
  simp only[List.cons_append,bytesLess,ih]
  have:¬x<x:=by intro h;have:x.toNat<x.toNat:=UInt8.lt_iff_toNat_lt.1 h;omega
  simp[this]
/- one step of a row: nothing is wrong but that there is no room; what is made is at most one longer -/
end Pm
end Go.Proofs.YtlmdchpbpgcfmaaGreatDoor
