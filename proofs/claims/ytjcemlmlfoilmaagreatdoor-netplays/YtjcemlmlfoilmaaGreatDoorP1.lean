import Derived.Test.YtjcemlmlfoilmaaGreatDoorJ1
set_option maxRecDepth 100000
set_option maxHeartbeats 8000000
namespace Go.Proofs.YtjcemlmlfoilmaaGreatDoor
namespace Pm
theorem aBq{t a b:List UInt8}(h:stem t a b=true):may t a b=true:=by
 unfold stem at h;unfold may;simp only[qX] at h;rw[h.1.1];rfl
theorem tM:letters.length=26:=by simp[letters]
variable (h:List UInt8)(o:List (List UInt8))(k j:Nat)
theorem nC:(ext h).length=26:=by simp[ext,letters]
theorem ext_getElem?(hj:j<26):(ext h)[j]? =some (h++[UInt8.ofNat (97+j)]):=by
 simp[ext,letters,hj]
theorem aCL:cand o 0 0=[]:=by simp[cand,exts]
theorem aES(hj:j<26):cand o k (j+1)=cand o k j++[o.getD k []++[UInt8.ofNat (97+j)]]:=by
 unfold cand;rw[jV,ext_getElem? _ _ hj,vJ];rfl
theorem aF0(hk:k<o.length):cand o k 26=cand o (k+1) 0:=by
 unfold cand exts;have a:(ext (o.getD k [])).take 26=ext (o.getD k []):=qW (by rw[nC];exact qC _)
 have b:o.take (k+1)=o.take k++[o.getD k []]:=by
  rw[jV,qA,qB hk];rfl
 rw[a,b,vA];simp
theorem aFW:cand o o.length 0=exts o:=by
 unfold cand;simp
theorem aHm:(cand o k j).length<=26*k+j:=by
 unfold cand exts
 rw[qE,qQ]
 have h:∀l:List (List UInt8),(l.flatMap ext).length=26*l.length:=by
  intro l
  induction l with
  | nil=>rfl
  | cons x r ih=>rw[vR,qE,ih,nC,qV];omega
 rw[h,qQ];omega
end Pm
namespace Pm
def search (a b:List UInt8):Nat→List (List UInt8)→Option (List (List UInt8))
 | 0,_=>none
 | n+1,o=>if(stems o a b).isEmpty then search a b n (longer o a b) else some (stems o a b)
variable {a b:List UInt8}{n:Nat}{o:List (List UInt8)}{c:UInt8}(x:UInt8)
theorem mS(h:stems o a b≠[]):search a b (n+1) o=some (stems o a b):=by
 rw[search];simp[h]
theorem lC(h:stems o a b=[]):search a b (n+1) o=search a b n (longer o a b):=by
 rw[search];simp[h]
theorem aAw:(letters.filter (· ==x)).length<=1:=by
 have:∀n:Fin 256,(letters.filter (· ==UInt8.ofNat n)).length<=1:=by decide +kernel
 have a:=this ⟨x.toNat,jX x⟩;simpa using a
theorem aAO(h:c ∈ letters):isLet c=true:=by
 simp only[letters,xV,vW] at h;obtain⟨i,a,rfl⟩:=h;simp[isLet];omega
theorem pW{h:List UInt8}(hp:(h++[c]).isPrefixOf a=true):a[h.length]? =some c:=by
 obtain⟨r,b⟩:=List.isPrefixOf_iff_prefix.1 hp;rw[<-b];simp
theorem aHG(l:List UInt8)(p:UInt8->Bool)(x y z:UInt8)(h:∀c ∈ l,p c=true->c=x\/c=y\/c=z)(h1:∀u,(l.filter (· ==u)).length<=1):(l.filter p).length<=3:=by
 have a:∀l:List UInt8,(∀c ∈ l,p c=true->c=x\/c=y\/c=z)->(l.filter p).length<=(l.filter (· ==x)).length+(l.filter (· ==y)).length+(l.filter (· ==z)).length:=by
  intro l
  induction l with
  | nil=>intro _;simp
  | cons c r ih=>
   intro hc
   have g:=ih (fun d hd=>hc d (jO _ hd))
   cases hp:p c with
   | false=>
    rw[List.filter_cons_of_neg (by simp[hp])]
    have b:(r.filter (· ==x)).length<=((c::r).filter (· ==x)).length:=by simp only[vD];split<;>simp
    have e:(r.filter (· ==y)).length<=((c::r).filter (· ==y)).length:=by simp only[vD];split<;>simp
    have f:(r.filter (· ==z)).length<=((c::r).filter (· ==z)).length:=by simp only[vD];split<;>simp
    omega
   | true=>
    rw[List.filter_cons_of_pos (by simp[hp]),qV]
    have b:(r.filter (· ==x)).length<=((c::r).filter (· ==x)).length:=by simp only[vD];split<;>simp
    have e:(r.filter (· ==y)).length<=((c::r).filter (· ==y)).length:=by simp only[vD];split<;>simp
    have f:(r.filter (· ==z)).length<=((c::r).filter (· ==z)).length:=by simp only[vD];split<;>simp
    rcases hc c xA hp with rfl | rfl | rfl
    ·have:((c::r).filter (· ==c)).length=(r.filter (· ==c)).length+1:=by simp
     omega
    ·have:((c::r).filter (· ==c)).length=(r.filter (· ==c)).length+1:=by simp
     omega
    ·have:((c::r).filter (· ==c)).length=(r.filter (· ==c)).length+1:=by simp
     omega
 have:=a l h
 have i:=h1 x
 have j:=h1 y
 have k:=h1 z
 omega
theorem aD7(h a b:List UInt8)(hno:∀t ∈ ext h,stem t a b=false):((ext h).filter fun t=>may t a b).length<=3:=by
 unfold ext at hno |-;rw[List.filter_map,jM];refine aHG _ _ 97 (a[h.length]?.getD 0) (b[h.length]?.getD 0) ?_ aAw;intro c hc hp;have d:=hno (h++[c]) (xV.2 ⟨c,hc,rfl⟩);simp only[Function.comp,may,xJ] at hp;rcases hp with hp | hp
 ·simp only[stem,hp,yY,xX] at d;rcases d with d | d
  ·left;simpa using d
  ·right;right;have:(h++[c]).isPrefixOf b=true:=by simpa using d
   rw[pW this];rfl
 ·right;left;rw[pW hp];rfl
theorem aEa(o:List (List UInt8))(a b:List UInt8)(hno:stems o a b=[]):(longer o a b).length<=3*o.length:=by
 have c:∀t ∈ exts o,stem t a b=false:=by
  intro t ht
  have d:=List.filter_eq_nil_iff.1 hno t ht
  simpa using d
 unfold longer
 clear hno
 induction o with
 | nil=>simp[exts]
 | cons h r ih=>
  have e:exts (h::r)=ext h++exts r:=by simp[exts]
  rw[e] at c |-
  rw[vS,qE,qV]
  have d:=aD7 h a b (fun t ht=>c t (xC _ ht))
  have g:=ih (fun t ht=>c t (yI _ ht))
  omega
theorem aFk{t:List UInt8}(h:t ∈ exts o):∃s ∈ o,∃c ∈ letters,t=s++[c]:=by
 obtain⟨s,a,b⟩:=kN.1 h;obtain⟨c,d,rfl⟩:=xV.1 b;exact⟨s,a,c,d,rfl⟩
def Flat (k:Nat) (o:List (List UInt8)):Prop:=∀t ∈ o,t.length=k∧t.all isLet=true
theorem Flat.exts{k:Nat}{o:List (List UInt8)}(h:Flat k o):Flat (k+1) (exts o):=by
 intro t ht
 obtain⟨s,hs,c,hc,rfl⟩:=aFk ht
 obtain⟨h1,h2⟩:=h s hs
 exact⟨by simp[h1],by rw[List.all_append,h2];simp[aAO hc]⟩
theorem Flat.longer{k:Nat}{o:List (List UInt8)}{a b:List UInt8}(h:Flat k o):Flat (k+1) (longer o a b):=
 fun t ht=>h.exts t (List.mem_filter.1 ht).1
theorem Flat.stems{k:Nat}{o:List (List UInt8)}{a b:List UInt8}(h:Flat k o):Flat (k+1) (stems o a b):=
 fun t ht=>h.exts t (List.mem_filter.1 ht).1
theorem Flat.start:Flat 0 [[]]:=by intro t ht;simp at ht;subst ht;simp
theorem eG{a b:List UInt8}:∀(n k:Nat) (o st:List (List UInt8)),Flat k o->search a b n o=some st->
  st≠[]/\∃m,k<m/\m<=k+n/\Flat m st/\∀t ∈ st,stem t a b=true
 | 0,_,_,_,_,h=>by simp[search] at h
 | n+1,k,o,st,hf,h=>by
  by_cases hs:Pm.stems o a b=[]
  ·rw[lC hs] at h
   obtain⟨h1,m,h2,h3,h4⟩:=eG n (k+1) _ st hf.longer h
   exact⟨h1,m,by omega,by omega,h4⟩
  ·rw[mS hs] at h
   simp only[Option.some.injEq] at h
   subst h
   exact⟨hs,k+1,by omega,by omega,hf.stems,fun t ht=>(yH.1 ht).2⟩
end Pm
namespace Pm
def pick (st:List (List UInt8)):List UInt8:=st.getD ((st.length-1)/4) []
def roomErr (a b:List UInt8):Int:=
 if sides a b≠0 then sides a b else if(search a b 11 [[]]).isNone then 8 else 0
def oK (a b:List UInt8):Int:=
 if sides a b≠0 then 0 else match search a b 11 [[]] with
  | none=>0
  | some st=>((st.getD 0 []).length:Int)+1
def betErr (a b:List UInt8) (who:Int):Int:=if isWho who then roomErr a b else 1
def betText (a b:List UInt8) (who:Int):List UInt8:=
 if isWho who then(if sides a b≠0 then[] else match search a b 11 [[]] with
  | none=>[]
  | some st=>pick st++[UInt8.ofNat (97+who.toNat)]) else[]
end Pm
namespace Pm
open Op (bytesLess)
theorem bD:∀a:List UInt8,bytesLess a a=false
 | []=>rfl
 | x::r=>by simp[bytesLess,bD r]
theorem cL:∀{a b:List UInt8},bytesLess a b=true->bytesLess b a=false
 | _,[],h=>by simp[bytesLess] at h
 | [],_::_,_=>rfl
 | x::r,y::s,h=>by
  simp only[bytesLess,xJ,decide_eq_true_eq,qX,beq_iff_eq] at h
  simp only[bytesLess,vK,decide_eq_false_iff_not,xX]
  rcases h with h | ⟨rfl,h⟩
  ·have h2:=xY.1 h
   refine⟨fun h3=> ?_,qH ?_⟩
   ·have:y.toNat<x.toNat:=xY.1 h3
    omega
   ·rw[beq_eq_false_iff_ne]
    intro e;subst e;omega
  ·exact⟨fun h3=>by have:x.toNat<x.toNat:=xY.1 h3;omega,qF (cL h)⟩
theorem bT:∀{a b:List UInt8},bytesLess a b=false->a≠b->bytesLess b a=true
 | [],[],_,h=>absurd rfl h
 | _::_,[],_,_=>rfl
 | [],_::_,h,_=>by simp[bytesLess] at h
 | x::r,y::s,h,hne=>by
  simp only[bytesLess,vK,decide_eq_false_iff_not,xX] at h
  simp only[bytesLess,xJ,decide_eq_true_eq,qX,beq_iff_eq]
  by_cases e:x=y
  ·subst e
   right
   refine⟨rfl,bT ?_ ?_⟩
   ·rcases h.2 with h2 | h2
    ·simp at h2
    ·exact h2
   ·intro e2;exact hne (by rw[e2])
  ·left
   rw[xY]
   have h1:¬x.toNat<y.toNat:=fun h3=>h.1 (xY.2 h3)
   have h2:x.toNat≠y.toNat:=fun h3=>e (yU.1 h3)
   omega
variable {t a b:List UInt8}{who:Int}{m:Nat}
theorem aAQ(r:List UInt8):∀{a:List UInt8},bytesLess a t=true->bytesLess a (t++r)=true:=by
 induction t with
 | nil=>intro a h;cases a<;>simp[bytesLess] at h
 | cons y s ih=>
  intro a h
  cases a with
  | nil=>rfl
  | cons x q=>
   simp only[jJ,bytesLess,xJ,decide_eq_true_eq,qX,beq_iff_eq] at h |-
   rcases h with h | ⟨h1,h2⟩
   ·exact qH h
   ·exact qF ⟨h1,ih h2⟩
theorem mO(r:List UInt8):∀{t b:List UInt8},bytesLess t b=true->t.isPrefixOf b=false->bytesLess (t++r) b=true
 | [],b,_,h=>by simp at h
 | _::_,[],h,_=>by simp[bytesLess] at h
 | x::t,y::b,h,hp=>by
  simp only[jJ,bytesLess,xJ,decide_eq_true_eq,qX,beq_iff_eq] at h |-
  rcases h with h | ⟨rfl,h2⟩
  ·exact qH h
  ·refine qF ⟨rfl,mO r h2 ?_⟩
   simpa[List.isPrefixOf] using hp
structure Made (a b:List UInt8) (who:Int) (t:List UInt8) (m:Nat):Prop where
 who1:1≤who
 who8:who≤8
 lens:t.length=m
 pos:0<m
 m11:m≤11
 lets:t.all isLet=true
 stem:stem t a b=true
theorem aIa(h:betErr a b who=0):∃t,∃m:Nat,betText a b who=t++[UInt8.ofNat (97+who.toNat)]/\roomErr a b=0/\oK a b=(m:Int)+1/\Made a b who t m/\
  ∀o,betErr a b o=0->betText a b o=t++[UInt8.ofNat (97+o.toNat)]/\1<=o/\o<=8:=by
 cases hw:isWho who with
 | false=>simp[betErr,hw] at h
 | true=>
  have i:roomErr a b=0:=by simpa[betErr,hw] using h
  have d:1<=who/\who<=8:=by simpa[isWho] using hw
  by_cases f:sides a b=0
  ·cases hf:search a b 11 [[]] with
   | none=>simp[roomErr,f,hf] at i
   | some st=>
    obtain⟨k,m,r,s,g,l⟩:=eG 11 0 [[]] st Flat.start hf
    have n:0<st.length:=by cases st with
     | nil=>exact absurd rfl k
     | cons _ _=>simp
    have p:(st.length-1)/4<st.length:=by omega
    have e:pick st=st[(st.length-1)/4]:=by unfold pick;rw[qA,qB p];rfl
    have q:st.getD 0 []=st[0]:=by rw[qA,qB n];rfl
    have c:pick st ∈ st:=by rw[e];exact jF p
    refine⟨pick st,m,by simp[betText,hw,f,hf],i, ?_,⟨d.1,d.2,(g _ c).1,by omega,by omega,(g _ c).2,l _ c⟩, ?_⟩
    ·simp only[oK,f,hf]
     have:=(g _ (jF n)).1
     rw[q,this];simp
    ·intro o ho
     cases hwo:isWho o with
     | false=>simp[betErr,hwo] at ho
     | true=>
      have j:1<=o/\o<=8:=by simpa[isWho] using hwo
      exact⟨by simp[betText,hwo,f,hf],j⟩
  ·simp[roomErr,f] at i
theorem tU(t:List UInt8)(who:Int)(h1:1<=who)(h8:who<=8):whoOf (t++[UInt8.ofNat (97+who.toNat)])=who:=by
 unfold whoOf;have:(UInt8.ofNat (97+who.toNat)).toNat=97+who.toNat:=by simp;omega
 simp only[List.getLast?_append,List.getLast?_singleton,Option.some_or,xT,this];omega
theorem aFU(h:Made a b who t m):chk (t++[UInt8.ofNat (97+who.toNat)])=0:=by
 obtain⟨e,f,g,o,n,d,c⟩:=h;have i:(t++[UInt8.ofNat (97+who.toNat)]).length=m+1:=by simp[g]
 have j:(t++[UInt8.ofNat (97+who.toNat)]).all isLet=true:=by
  rw[yM,d];simp[isLet];omega
 have k:((t++[UInt8.ofNat (97+who.toNat)]).dropLast.getLast? ==some 97)=false:=by
  have:(t++[UInt8.ofNat (97+who.toNat)]).dropLast=t:=by simp
  rw[this];simp only[stem,qX] at c;simpa using c.1.2
 have l:isWho (whoOf (t++[UInt8.ofNat (97+who.toNat)]))=true:=by
  rw[tU t who e f];simp[isWho,e,f]
 unfold chk;rw[i,j,k,l,if_neg (by omega),if_neg (by omega)];rfl
theorem aBS(h:Made a b who t m)(r:List UInt8):(bytesLess (t++r) a||(t++r)==a)=false:=by
 have c:=h.stem;simp only[stem,inside,qX] at c;have d:=c.1.1.1;simp only[Bool.not_eq_true',vK,beq_eq_false_iff_ne] at d;have f:=aAQ r (bT d.1 d.2);rw[cL f,Bool.false_or,beq_eq_false_iff_ne];intro e;rw[e,bD] at f;cases f
theorem aBQ(h:Made a b who t m)(r:List UInt8)(hb:b.isEmpty=false):bytesLess (t++r) b=true:=by
 have c:=h.stem;simp only[stem,inside,qX] at c;have d:=c.1.1.2;rw[hb,Bool.false_or] at d;exact mO r d (by simpa using c.2)
end Pm
namespace Pm
open Op (bytesLess)
theorem kB(r:List UInt8):∀{s b:List UInt8},bytesLess (s++r) b=true->bytesLess s b=true
 | _,[],h=>by simp[bytesLess] at h
 | [],_::_,_=>rfl
 | x::s,y::b,h=>by
  simp only[jJ,bytesLess,xJ,decide_eq_true_eq,qX,beq_iff_eq] at h |-
  rcases h with h | ⟨h1,h2⟩
  ·exact qH h
  ·exact qF ⟨h1,kB r h2⟩
variable {s r:List UInt8}(a b:List UInt8)(k:Nat)
theorem aDQ{a b:List UInt8}(h:inside (s++r) a b=true):may s a b=true:=by
 unfold may
 cases hp:s.isPrefixOf a with
 | true=>simp
 | false=>
  rw[Bool.or_false]
  simp only[inside,qX,Bool.not_eq_true',vK,xJ] at h |-
  obtain⟨⟨d,f⟩,c⟩:=h
  refine⟨⟨?_, ?_⟩, ?_⟩
  ·cases hl:bytesLess s a with
   | false=>rfl
   | true=>rw[mO r hl hp] at d;cases d
  ·rw[beq_eq_false_iff_ne]
   intro e
   rw[e] at hp
   have:a.isPrefixOf a=true:=List.isPrefixOf_iff_prefix.2 (List.prefix_refl a)
   rw[this] at hp;cases hp
  ·rcases c with c | c
   ·exact qH c
   ·exact qF (kB r c)
theorem rE{a b:List UInt8}(h:may (s++r) a b=true):may s a b=true:=by
 simp only[may,xJ] at h;rcases h with h | h
 ·exact aDQ h
 ·simp only[may,xJ];right;rw[List.isPrefixOf_iff_prefix] at h |-;exact List.IsPrefix.trans (List.prefix_append s r) h
def texts:Nat→List (List UInt8)
 | 0=>[[]]
 | k+1=>exts (texts k)
def lev (a b:List UInt8) (m:Nat):List (List UInt8):=(texts m).filter fun t=>stem t a b
theorem gN(p q:List UInt8->Bool)(h:∀s c,q (s++[c])=true->p s=true):∀l:List (List UInt8),(exts (l.filter p)).filter q=(exts l).filter q
 | []=>rfl
 | s::l=>by
  have e:∀x y,exts (x::y)=ext x++exts y:=fun x y=>by simp[exts]
  rw[e,vS]
  cases hp:p s with
  | true=>rw[List.filter_cons_of_pos hp,e,vS,gN p q h l]
  | false=>
   rw[List.filter_cons_of_neg (by simp[hp]),gN p q h l]
   have:(ext s).filter q=[]:=by
    rw[List.filter_eq_nil_iff]
    intro t ht
    obtain⟨c,_,rfl⟩:=xV.1 ht
    intro hq
    rw[h s c hq] at hp;cases hp
   rw[this,vC]
theorem kV:stems ((texts k).filter fun t=>may t a b) a b=lev a b (k+1):=by
 unfold stems lev;exact gN (fun t=>may t a b) (fun t=>stem t a b) (fun s c h=>rE (aBq h)) (texts k)
theorem yO:longer ((texts k).filter fun t=>may t a b) a b=(texts (k+1)).filter fun t=>may t a b:=by
 unfold longer;exact gN (fun t=>may t a b) (fun t=>may t a b) (fun s c h=>rE h) (texts k)
theorem aBn:[[]]=(texts 0).filter fun t=>may t a b:=by
 have:may [] a b=true:=by simp[may]
 simp[texts,this]
theorem search_lev(a b:List UInt8):∀(n k:Nat),
  (∃m,k<m/\m<=k+n/\lev a b m≠[]/\(∀j,k<j->j<m->lev a b j=[])/\search a b n ((texts k).filter fun t=>may t a b)=some (lev a b m))\/
  ((∀j,k<j->j<=k+n->lev a b j=[])/\search a b n ((texts k).filter fun t=>may t a b)=none)
 | 0,k=>qF ⟨fun j h1 h2=>by omega,rfl⟩
 | n+1,k=>by
  by_cases h:lev a b (k+1)=[]
  ·have hs:stems ((texts k).filter fun t=>may t a b) a b=[]:=by rw[kV,h]
   rw[lC hs,yO]
   rcases search_lev a b n (k+1) with⟨m,h1,h2,h3,h4,h5⟩ | ⟨h1,h2⟩
   ·refine qH ⟨m,by omega,by omega,h3,fun j j1 j2=> ?_,h5⟩
    rcases xR (k+1) j with hj | hj
    ·exact h4 j hj j2
    ·rw[show j=k+1 from by omega];exact h
   ·refine qF ⟨fun j j1 j2=> ?_,h2⟩
    rcases xR (k+1) j with hj | hj
    ·exact h1 j hj (by omega)
    ·rw[show j=k+1 from by omega];exact h
  ·have hs:stems ((texts k).filter fun t=>may t a b) a b≠[]:=by rw[kV];exact h
   rw[mS hs,kV]
   exact qH ⟨k+1,by omega,by omega,h,fun j j1 j2=>by omega,rfl⟩
theorem search_first:
  (∃m,0<m/\m<=11/\lev a b m≠[]/\(∀j,0<j->j<m->lev a b j=[])/\search a b 11 [[]]=some (lev a b m))\/
  ((∀j,0<j->j<=11->lev a b j=[])/\search a b 11 [[]]=none):=by
 have h:=search_lev a b 11 0;rw[<-aBn] at h;simpa using h
end Pm
namespace Pm
open Op (bytesLess)
theorem lW(s:List UInt8)(u v:List UInt8):bytesLess (s++u) (s++v)=bytesLess u v:=by
 induction s with
 | nil=>rfl
 | cons x s ih=>
  simp only[jJ,bytesLess,ih]
  have:¬x<x:=by intro h;have:x.toNat<x.toNat:=xY.1 h;omega
  simp[this]
end Pm
end Go.Proofs.YtjcemlmlfoilmaaGreatDoor
